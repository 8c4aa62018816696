/-
  The walk of the document's New.
-/
import Derived.Test.YtlmbbohhdgeedaaDoorOzKM
import Derived.Deep.CutRange
namespace Go.Proofs.YtlmbbohhdgeedaaDoor
open Go.RowKit
theorem step_append_own_at {P : Program} {ops : Array Oper} {o : Oper} {a : Act} {w : World} {K : Act → World → Prop} {Q : Exit → Act → World → Prop} {E : Prop} (hg : o.guard = none) (s x : Operand) (t : TypeId)
    (ho : o.op = .call { callee := .builtin .append, args := #[s, x], argTypes := #[t, t] })
    (base : Nat) (e : TypeId) (i : TypeInfo) (z : Value) (size bytes : Nat) (ht : P.underlying t = some (.slice e)) (hi : P.info? e = some i) (hz : i.zero = some z)
    (hsize : i.size = size) (hby : i.bytes = bytes) (hzs : z.cells.size = size) (hsz : 0 < size)
    (v : Value) (n : Nat) (xs : List Value) (hs : a.eval s = v) (hown : w.ownsRow base e size v n xs)
    (ad : Addr) (m c : Nat) (news : List Value) (hx : a.eval x = .slice (some ad) m c) (hl : news.length = m * size) (hnews : ∀ j u, news[j]? = some u → w.cell? (ad.add j) = some u) (h1 : ∀ u ∈ news, u.oneCell' = true)
    (h63 : n + m ≤ maxLen) (hbytes : (n + m) * bytes ≤ 140737488355328) (hbase : base ≤ w.heap.size)
    (h : ∀ v' w', w'.ownsRow base e size v' (n + m) (xs ++ news) → w.grownBy w' v.ownBlock → (v'.ownBlock = v.ownBlock ∨ v'.ownBlock = some w.heap.size) → K (a.put o.dst v') w') :
    if Region.wanted o (yielded ops a.tmps) = true then Oper.wp P o a w K Q else E := by
  have hw : Region.wanted o (yielded ops a.tmps) = true := by simp [Region.wanted, hg]
  rw [if_pos hw]
  obtain ⟨v', w', hr, h2, h3, _, h5⟩ := run_append_own_at (P := P) w base t o.type e i z size bytes ht hi hz hsize hby hzs hsz v n xs hown ad m c news hl hnews h1 h63 hbytes hbase
  unfold Oper.wp execOp
  simp only [ho, resolve, invoke, builtin, Sem.run_bind, Sem.run_pure, Result.andThen_ok, List.map_toArray, List.map_cons, List.map_nil, hs, hx, hr]
  exact h v' w' h2 h3 h5
theorem row1 {w : World} {g : Nat} {a : Value} {t : TypeId} (h : w.heap[g]? = some (.cells #[a] t (0, 0))) : w.cell? ⟨g, 0, none⟩ = some a ∧ w.frozen? ⟨g, 0, none⟩ = false :=
  ⟨by rw [cell_of_row _ _ _ _ _ _ h]; rfl, by simp [World.frozen?, h]⟩
set_option maxRecDepth 10000 in
set_option maxHeartbeats 3200000 in
theorem refNew_any (s : ByteArray) (hs : s.size ≤ 4194400) (w : World) :
    Calls Tryd.prog 18 #[.string s] w fun e w' => ∃ B, e = .returned (.pointer (some ⟨B, 0, none⟩)) ∧ w.heap.size ≤ B ∧ MapAt w' B (allP s.data.toList) ∧ Below w.heap.size w w' := by
  obtain ⟨i0, hi, hz0, hz1, hz2⟩ := info_parts infoPlR
  have HSp := hid (refSplit_any s hs w)
  have hUl : (unitsOf s.data.toList).length ≤ s.size := by have := units_le s; omega
  have HSt : Hid (∀ k, k ≤ (unitsOf s.data.toList).length → (stK (unitsOf s.data.toList) k).b ≤ s.size ∧ (stK (unitsOf s.data.toList) k).u ≤ k ∧ (stK (unitsOf s.data.toList) k).w ≤ 2 * k ∧ (stK (unitsOf s.data.toList) k).l ≤ k + 1 ∧ (stK (unitsOf s.data.toList) k).c ≤ k + 1) := hid (fun k hk => by
    obtain ⟨a1, a2, a3, _, a5, _, a7⟩ := stK_le s.data.toList k hk
    rw [bsize] at a1
    exact ⟨a1, a2, a3, a5, a7⟩)
  have HAl : Hid (allP s.data.toList = plN (unitsOf s.data.toList) ((unitsOf s.data.toList).length + 1)) := hid rfl
  generalize allP s.data.toList = AL at *
  generalize unitsOf s.data.toList = U at *
  go_enter Tryd.func18, Tryd.ntmps18
  go_wp2_with (first
    | (go_at_call 34; refine HSp.out.mono ?_; rintro e w1 ⟨v, rfl, ho, hb⟩; obtain ⟨a, cap, rfl, hua⟩ := ho.at.ua; have HUA := hid hua; have HB1 := hid hb; have hsz1 := hb.size; clear ho hua hb HSp)
    | fail)
  obtain ⟨wl, hwl⟩ : ∃ wl, wl = ((w1.alloc (.cells #[.int .i64 0, .int .i64 0, .int .i64 0, .int .i64 1, .int .i64 1] 72)).alloc (.cells #[.int .i64 0, .int .i64 0, .int .i64 0, .int .i64 1, .int .i64 1] 72)).alloc (.cells #[.slice (some ⟨w1.heap.size + 1, 0, none⟩) 1 1] 75) := ⟨_, rfl⟩
  have HR0 : Hid (RJ w1 wl w1.heap.size (w1.heap.size + 2) (.slice (some ⟨w1.heap.size + 1, 0, none⟩) 1 1) U 0) := hid (by
    have hb : Below w1.heap.size w1 wl := by rw [hwl]; exact (((Below.refl _ w1).alloc (Nat.le_refl _) _).alloc (by simp) _).alloc (by simp; omega) _
    refine RJ.start U ?_ ?_ ?_ hb
    · rw [hwl, Below.heap_alloc _ _ _ (by simp; omega), Below.heap_alloc _ _ _ (by simp)]; exact heap_alloc_new w1 _
    · rw [hwl, Below.heap_alloc _ _ _ (by simp)]
      have h := heap_alloc_new (w1.alloc (.cells #[.int .i64 0, .int .i64 0, .int .i64 0, .int .i64 1, .int .i64 1] 72)) (.cells #[.int .i64 0, .int .i64 0, .int .i64 0, .int .i64 1, .int .i64 1] 72)
      rw [World.size_alloc] at h
      exact h
    · have h := heap_alloc_new ((w1.alloc (.cells #[.int .i64 0, .int .i64 0, .int .i64 0, .int .i64 1, .int .i64 1] 72)).alloc (.cells #[.int .i64 0, .int .i64 0, .int .i64 0, .int .i64 1, .int .i64 1] 72)) (.cells #[.slice (some ⟨w1.heap.size + 1, 0, none⟩) 1 1] 75)
      rw [World.size_alloc, World.size_alloc] at h
      rw [hwl]; exact h)
  have hfold := hwl.symm
  clear hwl
  try rw [hfold]
  clear hfold
  obtain ⟨X, hX⟩ : ∃ X, X = w1.heap.size := ⟨_, rfl⟩
  obtain ⟨M, hM⟩ : ∃ M, M = w1.heap.size + 2 := ⟨_, rfl⟩
  rw [← hM, ← hX] at HR0
  try rw [← hM]
  try rw [← hX]
  have hXge : w1.heap.size ≤ X := by omega
  have hXM : X < M := by omega
  have HMge : Hid (w.heap.size ≤ M) := hid (by omega)
  clear hX hM
  go_loopw [6] (fun i wr => ∃ (k : Nat) (v : Value), k ≤ U.length ∧ i = .int .i64 (k : Int) ∧ Hid (RJ w1 wr X M v U k)) (fun i _ => U.length - (intOf i).toNat)
  case atStart => exact ⟨0, _, Nat.zero_le _, rfl, HR0⟩
  case round =>
    obtain ⟨k, v, hk, rfl, HP⟩ := hrel
    have hwr := HP.out.bel.size
    obtain ⟨av, cv, rfl⟩ : ∃ a c, v = .slice a (k + 1) c := by obtain ⟨a, c, h, _⟩ := HP.out.own.pa; rw [plN_len] at h; exact ⟨a, c, h⟩
    obtain ⟨cM, fM⟩ := row1 HP.out.rowM
    by_cases hlt : k < U.length
    · obtain ⟨b1, o1, rfl, d0', d1', d2'⟩ := HUA.out.at' k hlt
      have d0 := (HP.out.bel.cell (p := ⟨b1, o1 + k * 3, none⟩) (World.block_lt_of_cell? w1 _ d0')).trans d0'
      have d2 := (HP.out.bel.cell (p := ⟨b1, o1 + k * 3 + 2, none⟩) (World.block_lt_of_cell? w1 _ d2')).trans d2'
      have hbx : b1 ≠ X := by have := World.block_lt_of_cell? w1 _ d0'; simp only at this; omega
      obtain ⟨t1, t2, t3, t4, t5⟩ := HSt.out k hk
      have hst := stK_step U k hlt
      have hkI : (k : Int) < (U.length : Int) := by omega
      generalize hUk : U[k] = u at *
      clear hUk
      obtain ⟨pt, ua, ub⟩ := u
      simp only at d0 d2
      have hub : ub ≤ s.size := by have := (HSt.out (k + 1) hlt).1; rw [hst] at this; exact this
      have hwd := wid_pos pt
      have HX0 : Hid (XS wr wr X (stK U k)) := hid (XS.refl HP.out.rowX)
      obtain ⟨P, hP⟩ : ∃ P, P = stK U k := ⟨_, rfl⟩
      rw [← hP] at HX0 hst t1 t2 t3 t4 t5
      obtain ⟨pb, pu, pw, pl, pc⟩ := P
      simp only at t1 t2 t3 t4 t5
      obtain ⟨⟨y0, y1, y2, y3, y4⟩, f0, f1, f2, f3, f4⟩ := row5 HX0.out.row
      simp only at y0 y1 y2 y3 y4
      have hXMne : X ≠ M := by omega
      clear d0' d1' d2'
      go_upto_if 39 with (fail)
      go_cut [] from 40 to 43 (fun wx => Hid (XS wr wx X ⟨ub, pu + 1, pw + widP pt, pl, pc⟩))
      case first =>
        have hx3 := ((HX0.out.setB ub).setU (pu + 1)).setW (pw + 1)
        simp only at hx3
        push_cast at hx3
        by_cases h16 : 65535 < pt
        · have hwE : widP pt = 2 := if_pos h16
          have hx4 := hx3.setW (pw + 2)
          push_cast at hx4
          have HX4 := hid hx4
          have HwE := hid hwE
          clear hx3 hx4
          go_wp2
          go_meet
          rw [HwE.out]
          exact HX4
        · have HwE : Hid (widP pt = 1) := hid (if_neg h16)
          have HX4 := hid hx3
          clear hx3
          go_wp2
          go_meet
          rw [HwE.out]
          exact HX4
      case rest =>
        have HC := hcut
        clear hcut y0 y1 y2 y3 y4 f0 f1 f2 f3 f4
        have e0 := (World.cell?_of_block (a := ⟨b1, o1 + k * 3, none⟩) (HC.out.oth b1 hbx)).trans d0
        obtain ⟨⟨y0, y1, y2, y3, y4⟩, f0, f1, f2, f3, f4⟩ := row5 HC.out.row
        simp only at y0 y1 y2 y3 y4
        go_upto_if 53 with (fail)
        go_cut [] from 54 to 58 (fun wx => Hid (XS wr wx X (stK U (k + 1))))
        case first =>
          have hx3 := HC.out.setC (pc + 1)
          simp only at hx3
          push_cast at hx3
          by_cases h10 : pt = 10
          · have hx4 := (hx3.setL (pl + 1)).setC 1
            simp only at hx4
            push_cast at hx4
            have HX4 := hid hx4
            have HE : Hid (stK U (k + 1) = ⟨ub, pu + 1, pw + widP pt, pl + 1, 1⟩) := hid (by rw [hst, stP]; simp only [h10, if_true])
            subst h10
            clear hx3 hx4 hst
            go_wp2
            go_meet
            rw [HE.out]
            exact HX4
          · have HX4 := hid hx3
            have HE : Hid (stK U (k + 1) = ⟨ub, pu + 1, pw + widP pt, pl, pc + 1⟩) := hid (by rw [hst, stP]; simp only [h10, if_false])
            have h10b : (pt == 10) = false := by simpa using h10
            clear hx3 hst
            go_wp2
            go_meet
            rw [HE.out]
            exact HX4
        case rest =>
          have HD := hcut
          clear hcut HC y0 y1 y2 y3 y4 f0 f1 f2 f3 f4 e0 d0 d2
          obtain ⟨Q, hQ⟩ : ∃ Q, Q = stK U (k + 1) := ⟨_, rfl⟩
          have HQ := hid hQ
          have hrow := HD.out.row
          rw [← hQ] at hrow
          obtain ⟨qb, qu, qw, ql, qc⟩ := Q
          obtain ⟨hSx, _⟩ := row5 hrow
          simp only at hSx
          have cMx := (World.cell?_of_block (a := ⟨M, 0, none⟩) (HD.out.oth M (fun e => hXMne e.symm))).trans cM
          have hwx := HD.out.bel.size
          clear hrow hst
          generalize hwcn : wc = wx at *
          clear hwcn
          have HOx : Hid (wx.ownsRow w1.heap.size 72 5 (.slice av (k + 1) cv) (k + 1) (cellsP (plN U (k + 1)))) := hid (by
            have h := HP.out.own.keep (w' := wx) (fun g hg => HD.out.oth g (fun e => HP.out.neX (e ▸ hg)))
            unfold OwnPl at h
            rw [plN_len] at h
            exact h)
          have HNx : Hid (∀ (v2 : Value) (w2 : World) (o : Obj), w2.ownsRow w1.heap.size 72 5 v2 (k + 1 + 1) (cellsP (plN U (k + 1)) ++ [.int .i64 (qb : Int), .int .i64 (qu : Int), .int .i64 (qw : Int), .int .i64 (ql : Int), .int .i64 (qc : Int)]) → (wx.drew.alloc o).grownBy w2 (Value.slice av (k + 1) cv).ownBlock → (v2.ownBlock = (Value.slice av (k + 1) cv).ownBlock ∨ v2.ownBlock = some (wx.drew.alloc o).heap.size) → RJ w1 (w2.setCell ⟨M, 0, none⟩ v2) X M v2 U (k + 1) ∧ w2.heap[M]? = some (.cells #[.slice av (k + 1) cv] 75 (0, 0)) ∧ w2.heap[X]? = some (ob5 (stK U (k + 1)) 72)) := hid (fun v2 w2 o h1 h2 h3 => HP.out.next (wx := wx.drew) ⟨HD.out.row, HD.out.oth, HD.out.bel.drew⟩ (by rw [← hQ]; exact h1) h2 h3)
          have hSa : ∀ o, (fun W : World => W.cell? ⟨X, 0, none⟩ = some (.int .i64 (qb : Int)) ∧ W.cell? ⟨X, 1, none⟩ = some (.int .i64 (qu : Int)) ∧ W.cell? ⟨X, 2, none⟩ = some (.int .i64 (qw : Int)) ∧ W.cell? ⟨X, 3, none⟩ = some (.int .i64 (ql : Int)) ∧ W.cell? ⟨X, 4, none⟩ = some (.int .i64 (qc : Int))) (wx.drew.alloc o) := fun o => by
            have hr := (Below.heap_alloc wx.drew o X (Array.getElem?_eq_some_iff.1 HD.out.row).1).trans HD.out.row
            rw [← HQ.out] at hr
            exact (row5 hr).1
          have HSa := hid hSa
          have hXlt := (Array.getElem?_eq_some_iff.1 HD.out.row).1
          have hMlt := World.block_lt_of_cell? wx _ cMx
          simp only at hMlt
          clear hQ hSa HD
          go_upto_region 16 with (fail)
          refine wp_region_held_drew (S := (fun W => W.cell? ⟨X, 0, none⟩ = some (.int .i64 (qb : Int)) ∧ W.cell? ⟨X, 1, none⟩ = some (.int .i64 (qu : Int)) ∧ W.cell? ⟨X, 2, none⟩ = some (.int .i64 (qw : Int)) ∧ W.cell? ⟨X, 3, none⟩ = some (.int .i64 (ql : Int)) ∧ W.cell? ⟨X, 4, none⟩ = some (.int .i64 (qc : Int)))) (by kernel_rfl) ?_ (fun hHeld => ?_)
          · exact hSx
          refine tkV (i := 0) (d := some 59) (v := ?_) rfl (by kernel_rfl) (by kernel_rfl) (by kernel_rfl) rfl (fun _ _ _ h => h) (by rfl) ?_ (by assumption) ?_
          rotate_left
          · (intro w hSw; (try dsimp only at hSw); (try simp only [List.getElem_toArray, List.getElem_cons_zero]); go_simp; try with_reducible rfl)
          (try simp only [Act.put]); (try simp only [List.setIfInBounds_toArray]); (try simp only [List.set_cons_succ]); (try simp only [List.set_cons_zero])
          refine tkV (i := 1) (d := some 60) (v := ?_) rfl (by kernel_rfl) (by kernel_rfl) (by kernel_rfl) rfl (fun _ _ _ h => h) (by rfl) ?_ (by assumption) ?_
          rotate_left
          · (intro w hSw; (try dsimp only at hSw); (try simp only [List.getElem_toArray, List.getElem_cons_zero, List.getElem_cons_succ]); go_simp; try with_reducible rfl)
          (try simp only [Act.put]); (try simp only [List.setIfInBounds_toArray]); (try simp only [List.set_cons_succ]); (try simp only [List.set_cons_zero])
          refine tkV (i := 2) (d := some 61) (v := ?_) rfl (by kernel_rfl) (by kernel_rfl) (by kernel_rfl) rfl (fun _ _ _ h => h) (by rfl) ?_ (by assumption) ?_
          rotate_left
          · (intro w hSw; (try dsimp only at hSw); (try simp only [List.getElem_toArray, List.getElem_cons_zero, List.getElem_cons_succ]); go_simp; try with_reducible rfl)
          (try simp only [Act.put]); (try simp only [List.setIfInBounds_toArray]); (try simp only [List.set_cons_succ]); (try simp only [List.set_cons_zero])
          refine tkV (i := 3) (d := some 62) (v := ?_) rfl (by kernel_rfl) (by kernel_rfl) (by kernel_rfl) rfl (fun _ _ _ h => h) (by rfl) ?_ (by assumption) ?_
          rotate_left
          · (intro w hSw; (try dsimp only at hSw); (try simp only [List.getElem_toArray, List.getElem_cons_zero, List.getElem_cons_succ]); go_simp; try with_reducible rfl)
          (try simp only [Act.put]); (try simp only [List.setIfInBounds_toArray]); (try simp only [List.set_cons_succ]); (try simp only [List.set_cons_zero])
          refine tkV (i := 5) (d := some 64) (v := ?_) rfl (by kernel_rfl) (by kernel_rfl) (by kernel_rfl) rfl (fun _ _ _ h => h) (by rfl) ?_ (by assumption) ?_
          rotate_left
          · (intro w hSw; (try dsimp only at hSw); (try simp only [List.getElem_toArray, List.getElem_cons_zero, List.getElem_cons_succ]); go_simp; try with_reducible rfl)
          (try simp only [Act.put]); (try simp only [List.setIfInBounds_toArray]); (try simp only [List.set_cons_succ]); (try simp only [List.set_cons_zero])
          refine wpAnyH_ready (rs := [4, 6]) (by kernel_rfl) (by simp) (AllReadyH.cons rfl (fun K hK => ?_) (AllReadyH.cons rfl (fun K hK => ?_) AllReadyH.nil))
          · try simp only [List.getElem_toArray, List.getElem_cons_zero, List.getElem_cons_succ]
            go_simp
            refine hK.out _ _ ?_ (fun hHeld3 => ?_)
            · first | assumption | exact hSx | exact HSa.out _ | exact hS2 | exact hS3
            clear hK K
            (try simp only [Act.put]); (try simp only [List.setIfInBounds_toArray]); (try simp only [List.set_cons_succ]); (try simp only [List.set_cons_zero])
            refine wpAnyH_ready (rs := [6]) (by kernel_rfl) (by simp) (AllReadyH.cons rfl (fun K hK => ?_) AllReadyH.nil)
            try simp only [List.getElem_toArray, List.getElem_cons_zero, List.getElem_cons_succ]
            go_simp
            refine hK.out _ _ ?_ (fun hHeld4 => ?_)
            · first | assumption | exact hSx | exact HSa.out _ | exact hS2 | exact hS3
            clear hK K
            (try simp only [Act.put]); (try simp only [List.setIfInBounds_toArray]); (try simp only [List.set_cons_succ]); (try simp only [List.set_cons_zero])
            refine wpAnyH_ready (rs := [7]) (by kernel_rfl) (by simp) (AllReadyH.cons rfl (fun K hK => ?_) AllReadyH.nil)
            refine step_append_own_at (by rfl) _ _ 73 (by rfl) w1.heap.size 72 i0 (.agg #[.int .i64 0, .int .i64 0, .int .i64 0, .int .i64 0, .int .i64 0]) 5 40 Tryd.underlying73 hi hz0 hz1 hz2 rfl (by decide) (.slice av (k + 1) cv) (k + 1) (cellsP (plN U (k + 1))) (by rfl) (World.ownsRow.alloc (w := wx.drew) HOx.out _) ⟨_, 0, none⟩ 1 1 [.int .i64 (qb : Int), .int .i64 (qu : Int), .int .i64 (qw : Int), .int .i64 (ql : Int), .int .i64 (qc : Int)] (by rfl) (by rfl) (cell5_new wx.drew _ _ _ _ _ _) (fun u hu => by simp only [List.mem_cons, List.not_mem_nil, or_false] at hu; rcases hu with rfl | rfl | rfl | rfl | rfl <;> rfl) (by unfold maxLen; omega) (by omega) (by simp; omega) ?_
            intro v2 w2 hown2 hgrow2 hat2
            obtain ⟨HN, hM2, hX2⟩ := HNx.out v2 w2 _ hown2 hgrow2 hat2
            obtain ⟨a2, c2, rfl⟩ : ∃ a c, v2 = .slice a (k + 1 + 1) c := by obtain ⟨a, c, h, _⟩ := HN.own.pa; rw [plN_len] at h; exact ⟨a, c, h⟩
            have HNh := hid HN
            obtain ⟨c_M, f_M⟩ := row1 hM2
            have hS2 := (row5 hX2).1
            have hS3 := (row5 HN.rowX).1
            rw [← HQ.out] at hS2 hS3
            simp only at hS2 hS3
            clear hown2 hgrow2 hat2 hM2 hX2 HN HNx
            refine hK.out _ _ ?_ (fun hHeld5 => ?_)
            · first | assumption | exact hSx | exact HSa.out _ | exact hS2 | exact hS3
            clear hK K
            try (try simp only [Act.put]); (try simp only [List.setIfInBounds_toArray]); (try simp only [List.set_cons_succ]); (try simp only [List.set_cons_zero])
            refine tkV (i := 8) (d := some 67) (v := ?_) rfl (by kernel_rfl) (by kernel_rfl) (by kernel_rfl) rfl (fun _ _ _ h => h) (by rfl) ?_ (by assumption) ?_
            rotate_left
            · (intro w hSw; (try dsimp only at hSw); (try simp only [List.getElem_toArray, List.getElem_cons_zero, List.getElem_cons_succ]); go_simp; try with_reducible rfl)
            (try simp only [Act.put]); (try simp only [List.setIfInBounds_toArray]); (try simp only [List.set_cons_succ]); (try simp only [List.set_cons_zero])
            refine tkV (i := 9) (d := some 68) (v := ?_) rfl (by kernel_rfl) (by kernel_rfl) (by kernel_rfl) rfl (fun _ _ _ h => h) (by rfl) ?_ (by assumption) ?_
            rotate_left
            · (intro w hSw; (try dsimp only at hSw); (try simp only [List.getElem_toArray, List.getElem_cons_zero, List.getElem_cons_succ]); go_simp; try with_reducible rfl)
            (try simp only [Act.put]); (try simp only [List.setIfInBounds_toArray]); (try simp only [List.set_cons_succ]); (try simp only [List.set_cons_zero])
            refine wpAnyH_ready (rs := [10]) (by kernel_rfl) (by simp) (AllReadyH.cons rfl (fun K hK => ?_) AllReadyH.nil)
            try simp only [List.getElem_toArray, List.getElem_cons_zero, List.getElem_cons_succ]
            go_simp
            refine hK.out _ _ ?_ (fun hHeld6 => ?_)
            · first | assumption | exact hSx | exact HSa.out _ | exact hS2 | exact hS3
            clear hK K
            try simp only [Act.put]
            refine wpAnyH_done (by kernel_rfl) ?_ _
            go_wp2
            go_roundw
            case rel => exact ⟨k + 1, _, hlt, by go_num, HNh⟩
            case measure => simp [intOf]; omega
          · try simp only [List.getElem_toArray, List.getElem_cons_zero, List.getElem_cons_succ]
            go_simp
            refine hK.out _ _ ?_ (fun hHeld3 => ?_)
            · first | assumption | exact hSx | exact HSa.out _ | exact hS2 | exact hS3
            clear hK K
            (try simp only [Act.put]); (try simp only [List.setIfInBounds_toArray]); (try simp only [List.set_cons_succ]); (try simp only [List.set_cons_zero])
            refine wpAnyH_ready (rs := [4]) (by kernel_rfl) (by simp) (AllReadyH.cons rfl (fun K hK => ?_) AllReadyH.nil)
            try simp only [List.getElem_toArray, List.getElem_cons_zero, List.getElem_cons_succ]
            go_simp
            refine hK.out _ _ ?_ (fun hHeld4 => ?_)
            · first | assumption | exact hSx | exact HSa.out _ | exact hS2 | exact hS3
            clear hK K
            (try simp only [Act.put]); (try simp only [List.setIfInBounds_toArray]); (try simp only [List.set_cons_succ]); (try simp only [List.set_cons_zero])
            refine wpAnyH_ready (rs := [7]) (by kernel_rfl) (by simp) (AllReadyH.cons rfl (fun K hK => ?_) AllReadyH.nil)
            refine step_append_own_at (by rfl) _ _ 73 (by rfl) w1.heap.size 72 i0 (.agg #[.int .i64 0, .int .i64 0, .int .i64 0, .int .i64 0, .int .i64 0]) 5 40 Tryd.underlying73 hi hz0 hz1 hz2 rfl (by decide) (.slice av (k + 1) cv) (k + 1) (cellsP (plN U (k + 1))) (by rfl) (World.ownsRow.alloc (w := wx.drew) HOx.out _) ⟨_, 0, none⟩ 1 1 [.int .i64 (qb : Int), .int .i64 (qu : Int), .int .i64 (qw : Int), .int .i64 (ql : Int), .int .i64 (qc : Int)] (by rfl) (by rfl) (cell5_new wx.drew _ _ _ _ _ _) (fun u hu => by simp only [List.mem_cons, List.not_mem_nil, or_false] at hu; rcases hu with rfl | rfl | rfl | rfl | rfl <;> rfl) (by unfold maxLen; omega) (by omega) (by simp; omega) ?_
            intro v2 w2 hown2 hgrow2 hat2
            obtain ⟨HN, hM2, hX2⟩ := HNx.out v2 w2 _ hown2 hgrow2 hat2
            obtain ⟨a2, c2, rfl⟩ : ∃ a c, v2 = .slice a (k + 1 + 1) c := by obtain ⟨a, c, h, _⟩ := HN.own.pa; rw [plN_len] at h; exact ⟨a, c, h⟩
            have HNh := hid HN
            obtain ⟨c_M, f_M⟩ := row1 hM2
            have hS2 := (row5 hX2).1
            have hS3 := (row5 HN.rowX).1
            rw [← HQ.out] at hS2 hS3
            simp only at hS2 hS3
            clear hown2 hgrow2 hat2 hM2 hX2 HN HNx
            refine hK.out _ _ ?_ (fun hHeld5 => ?_)
            · first | assumption | exact hSx | exact HSa.out _ | exact hS2 | exact hS3
            clear hK K
            try (try simp only [Act.put]); (try simp only [List.setIfInBounds_toArray]); (try simp only [List.set_cons_succ]); (try simp only [List.set_cons_zero])
            refine tkV (i := 8) (d := some 67) (v := ?_) rfl (by kernel_rfl) (by kernel_rfl) (by kernel_rfl) rfl (fun _ _ _ h => h) (by rfl) ?_ (by assumption) ?_
            rotate_left
            · (intro w hSw; (try dsimp only at hSw); (try simp only [List.getElem_toArray, List.getElem_cons_zero, List.getElem_cons_succ]); go_simp; try with_reducible rfl)
            (try simp only [Act.put]); (try simp only [List.setIfInBounds_toArray]); (try simp only [List.set_cons_succ]); (try simp only [List.set_cons_zero])
            refine tkV (i := 9) (d := some 68) (v := ?_) rfl (by kernel_rfl) (by kernel_rfl) (by kernel_rfl) rfl (fun _ _ _ h => h) (by rfl) ?_ (by assumption) ?_
            rotate_left
            · (intro w hSw; (try dsimp only at hSw); (try simp only [List.getElem_toArray, List.getElem_cons_zero, List.getElem_cons_succ]); go_simp; try with_reducible rfl)
            (try simp only [Act.put]); (try simp only [List.setIfInBounds_toArray]); (try simp only [List.set_cons_succ]); (try simp only [List.set_cons_zero])
            refine wpAnyH_ready (rs := [10]) (by kernel_rfl) (by simp) (AllReadyH.cons rfl (fun K hK => ?_) AllReadyH.nil)
            try simp only [List.getElem_toArray, List.getElem_cons_zero, List.getElem_cons_succ]
            go_simp
            refine hK.out _ _ ?_ (fun hHeld6 => ?_)
            · first | assumption | exact hSx | exact HSa.out _ | exact hS2 | exact hS3
            clear hK K
            try simp only [Act.put]
            refine wpAnyH_done (by kernel_rfl) ?_ _
            go_wp2
            go_roundw
            case rel => exact ⟨k + 1, _, hlt, by go_num, HNh⟩
            case measure => simp [intOf]; omega
    · have HV := hid HAl.out
      have hkI : ¬ (k : Int) < (U.length : Int) := by omega
      have hke : k = U.length := by omega
      go_wp2
      go_ret
      exact ⟨_, rfl, HMge.out, ⟨av, cv, by rw [HV.out, plN_len, ← hke]; exact cM, by
        obtain ⟨a, c, h, hpa⟩ := HP.out.own.pa
        rw [plN_len] at h
        obtain ⟨rfl, _, rfl⟩ := Value.slice.inj h
        rw [HV.out, ← hke]; exact hpa⟩, HB1.out.trans (HP.out.bel.mono hsz1)⟩
end Go.Proofs.YtlmbbohhdgeedaaDoor
