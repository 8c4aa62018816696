/-
  Cases that are lent: the walk of own (stage 23).
-/
import Derived.Test.YtooeagpopncmgaaDoorTfQM
namespace Go.Proofs.YtooeagpopncmgaaDoor
open Go.RowKit Go.Shelf
theorem one_cell {V : World} {z : Int} : ∀ j (hj : j < ([z] : List Int).length), (V.alloc (.cells #[.int .i64 z] 3)).cell? ((⟨V.heap.size, 0, none⟩ : Addr).add j) = some (.int .i64 ([z] : List Int)[j]) := fun j hj => by
  have h0 : j = 0 := by simpa using hj
  subst h0
  exact cell_one_new V (.int .i64 z) 3 0 _ rfl
theorem CSt.boxc {w0 V : World} {LP LB : List Int} {vP vB : Value} (h : CSt w0 V LP LB vP vB) : V.cell? ⟨w0.heap.size, 0, none⟩ = some vP ∧ V.cell? ⟨w0.heap.size, 1, none⟩ = some vB ∧ V.frozen? ⟨w0.heap.size, 0, none⟩ = false ∧ V.frozen? ⟨w0.heap.size, 1, none⟩ = false := ⟨by rw [cell_of_row _ _ _ _ _ _ h.box]; rfl, by rw [cell_of_row _ _ _ _ _ _ h.box]; rfl, frozen_of_row _ _ _ _ _ h.box, frozen_of_row _ _ _ _ _ h.box⟩
theorem mks_snoc (L : List Int) (z : Int) (j : Nat) : L ++ mks z (j + 1) = (L ++ mks z j) ++ [z] := by unfold mks; rw [List.replicate_succ', List.append_assoc]
/-- An append whose run is known, at a step of a region that draws. -/
theorem step_run {P : Program} {ops : Array Oper} {o : Oper} {a : Act} {w : World} {K : Act → World → Prop} {Q : Exit → Act → World → Prop} {E : Prop} (hg : o.guard = none) (s x : Operand) (t : TypeId)
    (ho : o.op = .call { callee := .builtin .append, args := #[s, x], argTypes := #[t, t] }) (vs vx : Value) (hs : a.eval s = vs) (hx : a.eval x = vx) {v' : Value} {w' : World}
    (hr : (Builtin.append_ #[t, t] o.type #[vs, vx]).run P w = .ok v' w') (h : K (a.put o.dst v') w') :
    if Region.wanted o (yielded ops a.tmps) = true then Oper.wp P o a w K Q else E := by
  have hw : Region.wanted o (yielded ops a.tmps) = true := by simp [Region.wanted, hg]
  rw [if_pos hw]
  unfold Oper.wp execOp
  simp only [ho, resolve, invoke, builtin, Sem.run_bind, Sem.run_pure, Result.andThen_ok, List.map_toArray, List.map_cons, List.map_nil, hs, hx, hr]
  exact h
/-- The same, in a list of operations. -/
theorem wpList_run {P : Program} {ops : Array Oper} {rest : List Oper} {op : Oper} {a : Act} {w : World} {Q : Exit → Act → World → Prop} (hgd : op.guard = none) (s x : Operand) (t : TypeId)
    (ho : op.op = .call { callee := .builtin .append, args := #[s, x], argTypes := #[t, t] }) (vs vx : Value) (hs : a.eval s = vs) (hx : a.eval x = vx) {v' : Value} {w' : World}
    (hr : (Builtin.append_ #[t, t] op.type #[vs, vx]).run P w = .ok v' w') (h : wpList P ops Q rest (a.put op.dst v') w') : wpList P ops Q (op :: rest) a w := by
  refine wpList_plain hgd fun K hK => ?_
  unfold Oper.wp execOp
  simp only [ho, resolve, invoke, builtin, Sem.run_bind, Sem.run_pure, Result.andThen_ok, List.map_toArray, List.map_cons, List.map_nil, hs, hx, hr]
  exact hK _ _ h
set_option maxRecDepth 10000 in
set_option maxHeartbeats 3200000 in
theorem own_any (C : List Cs) (a : Option Addr) (cap : Nat) (w : World) (hl : C.length ≤ 1000000000) (hP : ∀ x ∈ C, x.1.length ≤ 20000000 ∧ x.2.length ≤ 1000000000) (hC : CsA w a C) :
    Calls Tryd.prog 5 #[.slice a C.length cap] w fun e w' => ∃ G c, e = .returned (.slice (some ⟨G, 0, none⟩) C.length c) ∧ Hid (CK w' w.heap.size G c C ∧ Below w.heap.size w w' ∧ w.heap.size ≤ G) := by
  have HC := hid0 hC
  have HPm := hid0 hP
  obtain ⟨n, hn⟩ : ∃ n, n = C.length := ⟨_, rfl⟩
  have HN := hid0 hn
  have HJ0 := hid0 (CJ.nil w w.heap.size C)
  rw [← hn] at hl ⊢
  clear hC hn hP
  go_enter Tryd.func5, Tryd.ntmps5
  go_wp2
  go_loopw [3, 4, 5, 6] (fun m i _ _ wr => ∃ (k : Nat) (VS : List Value), k ≤ n ∧ i = .int .i64 (k : Int) ∧ Hid (CJ wr w.heap.size m VS C k) ∧ Hid (Below w.heap.size w wr)) (fun _ i _ _ _ => n - (intOf i).toNat)
  case atStart => exact ⟨0, [], Nat.zero_le _, rfl, HJ0, hid0 (Below.refl _ _)⟩
  case round =>
    clear HJ0
    obtain ⟨k, VS, hk, rfl, HJ, HB⟩ := hrel
    obtain ⟨wo, hwo⟩ : ∃ wo, wo = wr := ⟨_, rfl⟩
    subst hwo
    by_cases hlt : k < n
    · have hkI : (k : Int) < (n : Int) := by omega
      have hkI0 : (0 : Int) ≤ (k : Int) := by omega
      have hkr : k < C.length := by rw [← HN.out]; exact hlt
      obtain ⟨P, B, b, off, aP, aB, cP, cB, hx, rfl, hbl, d0, d1, i1, i2⟩ := HC.out.get k hkr
      have hp := HPm.out _ (List.getElem_mem hkr)
      rw [hx] at hp
      have hp1 : P.length ≤ 20000000 := hp.1
      have hp2 : B.length ≤ 1000000000 := hp.2
      have HX : Hid (∃ h : k < C.length, C[k]'h = (P, B)) := hid0 ⟨hkr, hx⟩
      have hsz := HB.out.size
      have HL : Hid (∀ V, Below wo.heap.size wo V → V.cell? ⟨b, off + k * 2, none⟩ = some (.slice aP P.length cP) ∧ V.cell? ⟨b, off + k * 2 + 1, none⟩ = some (.slice aB B.length cB) ∧ IA V aP P ∧ IA V aB B) := hid0 (fun V hV => by
        have hb := HB.out.trans (hV.mono hsz)
        exact ⟨(hb.cell (p := ⟨b, off + k * 2, none⟩) hbl).trans d0, (hb.cell (p := ⟨b, off + k * 2 + 1, none⟩) hbl).trans d1, i1.past hb, i2.past hb⟩)
      clear d0 d1 i1 i2 hp hx hkr
      obtain ⟨W1, hW1⟩ : ∃ W1, W1 = wo.alloc (.cells #[.slice none 0 0, .slice none 0 0] 36) := ⟨_, rfl⟩
      have hb1 : Below wo.heap.size wo W1 := by rw [hW1]; exact (Below.refl _ _).alloc (Nat.le_refl _) _
      have hS1 : CSt wo W1 [] [] (.slice none 0 0) (.slice none 0 0) := ⟨(by rw [hW1]; exact heap_alloc_new wo _), World.ownsRow_nil _ _ _ _, World.ownsRow_nil _ _ _ _, (fun g h => nomatch h), hb1⟩
      have hfold := hW1.symm
      clear hW1
      have hdW1 : Below W1.heap.size W1 W1.drew := (Below.refl _ W1).drew
      obtain ⟨v2, w2, hr2, ho2, hg2, hat2⟩ := run_app_nil (W := W1.drew) wo.heap.size aP cP P ((HL.out W1 hb1).2.2.1.past hdW1) (by omega) (Nat.le_trans hb1.size hdW1.size)
      obtain ⟨q1, q2, q3, q4⟩ := hS1.grow hdW1 ho2 hg2 hat2
      obtain ⟨x0, x1, _, _⟩ := hS1.boxc
      obtain ⟨y0, _, _, _⟩ := HL.out W1 hb1
      have z0 : w2.cell? ⟨wo.heap.size, 0, none⟩ = some (.slice none 0 0) := by rw [cell_of_row _ _ _ _ _ _ q1]; rfl
      have z1 : w2.frozen? ⟨wo.heap.size, 0, none⟩ = false := frozen_of_row _ _ _ _ _ q1
      obtain ⟨a2, c2, rfl⟩ := own_slC ho2
      have HS2 : Hid (∃ vP, CSt wo (w2.setCell ⟨wo.heap.size, 0, none⟩ (.slice a2 P.length c2)) P [] vP (.slice none 0 0)) := hid0 ⟨_, CSt.putP q1 ho2 q2 q3 q4⟩
      clear hS1 ho2 hg2 hat2 q1 q2 q3 q4 hdW1 hb1
      go_upto_region 6 with (fail)
      clear hfold
      go_cut [] from 14 to 22 (fun wx => Hid (∃ vP, CSt wo wx P [] vP (.slice none 0 0)))
      case first =>
        go_region_law ((refine step_run (by rfl) _ _ 34 (by rfl) _ _ (by rfl) (by rfl) hr2 ?_))
        all_goals go_wp2
        all_goals go_meet
        all_goals exact HS2
      case rest =>
        clear hr2 x0 x1 y0 z0 z1 HS2
        generalize wc = w4 at *
        obtain ⟨vP2, hS2⟩ := hcut.out
        clear hcut
        have hdW2 : Below w4.heap.size w4 w4.drew := (Below.refl _ w4).drew
        obtain ⟨v3, w3, hr3, ho3, hg3, hat3⟩ := run_app_nil (W := w4.drew) wo.heap.size aB cB B ((HL.out w4 hS2.bel).2.2.2.past hdW2) (by omega) (Nat.le_trans hS2.bel.size hdW2.size)
        obtain ⟨q1, q2, q3, q4⟩ := hS2.growB hdW2 ho3 hg3 hat3
        obtain ⟨_, u1, _, _⟩ := hS2.boxc
        obtain ⟨_, u2, _, _⟩ := HL.out w4 hS2.bel
        have z2 : w3.cell? ⟨wo.heap.size, 1, none⟩ = some (.slice none 0 0) := by rw [cell_of_row _ _ _ _ _ _ q1]; rfl
        have z3 : w3.frozen? ⟨wo.heap.size, 1, none⟩ = false := frozen_of_row _ _ _ _ _ q1
        obtain ⟨a3, c3, rfl⟩ := own_slC ho3
        have HS3 : Hid (∃ vP vB, CSt wo (w3.setCell ⟨wo.heap.size, 1, none⟩ (.slice a3 B.length c3)) (P ++ mks (-66) 0) (B ++ mks (-67) 0) vP vB) := hid0 ⟨_, _, by rw [show P ++ mks (-66) 0 = P from List.append_nil P, show B ++ mks (-67) 0 = B from List.append_nil B]; exact CSt.putB q1 q2 ho3 q3 q4⟩
        clear hS2 ho3 hg3 hat3 q1 q2 q3 q4 hdW2
        go_upto_region 7 with (fail)
        go_cut [] from 23 to 31 (fun wx => Hid (∃ vP vB, CSt wo wx (P ++ mks (-66) 0) (B ++ mks (-67) 0) vP vB))
        case first =>
          go_region_law ((refine step_run (by rfl) _ _ 34 (by rfl) _ _ (by rfl) (by rfl) hr3 ?_))
          all_goals go_wp2
          all_goals go_meet
          all_goals exact HS3
        case rest =>
          clear hr3 u1 u2 z2 z3 HS3
          generalize wc = w5 at *
          go_wp2
          go_loopw [6] (fun q wy => ∃ j : Nat, j ≤ 64 ∧ q = .int .i64 (j : Int) ∧ Hid (∃ vP vB, CSt wo wy (P ++ mks (-66) j) (B ++ mks (-67) j) vP vB)) (fun q _ => 64 - (intOf q).toNat)
          case atStart => exact ⟨0, by omega, rfl, hcut⟩
          case round =>
            clear hcut
            obtain ⟨j, hj, rfl, HSj⟩ := hrel
            obtain ⟨wz, hwz⟩ : ∃ wz, wz = wr := ⟨_, rfl⟩
            subst hwz
            by_cases hjl : j < 64
            · have hjI : (j : Int) < 64 := by omega
              obtain ⟨vP, vB, hS⟩ := HSj.out
              clear HSj
              have hplen : (P ++ mks (-66) j).length ≤ 30000000 := by rw [List.length_append, List.length_replicate]; omega
              have hblen : (B ++ mks (-67) j).length ≤ 1100000000 := by rw [List.length_append, List.length_replicate]; omega
              have hbA : Below wz.heap.size wz (wz.alloc (.cells #[.int .i64 (-66)] 3)) := (Below.refl _ _).alloc (Nat.le_refl _) _
              obtain ⟨v6, w6, hr6, ho6, hg6, hat6⟩ := run_app_own (W := wz.alloc (.cells #[.int .i64 (-66)] 3)) _ vP (P ++ mks (-66) j) (own_blk hS.rp (fun k hk => hbA.block k (World.ownsRow.lt hS.rp k hk).2)) ⟨wz.heap.size, 0, none⟩ 1 [-66] one_cell (by show (P ++ mks (-66) j).length + 1 ≤ _; omega) (Nat.le_trans hS.bel.size hbA.size)
              obtain ⟨q1, q2, q3, q4⟩ := hS.grow hbA ho6 hg6 hat6
              obtain ⟨x0, _, _, _⟩ := hS.boxc
              have z0 : w6.cell? ⟨wo.heap.size, 0, none⟩ = some vP := by rw [cell_of_row _ _ _ _ _ _ q1]; rfl
              have z1 : w6.frozen? ⟨wo.heap.size, 0, none⟩ = false := frozen_of_row _ _ _ _ _ q1
              obtain ⟨a6, c6, rfl⟩ := own_slC ho6
              obtain ⟨W7, hW7⟩ : ∃ W7, W7 = w6.setCell ⟨wo.heap.size, 0, none⟩ (.slice a6 ((P ++ mks (-66) j) ++ [-66]).length c6) := ⟨_, rfl⟩
              have hS7 : CSt wo W7 ((P ++ mks (-66) j) ++ [-66]) (B ++ mks (-67) j) (.slice a6 ((P ++ mks (-66) j) ++ [-66]).length c6) vB := by rw [hW7]; exact CSt.putP q1 ho6 q2 q3 q4
              have hf7 := hW7.symm
              clear hW7
              have hbB : Below W7.heap.size W7 (W7.alloc (.cells #[.int .i64 (-67)] 3)) := (Below.refl _ _).alloc (Nat.le_refl _) _
              obtain ⟨v8, w8, hr8, ho8, hg8, hat8⟩ := run_app_own (W := W7.alloc (.cells #[.int .i64 (-67)] 3)) _ vB (B ++ mks (-67) j) (own_blk hS7.rb (fun k hk => hbB.block k (World.ownsRow.lt hS7.rb k hk).2)) ⟨W7.heap.size, 0, none⟩ 1 [-67] one_cell (by show (B ++ mks (-67) j).length + 1 ≤ _; omega) (Nat.le_trans hS7.bel.size hbB.size)
              obtain ⟨p1, p2, p3, p4⟩ := hS7.growB hbB ho8 hg8 hat8
              obtain ⟨_, x1, _, _⟩ := hS7.boxc
              have z2 : w8.cell? ⟨wo.heap.size, 1, none⟩ = some vB := by rw [cell_of_row _ _ _ _ _ _ p1]; rfl
              have z3 : w8.frozen? ⟨wo.heap.size, 1, none⟩ = false := frozen_of_row _ _ _ _ _ p1
              obtain ⟨a8, c8, rfl⟩ := own_slC ho8
              have HS9 : Hid (∃ vP vB, CSt wo (w8.setCell ⟨wo.heap.size, 1, none⟩ (.slice a8 ((B ++ mks (-67) j) ++ [-67]).length c8)) (P ++ mks (-66) (j + 1)) (B ++ mks (-67) (j + 1)) vP vB) := hid0 ⟨_, _, by rw [mks_snoc, mks_snoc]; exact CSt.putB p1 p2 ho8 p3 p4⟩
              clear hS hS7 ho6 hg6 hat6 ho8 hg8 hat8 q1 q2 q3 q4 p1 p2 p3 p4 hbA hbB hplen hblen
              generalize ((P ++ mks (-66) j) ++ [-66]).length = n6 at *
              generalize ((B ++ mks (-67) j) ++ [-67]).length = n8 at *
              go_wp2_with (first
                | (at_builtin; refine wpList_run rfl _ _ 34 rfl _ _ rfl rfl hr6 ?_; clear hr6)
                | (at_builtin; refine wpList_run rfl _ _ 34 rfl _ _ rfl rfl hr8 ?_; clear hr8)
                | fail)
              go_roundw
              case rel => exact ⟨j + 1, by omega, by go_num, HS9⟩
              case measure => simp [intOf]; omega
            · have hjI : ¬ (j : Int) < 64 := by omega
              obtain rfl : j = 64 := by omega
              obtain ⟨vP, vB, hS⟩ := HSj.out
              clear HSj
              have hlP : (P ++ mks (-66) 64).length = P.length + 64 := by rw [List.length_append, List.length_replicate]
              have hlB : (B ++ mks (-67) 64).length = B.length + 64 := by rw [List.length_append, List.length_replicate]
              obtain ⟨gP, cP2, rfl, _, _, hcP⟩ := own_form hS.rp (by omega)
              obtain ⟨gB, cB2, rfl, _, _, hcB⟩ := own_form hS.rb (by omega)
              obtain ⟨x0, x1, _, _⟩ := hS.boxc
              obtain ⟨y0, y1, _, _⟩ := HL.out wz hS.bel
              have hbw : Below w.heap.size w wz := HB.out.trans (hS.bel.mono hsz)
              have hJz := HJ.out.past hS.bel
              obtain ⟨am, cm, rfl⟩ := own_slC hJz.own
              obtain ⟨Vb, hVb⟩ : ∃ Vb, Vb = wz.drew.alloc (.cells #[.slice (some ⟨gP, 0, none⟩) P.length cP2, .slice (some ⟨gB, 0, none⟩) B.length cB2] 36) := ⟨_, rfl⟩
              have hbV : Below wz.heap.size wz Vb := by rw [hVb]; exact (Below.refl _ wz).drew.alloc (Nat.le_refl _) _
              have hrV : Vb.heap[wz.heap.size]? = some (.cells #[.slice (some ⟨gP, 0, none⟩) P.length cP2, .slice (some ⟨gB, 0, none⟩) B.length cB2] 36 (0, 0)) := by rw [hVb]; exact heap_alloc_new wz.drew _
              obtain ⟨v9, w9, hr9, ho9, hg9, hat9⟩ := run_app_case (W := Vb) w.heap.size _ k VS (own_blk hJz.own (fun q hq => hbV.block q (World.ownsRow.lt hJz.own q hq).2)) wz.heap.size (.slice (some ⟨gP, 0, none⟩) P.length cP2) (.slice (some ⟨gB, 0, none⟩) B.length cB2) (by rw [cell_of_row _ _ _ _ _ _ hrV]; rfl) (by rw [cell_of_row _ _ _ _ _ _ hrV]; rfl) rfl rfl (by omega) (Nat.le_trans hbw.size hbV.size)
              have HJ9 : Hid (CJ w9 w.heap.size v9 (VS ++ [.slice (some ⟨gP, 0, none⟩) P.length cP2, .slice (some ⟨gB, 0, none⟩) B.length cB2]) C (k + 1)) := hid0 (by
                obtain ⟨hk2, hx2⟩ := HX.out
                refine hJz.snoc hk2 hbV ho9 hg9 ?_
                rw [hx2]
                refine ⟨gP, gB, cP2, cB2, rfl, rfl, owns_lower ?_ hsz, owns_lower ?_ hsz⟩
                · have := hS.rp; rw [hlP] at this; exact this
                · have := hS.rb; rw [hlB] at this; exact this)
              have HB9 : Hid (Below w.heap.size w w9) := hid0 ((hbw.trans (hbV.mono hbw.size)).grown hg9 (Nat.le_trans hbw.size hbV.size) (fun q hq => (World.ownsRow.lt hJz.own q hq).1))
              rw [hlP] at x0 hcP
              rw [hlB] at x1 hcB
              have t1 : P.length ≤ cP2 := by omega
              have t2 : B.length ≤ cB2 := by omega
              have t3 : (P.length : Int) ≤ (cP2 : Int) := by omega
              have t4 : (B.length : Int) ≤ (cB2 : Int) := by omega
              have hfV := hVb.symm
              clear hS hJz ho9 hg9 hat9 hbV hrV hVb hlP hlB HJ HL HX hbw
              generalize P.length = nP at *
              generalize B.length = nB at *
              go_upto_region 13 with (fail)
              go_region_law ((refine step_run (by rfl) _ _ 22 (by rfl) _ _ (by rfl) (by rfl) hr9 ?_))
              all_goals
                go_wp2
                go_roundw
                case rel => exact ⟨k + 1, _, by omega, by go_num, HJ9, HB9⟩
                case measure => simp [intOf]; omega
    · have hkI : ¬ (k : Int) < (n : Int) := by omega
      have hkn : k = C.length := by have := HN.out; omega
      have HM0 : Hid (CM wo w.heap.size u3 VS [] C 0) := hid0 (CM.start (by have := HJ.out; rw [hkn] at this; exact this))
      clear HJ
      go_wp2
      go_loopw [3, 7] (fun m q wy => ∃ (j : Nat) (MS : List Value), j ≤ 64 ∧ q = .int .i64 (j : Int) ∧ Hid (CM wy w.heap.size m VS MS C j) ∧ Hid (Below w.heap.size w wy)) (fun _ q _ => 64 - (intOf q).toNat)
      case atStart => exact ⟨0, [], by omega, rfl, HM0, HB⟩
      case round =>
        clear HM0 HB
        obtain ⟨j, MS, hj, rfl, HM, HB⟩ := hrel
        obtain ⟨wz, hwz⟩ : ∃ wz, wz = wr := ⟨_, rfl⟩
        subst hwz
        have hM := HM.out
        by_cases hjl : j < 64
        · have hjI : (j : Int) < 64 := by omega
          obtain ⟨am, cm, rfl⟩ := own_slC hM.own
          obtain ⟨Va, hVa⟩ : ∃ Va, Va = wz.alloc (.cells #[.int .i64 (-68)] 3) := ⟨_, rfl⟩
          have hba : Below wz.heap.size wz Va := by rw [hVa]; exact (Below.refl _ _).alloc (Nat.le_refl _) _
          have hra : Va.heap[wz.heap.size]? = some (.cells #[.int .i64 (-68)] 3 (0, 0)) := by rw [hVa]; exact heap_alloc_new wz _
          have hsa : Va.heap.size = wz.heap.size + 1 := by rw [hVa]; simp
          obtain ⟨Vb, hVb⟩ : ∃ Vb, Vb = Va.alloc (.cells #[.slice (some ⟨wz.heap.size, 0, none⟩) 1 1, .slice none 0 0] 36) := ⟨_, rfl⟩
          have hbb : Below Va.heap.size Va Vb := by rw [hVb]; exact (Below.refl _ _).alloc (Nat.le_refl _) _
          have hrb : Vb.heap[wz.heap.size + 1]? = some (.cells #[.slice (some ⟨wz.heap.size, 0, none⟩) 1 1, .slice none 0 0] 36 (0, 0)) := by rw [hVb, ← hsa]; exact heap_alloc_new Va _
          have hbV : Below wz.heap.size wz Vb := Below.later hba hbb
          have hsz := HB.out.size
          obtain ⟨v9, w9, hr9, ho9, hg9, hat9⟩ := run_app_case (W := Vb) w.heap.size _ (C.length + j) (VS ++ MS) (own_blk hM.own (fun q hq => hbV.block q (World.ownsRow.lt hM.own q hq).2)) (wz.heap.size + 1) (.slice (some ⟨wz.heap.size, 0, none⟩) 1 1) (.slice none 0 0) (by rw [cell_of_row _ _ _ _ _ _ hrb]; rfl) (by rw [cell_of_row _ _ _ _ _ _ hrb]; rfl) rfl rfl (by have := HN.out; omega) (Nat.le_trans hsz hbV.size)
          have HM9 : Hid (CM w9 w.heap.size v9 VS (MS ++ [.slice (some ⟨wz.heap.size, 0, none⟩) 1 1, .slice none 0 0]) C (j + 1)) := hid0 (hM.snoc hbV ((hbb.block _ (by omega)).trans hra) (fun b hb e => by have := (World.ownsRow.lt hM.own b hb).2; omega) (by rw [List.append_assoc] at *; exact ho9) hg9)
          have HB9 : Hid (Below w.heap.size w w9) := hid0 ((HB.out.trans (hbV.mono hsz)).grown hg9 (Nat.le_trans hsz hbV.size) (fun q hq => (World.ownsRow.lt hM.own q hq).1))
          have hf1 := hVa.symm
          have hf2 := hVb.symm
          clear hM HM ho9 hg9 hat9 hba hra hbb hrb hbV hVa hVb
          go_wp2_with (first
            | (at_builtin; refine wpList_run rfl _ _ 22 rfl _ _ rfl rfl hr9 ?_; clear hr9)
            | fail)
          go_roundw
          case rel => exact ⟨j + 1, _, by omega, by go_num, HM9, HB9⟩
          case measure => simp [intOf]; omega
        · have hjI : ¬ (j : Int) < 64 := by omega
          obtain rfl : j = 64 := by omega
          obtain ⟨G, c, rfl, hK, hG⟩ := hM.done
          have HK := hid0 (And.intro hK (And.intro HB.out hG))
          have t1 : n ≤ c := by have := hK.cap; have := HN.out; omega
          have t2 : (n : Int) ≤ (c : Int) := by omega
          clear hM HM hK
          go_wp2
          go_ret
          exact ⟨G, c, rfl, HK⟩
end Go.Proofs.YtooeagpopncmgaaDoor
