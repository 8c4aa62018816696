/-
  The walk of caesuraref4.Parse.
-/
import Derived.Test.YthdmhelgmejicaaGreatDoorPfSmW
import Derived.Test.YthdmhelgmejicaaGreatDoorPfSd2W
namespace Go.Proofs.YthdmhelgmejicaaGreatDoor
open Go.RowKit Go.Shelf
theorem OwnS.later {w w' : World} {base : Nat} {v : Value} {L : List ByteArray} (h : OwnS w base v L) (hb : Below w.heap.size w w') : OwnS w' base v L := by
  obtain ⟨h1, h2⟩ := h
  refine ⟨h1, ?_⟩
  rcases h2 with h2 | ⟨g, cap, cur, hv, hg, hh, r⟩
  · exact .inl h2
  · exact .inr ⟨g, cap, cur, hv, hg, (hb.block g (Array.getElem?_eq_some_iff.1 hh).1).trans hh, r⟩
theorem OwnS.base {w : World} {base base' : Nat} {v : Value} {l : List ByteArray} (h : OwnS w base v l) (hb : base' ≤ base) : OwnS w base' v l := by
  obtain ⟨h1, h2⟩ := h
  refine ⟨h1, ?_⟩
  rcases h2 with h2 | ⟨g, cap, cur, hv, hg, r⟩
  · exact .inl h2
  · exact .inr ⟨g, cap, cur, hv, Nat.le_trans hb hg, r⟩
theorem OwnP.pa {w : World} {base : Nat} {v : Value} {l : List Sp} (h : OwnP w base v l) : ∃ a cap, v = .slice a l.length cap ∧ PA w a l := by
  have h0 := h
  rcases h.2 with ⟨rfl, hn⟩ | ⟨g, cap, cur, rfl, _, hh, _⟩
  · exact ⟨none, 0, by rw [hn], ⟨fun k hk => by omega⟩⟩
  · refine ⟨_, cap, rfl, ⟨fun k hk => ⟨g, 0, rfl, (Array.getElem?_eq_some_iff.1 hh).1, ?_, ?_, ?_⟩⟩⟩
    · rw [Nat.zero_add, World.ownsRow.cellAt h0 (k * 3) (by omega)]; exact (cellsP_at l k hk).1
    · rw [Nat.zero_add, World.ownsRow.cellAt h0 (k * 3 + 1) (by omega)]; exact (cellsP_at l k hk).2.1
    · rw [Nat.zero_add, World.ownsRow.cellAt h0 (k * 3 + 2) (by omega)]; exact (cellsP_at l k hk).2.2
theorem OwnP.grown {wr w1 : World} {base : Nat} {vN vS : Value} {names : List ByteArray} {sp : List Sp} {o : Obj} (h : OwnP wr base vS sp) (hN : OwnS wr base vN names) (hgrow : (wr.alloc o).grownBy w1 vN.ownBlock) : OwnP w1 base vS sp := by
  obtain ⟨h1, h2⟩ := h
  refine ⟨h1, ?_⟩
  rcases h2 with h2 | ⟨g, cap, cur, hv, hg, hh, r⟩
  · exact .inl h2
  · refine .inr ⟨g, cap, cur, hv, hg, ?_, r⟩
    have hlt := (Array.getElem?_eq_some_iff.1 hh).1
    rw [hgrow.block g (by simp; omega) (fun e => ?_), Below.heap_alloc wr o g hlt]
    · exact hh
    · rcases hN.2 with ⟨rfl, _⟩ | ⟨g', cap', cur', rfl, _, hh', _⟩
      · simp [Value.ownBlock] at e
      · simp [Value.ownBlock] at e
        subst e
        rw [hh] at hh'
        simp at hh'
/-- What the reference's Parse answers. -/
def ParseIs (w w' : World) (r : PR) (e : Ending) : Prop := match r with
  | .ok s => ∃ vN vS, e = .returned (.tuple #[.agg #[vN, vS], .int .i64 0, .int .i64 0]) ∧ OwnS w' w.heap.size vN s.names ∧ OwnP w' w.heap.size vS (joinL s.sp) ∧ s.Ok
  | .bad line i => e = .returned (.tuple #[.agg #[.slice none 0 0, .slice none 0 0], .int .i64 (line : Int), .int .i64 (refNo i)])
theorem run_step (s : PS) (k : Nat) (L : List ByteArray) (hk : k < L.length) : linesRun s k ((L.map fun t => t.data.toList).drop k) = match lineStep s (bareOf L[k].data.toList) with
    | .go s' => linesRun s' (k + 1) ((L.map fun t => t.data.toList).drop (k + 1))
    | .stop i => .bad (k + 1) i := by
  rw [List.drop_eq_getElem_cons (by simpa using hk), linesRun]
  simp
  rfl
theorem said_true {b : By} {lo hi sa sb : Nat} {nm : By} {t : ByteArray} {ok : Bool} (h : saidL b = some (lo, hi, nm)) (h1 : ok = true → saidL b = some (sa, sb, t.data.toList)) (h2 : ok = false → saidL b = none) : lo = sa ∧ hi = sb ∧ rd nm = t ∧ ok = true := by
  cases ok with
  | false => have := h2 rfl; rw [h] at this; simp at this
  | true =>
    have e := h1 rfl
    rw [h] at e
    simp only [Option.some.injEq, Prod.mk.injEq] at e
    exact ⟨e.1, e.2.1, by rw [e.2.2], rfl⟩
theorem said_false {b : By} {x : Nat × Nat × By} {ok : Bool} (h : saidL b = none) (h1 : ok = true → saidL b = some x) : ok = false := by
  cases ok with
  | false => rfl
  | true => rw [h] at h1; simp at h1
theorem chop_len (l : By) : (chopR l).length ≤ l.length := by unfold chopR; split <;> simp
theorem linesGo_each (l cur b : By) (h : b ∈ linesGo cur l) : b.length ≤ cur.length + l.length := by
  induction l generalizing cur with
  | nil => simp [linesGo] at h; subst h; simp
  | cons c r ih =>
    rw [linesGo] at h
    split at h
    · rcases List.mem_cons.1 h with rfl | h
      · have := chop_len cur; simp; omega
      · have := ih [] h; simp at this ⊢; omega
    · have := ih _ h; simp at this ⊢; omega
theorem bare_len (l : By) : (bareOf l).length ≤ l.length := by
  have h1 : ∀ (p : UInt8 → Bool) (x : By), (x.dropWhile p).length ≤ x.length := fun p x => (List.dropWhile_sublist p).length_le
  have h2 : (l.takeWhile (fun c => c != 35)).length ≤ l.length := (List.takeWhile_sublist _).length_le
  unfold bareOf trimB
  have h3 := h1 isBl (l.takeWhile (fun c => c != 35))
  have h4 := h1 isBl ((l.takeWhile (fun c => c != 35)).dropWhile isBl).reverse
  simp at h4 ⊢
  omega
set_option maxRecDepth 10000 in
set_option maxHeartbeats 4000000 in
theorem refParse_any (s : ByteArray) (hs : s.size ≤ 1048576) (w : World) :
    Calls Tryz.prog 9 #[.string s] w fun e w' => ParseIs w w' (parseL s.data.toList) e ∧ Below w.heap.size w w' := by
  have hsI : ¬ (1048576 : Int) < (s.size : Int) := by omega
  have HLn := hid0 (fun W (hb : w.heap.size + 1 ≤ W.heap.size) => refLines_any s (by omega) W (w.heap.size + 1) hb)
  have HBx : Hid (Below w.heap.size w (w.alloc (.cells #[.slice none 0 0, .slice none 0 0] 25)) ∧ (w.alloc (.cells #[.slice none 0 0, .slice none 0 0] 25)).heap[w.heap.size]? = some (.cells #[.slice none 0 0, .slice none 0 0] 25 (0, 0))) := ⟨(Below.refl _ _).alloc (Nat.le_refl _) _, heap_alloc_new w _⟩
  go_enter Tryz.func9, Tryz.ntmps9
  go_wp2_with (go_at_call 28; refine (HLn.out _ (by simp)).mono ?_; rintro e w0 ⟨vL, L, rfl, hli, hml, hll, hb0⟩; obtain ⟨aL, cL, rfl, hsa⟩ := hli.sa; have HSA := hid0 hsa; have HML := hid0 hml; have HB0 := hid0 hb0; have HLi := hid0 hli; clear hsa hml hb0 hli)
  have HEach : Hid (∀ k (h : k < L.length), L[k].size ≤ 4194400) := hid0 (fun k h => by
    have h1 : L[k].data.toList ∈ linesOf s.data.toList := by
      rw [← HML.out]; exact List.mem_map.2 ⟨_, List.getElem_mem h, rfl⟩
    have := linesGo_each _ _ _ h1
    rw [bsize0, bsize0] at this
    simp at this
    omega)
  go_loopw [6, 7, 8, 9] (fun vN vS c i wr => ∃ (k : Nat) (st : PS), k ≤ L.length ∧ i = .int .i64 (k : Int) ∧ c = .int .i64 (st.cl.length : Int) ∧ st.cl.length ≤ 65536 ∧ st.sp.length = st.cl.length ∧ st.names.length ≤ 62 ∧ Hid (OwnS wr w0.heap.size vN st.names) ∧ Hid (OwnP wr w0.heap.size vS st.sp) ∧ Hid (Below w0.heap.size w0 wr) ∧ Hid (linesRun st k ((L.map fun t => t.data.toList).drop k) = parseL s.data.toList) ∧ Hid st.Ok) (fun _ _ _ i _ => L.length - (intOf i).toNat)
  case atStart => exact ⟨0, ⟨[], [], []⟩, Nat.zero_le _, rfl, rfl, by decide, rfl, by decide, World.ownsRow_nil _ _ _ _, OwnP.nil _ _, Below.refl _ _, hid0 (by rw [List.drop_zero, HML.out]; rfl), hid0 ⟨⟨fun t ht => by simp at ht, List.Pairwise.nil⟩, fun t => Iff.rfl, fun t ht => by simp at ht⟩⟩
  case round =>
    obtain ⟨k, st, hk, rfl, rfl, hc1, hsp, hn1, HN, HS, HB, HR, HK⟩ := hrel
    have HSp := hid0 hsp
    clear hsp
    obtain ⟨aN, cN, rfl, hsaN⟩ := HN.out.sa
    obtain ⟨aS, cS, rfl, hpaS⟩ := HS.out.pa
    have hw0 : w.heap.size < w0.heap.size := by have := HB0.out.size; simp at this; omega
    have hbx : wr.heap[w.heap.size]? = some (.cells #[.slice none 0 0, .slice none 0 0] 25 (0, 0)) := (HB.out.block _ hw0).trans ((HB0.out.block _ (Nat.lt_succ_self _)).trans HBx.out.2)
    have x0 : wr.cell? ⟨w.heap.size, 0, none⟩ = some (.slice none 0 0) := by rw [cell_of_row _ _ _ _ _ _ hbx]; rfl
    have x1 : wr.cell? ⟨w.heap.size, 1, none⟩ = some (.slice none 0 0) := by rw [cell_of_row _ _ _ _ _ _ hbx]; rfl
    have xf : ∀ j, wr.frozen? ⟨w.heap.size, j, none⟩ = false := fun j => frozen_of_row _ _ _ _ _ hbx
    have HBw : Hid (Below w.heap.size w wr) := hid0 ((HBx.out.1.trans (HB0.out.mono (Nat.le_succ _))).trans (HB.out.mono (by omega)))
    have HBX := hid0 hbx
    clear hbx
    by_cases hlt : k < L.length
    · have hkI : (k : Int) < (L.length : Int) := by omega
      have hkI0 : (0 : Int) ≤ (k : Int) := by omega
      obtain ⟨b1, o1, rfl, hc0⟩ := HSA.out.at' k hlt
      have hc := (HB.out.cell (p := ⟨b1, o1 + k, none⟩) (World.block_lt_of_cell? w0 _ hc0)).trans hc0
      have HBr := hid0 (refBare_any L[k] (HEach.out k hlt))
      have hst := run_step st k L hlt
      rw [HR.out] at hst
      have hbl : (bareOf L[k].data.toList).length ≤ 4194400 := by
        have h1 := bare_len L[k].data.toList
        have h2 := HEach.out k hlt
        rw [bsize0] at h1
        omega
      obtain ⟨b, hb⟩ : ∃ b, b = bareOf L[k].data.toList := ⟨_, rfl⟩
      rw [← hb] at hst HBr hbl
      generalize L[k] = line at *
      clear hb hc0
      by_cases hb0 : b = []
      · subst hb0
        have HR2 : Hid (linesRun st (k + 1) ((L.map fun t => t.data.toList).drop (k + 1)) = parseL s.data.toList) := hid0 (by rw [hst]; rfl)
        clear hst hbl HR
        go_wp2_with (go_at_call 29; refine (HBr.out _).mono ?_; rintro e w1 ⟨⟨t, rfl, ht⟩, rfl⟩; obtain rfl := str_eq4 ht; clear ht)
        go_roundw
        case rel => exact ⟨k + 1, st, by omega, by go_num, rfl, hc1, HSp.out, hn1, HN, HS, HB, HR2, HK⟩
        case measure => simp [intOf]; omega
      · have hemp : (rd b).toList.isEmpty = false := by
          rw [← decide_eq_emptyBytes]
          exact decide_eq_false (fun h => hb0 (by have := congrArg (fun x : ByteArray => x.data.toList) h; simpa using this))
        have hSd := said_any b hbl
        obtain ⟨tb, htb⟩ : ∃ tb, rd b = tb := ⟨_, rfl⟩
        rw [htb] at hemp hSd
        have HTb := hid0 htb
        have HSd := hid0 hSd
        clear htb hSd
        have HB00 := hid0 hb0
        unfold lineStep at hst
        rw [if_neg hb0] at hst
        clear hb0 hbl HR
        cases hsd : saidL b with
        | none =>
          have HSn := hid0 hsd
          rw [hsd] at hst
          clear hsd
          have HP : Hid (parseL s.data.toList = .bad (k + 1) 1) := hid0 hst
          clear hst
          go_wp2_with (first
            | (go_at_call 29; refine (HBr.out _).mono ?_; rintro e w1 ⟨⟨t, rfl, ht⟩, rfl⟩; obtain rfl : t = tb := (str_eq4 ht).trans HTb.out; clear ht)
            | (go_at_call 30; refine (HSd.out _).mono ?_; rintro e w1 ⟨⟨sa, sb, sst, sok, rfl, h1, h2⟩, rfl⟩; obtain rfl : sok = false := said_false HSn.out h1; clear h1 h2)
            | fail)
          have b1' := heap_setCell_same _ w.heap.size 0 _ _ (.slice none 0 0) HBX.out
          have b2' := heap_setCell_same _ w.heap.size 1 _ _ (.slice none 0 0) b1'
          have q0 : ((w1.setCell ⟨w.heap.size, 0, none⟩ (.slice none 0 0)).setCell ⟨w.heap.size, 1, none⟩ (.slice none 0 0)).cell? ⟨w.heap.size, 0, none⟩ = some (.slice none 0 0) := by rw [cell_of_row _ _ _ _ _ _ b2']; rfl
          have q1 : ((w1.setCell ⟨w.heap.size, 0, none⟩ (.slice none 0 0)).setCell ⟨w.heap.size, 1, none⟩ (.slice none 0 0)).cell? ⟨w.heap.size, 1, none⟩ = some (.slice none 0 0) := by rw [cell_of_row _ _ _ _ _ _ b2']; rfl
          have hbW : Below w.heap.size w ((w1.setCell ⟨w.heap.size, 0, none⟩ (.slice none 0 0)).setCell ⟨w.heap.size, 1, none⟩ (.slice none 0 0)) := (HBw.out.setCell (Nat.le_refl _) _).setCell (Nat.le_refl _) _
          clear b1' b2'
          generalize (w1.setCell ⟨w.heap.size, 0, none⟩ (.slice none 0 0)).setCell ⟨w.heap.size, 1, none⟩ (.slice none 0 0) = W at q0 q1 hbW ⊢
          refine bodyPost_ret (by simp [results, Tryz.results9, go_sem, q0, q1]; try rfl) rfl ?_
          exact ⟨by rw [HP.out]; rfl, hbW⟩
        | some x =>
          obtain ⟨lo, hi, nm⟩ := x
          have HSn := hid0 hsd
          rw [hsd] at hst
          clear hsd
          simp only at hst
          obtain ⟨tn, htn⟩ : ∃ tn, rd nm = tn := ⟨_, rfl⟩
          have HTn := hid0 htn
          rw [htn] at hst
          have HFd := hid0 (refFind_any st.names aN cN tn wr (by omega) hsaN)
          by_cases g1 : 1114111 < lo
          · have e1 : chkNo lo hi nm = some 0 := by rw [chkNo, if_pos (.inl g1)]
            rw [e1] at hst
            have g1I : (1114111 : Int) < (lo : Int) := by omega
            clear htn
            have HP : Hid (parseL s.data.toList = .bad (k + 1) 0) := hid0 hst
            clear hst
            go_wp2_with (first
              | (go_at_call 29; refine (HBr.out _).mono ?_; rintro e w1 ⟨⟨t, rfl, ht⟩, rfl⟩; obtain rfl : t = tb := (str_eq4 ht).trans HTb.out; clear ht)
              | (go_at_call 30; refine (HSd.out _).mono ?_; rintro e w1 ⟨⟨sa, sb, sst, sok, rfl, h1, h2⟩, rfl⟩; obtain ⟨rfl, rfl, h3, rfl⟩ := said_true HSn.out h1 h2; obtain rfl : sst = tn := h3.symm.trans HTn.out; clear h1 h2 h3)
              | (go_at_call 31; refine (HFd.out).mono ?_; rintro e w1 ⟨rfl, rfl⟩)
              | fail)
            have b1' := heap_setCell_same _ w.heap.size 0 _ _ (.slice none 0 0) HBX.out
            have b2' := heap_setCell_same _ w.heap.size 1 _ _ (.slice none 0 0) b1'
            have q0 : ((w1.setCell ⟨w.heap.size, 0, none⟩ (.slice none 0 0)).setCell ⟨w.heap.size, 1, none⟩ (.slice none 0 0)).cell? ⟨w.heap.size, 0, none⟩ = some (.slice none 0 0) := by rw [cell_of_row _ _ _ _ _ _ b2']; rfl
            have q1 : ((w1.setCell ⟨w.heap.size, 0, none⟩ (.slice none 0 0)).setCell ⟨w.heap.size, 1, none⟩ (.slice none 0 0)).cell? ⟨w.heap.size, 1, none⟩ = some (.slice none 0 0) := by rw [cell_of_row _ _ _ _ _ _ b2']; rfl
            have hbW : Below w.heap.size w ((w1.setCell ⟨w.heap.size, 0, none⟩ (.slice none 0 0)).setCell ⟨w.heap.size, 1, none⟩ (.slice none 0 0)) := (HBw.out.setCell (Nat.le_refl _) _).setCell (Nat.le_refl _) _
            clear b1' b2'
            generalize (w1.setCell ⟨w.heap.size, 0, none⟩ (.slice none 0 0)).setCell ⟨w.heap.size, 1, none⟩ (.slice none 0 0) = W at q0 q1 hbW ⊢
            refine bodyPost_ret (by simp [results, Tryz.results9, go_sem, q0, q1]; try rfl) rfl ?_
            exact ⟨by rw [HP.out]; rfl, hbW⟩
          · have g1I : ¬ (1114111 : Int) < (lo : Int) := by omega
            by_cases g2 : 1114111 < hi
            · have e1 : chkNo lo hi nm = some 0 := by rw [chkNo, if_pos (.inr (.inl g2))]
              rw [e1] at hst
              have g2I : (1114111 : Int) < (hi : Int) := by omega
              clear htn
              have HP : Hid (parseL s.data.toList = .bad (k + 1) 0) := hid0 hst
              clear hst
              go_wp2_with (first
                | (go_at_call 29; refine (HBr.out _).mono ?_; rintro e w1 ⟨⟨t, rfl, ht⟩, rfl⟩; obtain rfl : t = tb := (str_eq4 ht).trans HTb.out; clear ht)
                | (go_at_call 30; refine (HSd.out _).mono ?_; rintro e w1 ⟨⟨sa, sb, sst, sok, rfl, h1, h2⟩, rfl⟩; obtain ⟨rfl, rfl, h3, rfl⟩ := said_true HSn.out h1 h2; obtain rfl : sst = tn := h3.symm.trans HTn.out; clear h1 h2 h3)
                | (go_at_call 31; refine (HFd.out).mono ?_; rintro e w1 ⟨rfl, rfl⟩)
                | fail)
              have b1' := heap_setCell_same _ w.heap.size 0 _ _ (.slice none 0 0) HBX.out
              have b2' := heap_setCell_same _ w.heap.size 1 _ _ (.slice none 0 0) b1'
              have q0 : ((w1.setCell ⟨w.heap.size, 0, none⟩ (.slice none 0 0)).setCell ⟨w.heap.size, 1, none⟩ (.slice none 0 0)).cell? ⟨w.heap.size, 0, none⟩ = some (.slice none 0 0) := by rw [cell_of_row _ _ _ _ _ _ b2']; rfl
              have q1 : ((w1.setCell ⟨w.heap.size, 0, none⟩ (.slice none 0 0)).setCell ⟨w.heap.size, 1, none⟩ (.slice none 0 0)).cell? ⟨w.heap.size, 1, none⟩ = some (.slice none 0 0) := by rw [cell_of_row _ _ _ _ _ _ b2']; rfl
              have hbW : Below w.heap.size w ((w1.setCell ⟨w.heap.size, 0, none⟩ (.slice none 0 0)).setCell ⟨w.heap.size, 1, none⟩ (.slice none 0 0)) := (HBw.out.setCell (Nat.le_refl _) _).setCell (Nat.le_refl _) _
              clear b1' b2'
              generalize (w1.setCell ⟨w.heap.size, 0, none⟩ (.slice none 0 0)).setCell ⟨w.heap.size, 1, none⟩ (.slice none 0 0) = W at q0 q1 hbW ⊢
              refine bodyPost_ret (by simp [results, Tryz.results9, go_sem, q0, q1]; try rfl) rfl ?_
              exact ⟨by rw [HP.out]; rfl, hbW⟩
            · have g2I : ¬ (1114111 : Int) < (hi : Int) := by omega
              by_cases g3 : nm = otherL
              · have e1 : chkNo lo hi nm = some 0 := by rw [chkNo, if_pos (.inr (.inr g3))]
                rw [e1] at hst
                have hoth : (tn.toList == [79, 116, 104, 101, 114]) = true := by rw [← htn, g3, ByteArray.toList_eq]; rfl
                clear htn g3
                have HP : Hid (parseL s.data.toList = .bad (k + 1) 0) := hid0 hst
                clear hst
                go_wp2_with (first
                  | (go_at_call 29; refine (HBr.out _).mono ?_; rintro e w1 ⟨⟨t, rfl, ht⟩, rfl⟩; obtain rfl : t = tb := (str_eq4 ht).trans HTb.out; clear ht)
                  | (go_at_call 30; refine (HSd.out _).mono ?_; rintro e w1 ⟨⟨sa, sb, sst, sok, rfl, h1, h2⟩, rfl⟩; obtain ⟨rfl, rfl, h3, rfl⟩ := said_true HSn.out h1 h2; obtain rfl : sst = tn := h3.symm.trans HTn.out; clear h1 h2 h3)
                  | (go_at_call 31; refine (HFd.out).mono ?_; rintro e w1 ⟨rfl, rfl⟩)
                  | fail)
                have b1' := heap_setCell_same _ w.heap.size 0 _ _ (.slice none 0 0) HBX.out
                have b2' := heap_setCell_same _ w.heap.size 1 _ _ (.slice none 0 0) b1'
                have q0 : ((w1.setCell ⟨w.heap.size, 0, none⟩ (.slice none 0 0)).setCell ⟨w.heap.size, 1, none⟩ (.slice none 0 0)).cell? ⟨w.heap.size, 0, none⟩ = some (.slice none 0 0) := by rw [cell_of_row _ _ _ _ _ _ b2']; rfl
                have q1 : ((w1.setCell ⟨w.heap.size, 0, none⟩ (.slice none 0 0)).setCell ⟨w.heap.size, 1, none⟩ (.slice none 0 0)).cell? ⟨w.heap.size, 1, none⟩ = some (.slice none 0 0) := by rw [cell_of_row _ _ _ _ _ _ b2']; rfl
                have hbW : Below w.heap.size w ((w1.setCell ⟨w.heap.size, 0, none⟩ (.slice none 0 0)).setCell ⟨w.heap.size, 1, none⟩ (.slice none 0 0)) := (HBw.out.setCell (Nat.le_refl _) _).setCell (Nat.le_refl _) _
                clear b1' b2'
                generalize (w1.setCell ⟨w.heap.size, 0, none⟩ (.slice none 0 0)).setCell ⟨w.heap.size, 1, none⟩ (.slice none 0 0) = W at q0 q1 hbW ⊢
                refine bodyPost_ret (by simp [results, Tryz.results9, go_sem, q0, q1]; try rfl) rfl ?_
                exact ⟨by rw [HP.out]; rfl, hbW⟩
              · have hoth : (tn.toList == [79, 116, 104, 101, 114]) = false := by
                  have h5 := rd_ne _ _ g3
                  rw [show (rd otherL).toList = [79, 116, 104, 101, 114] by rw [ByteArray.toList_eq]; rfl, htn] at h5
                  exact h5
                by_cases g4 : hi < lo
                · have e1 : chkNo lo hi nm = some 6 := by rw [chkNo, if_neg (by rintro (h | h | h) <;> contradiction), if_pos g4]
                  rw [e1] at hst
                  have g4I : (hi : Int) < (lo : Int) := by omega
                  clear htn g3
                  have HP : Hid (parseL s.data.toList = .bad (k + 1) 6) := hid0 hst
                  clear hst
                  go_wp2_with (first
                    | (go_at_call 29; refine (HBr.out _).mono ?_; rintro e w1 ⟨⟨t, rfl, ht⟩, rfl⟩; obtain rfl : t = tb := (str_eq4 ht).trans HTb.out; clear ht)
                    | (go_at_call 30; refine (HSd.out _).mono ?_; rintro e w1 ⟨⟨sa, sb, sst, sok, rfl, h1, h2⟩, rfl⟩; obtain ⟨rfl, rfl, h3, rfl⟩ := said_true HSn.out h1 h2; obtain rfl : sst = tn := h3.symm.trans HTn.out; clear h1 h2 h3)
                    | (go_at_call 31; refine (HFd.out).mono ?_; rintro e w1 ⟨rfl, rfl⟩)
                    | fail)
                  have b1' := heap_setCell_same _ w.heap.size 0 _ _ (.slice none 0 0) HBX.out
                  have b2' := heap_setCell_same _ w.heap.size 1 _ _ (.slice none 0 0) b1'
                  have q0 : ((w1.setCell ⟨w.heap.size, 0, none⟩ (.slice none 0 0)).setCell ⟨w.heap.size, 1, none⟩ (.slice none 0 0)).cell? ⟨w.heap.size, 0, none⟩ = some (.slice none 0 0) := by rw [cell_of_row _ _ _ _ _ _ b2']; rfl
                  have q1 : ((w1.setCell ⟨w.heap.size, 0, none⟩ (.slice none 0 0)).setCell ⟨w.heap.size, 1, none⟩ (.slice none 0 0)).cell? ⟨w.heap.size, 1, none⟩ = some (.slice none 0 0) := by rw [cell_of_row _ _ _ _ _ _ b2']; rfl
                  have hbW : Below w.heap.size w ((w1.setCell ⟨w.heap.size, 0, none⟩ (.slice none 0 0)).setCell ⟨w.heap.size, 1, none⟩ (.slice none 0 0)) := (HBw.out.setCell (Nat.le_refl _) _).setCell (Nat.le_refl _) _
                  clear b1' b2'
                  generalize (w1.setCell ⟨w.heap.size, 0, none⟩ (.slice none 0 0)).setCell ⟨w.heap.size, 1, none⟩ (.slice none 0 0) = W at q0 q1 hbW ⊢
                  refine bodyPost_ret (by simp [results, Tryz.results9, go_sem, q0, q1]; try rfl) rfl ?_
                  exact ⟨by rw [HP.out]; rfl, hbW⟩
                · have g4I : ¬ (hi : Int) < (lo : Int) := by omega
                  have e1 : chkNo lo hi nm = none := by rw [chkNo, if_neg (by rintro (h | h | h) <;> contradiction), if_neg g4]
                  rw [e1] at hst
                  have hOk : ∀ s', lineStep st b = .go s' → s'.Ok := fun s' h => HK.out.step h
                  unfold lineStep at hOk
                  rw [if_neg HB00.out, HSn.out] at hOk
                  simp only at hOk
                  rw [e1, htn] at hOk
                  clear htn g3 e1
                  simp only [atOf] at hst hOk
                  have hwr : w.heap.size < wr.heap.size := Nat.lt_of_lt_of_le hw0 HB.out.size
                  obtain ⟨ix, hix⟩ : ∃ ix, Lib.idxOfS st.names tn = ix := ⟨_, rfl⟩
                  rw [hix] at hst HFd hOk
                  by_cases m1 : 65536 < st.cl.length + 1
                  · have m1I : (65536 : Int) < (st.cl.length : Int) + 1 := by omega
                    rw [if_pos (.inl m1)] at hst
                    clear hOk
                    have HP : Hid (parseL s.data.toList = .bad (k + 1) 2) := hid0 hst
                    clear hst
                    go_wp2_with (first
                      | (go_at_call 29; refine (HBr.out _).mono ?_; rintro e w1 ⟨⟨t, rfl, ht⟩, rfl⟩; obtain rfl : t = tb := (str_eq4 ht).trans HTb.out; clear ht)
                      | (go_at_call 30; refine (HSd.out _).mono ?_; rintro e w1 ⟨⟨sa, sb, sst, sok, rfl, h1, h2⟩, rfl⟩; obtain ⟨rfl, rfl, h3, rfl⟩ := said_true HSn.out h1 h2; obtain rfl : sst = tn := h3.symm.trans HTn.out; clear h1 h2 h3)
                      | (go_at_call 31; refine (HFd.out).mono ?_; rintro e w1 ⟨rfl, rfl⟩)
                      | fail)
                    have b1' := heap_setCell_same _ w.heap.size 0 _ _ (.slice none 0 0) HBX.out
                    have b2' := heap_setCell_same _ w.heap.size 1 _ _ (.slice none 0 0) b1'
                    have q0 : ((w1.setCell ⟨w.heap.size, 0, none⟩ (.slice none 0 0)).setCell ⟨w.heap.size, 1, none⟩ (.slice none 0 0)).cell? ⟨w.heap.size, 0, none⟩ = some (.slice none 0 0) := by rw [cell_of_row _ _ _ _ _ _ b2']; rfl
                    have q1 : ((w1.setCell ⟨w.heap.size, 0, none⟩ (.slice none 0 0)).setCell ⟨w.heap.size, 1, none⟩ (.slice none 0 0)).cell? ⟨w.heap.size, 1, none⟩ = some (.slice none 0 0) := by rw [cell_of_row _ _ _ _ _ _ b2']; rfl
                    have hbW : Below w.heap.size w ((w1.setCell ⟨w.heap.size, 0, none⟩ (.slice none 0 0)).setCell ⟨w.heap.size, 1, none⟩ (.slice none 0 0)) := (HBw.out.setCell (Nat.le_refl _) _).setCell (Nat.le_refl _) _
                    clear b1' b2'
                    generalize (w1.setCell ⟨w.heap.size, 0, none⟩ (.slice none 0 0)).setCell ⟨w.heap.size, 1, none⟩ (.slice none 0 0) = W at q0 q1 hbW ⊢
                    refine bodyPost_ret (by simp [results, Tryz.results9, go_sem, q0, q1]; try rfl) rfl ?_
                    exact ⟨by rw [HP.out]; rfl, hbW⟩
                  · obtain ⟨nc, hnc⟩ : ∃ nc : Nat, st.cl.length + 1 = nc := ⟨_, rfl⟩
                    have hcn : (st.cl.length : Int) + 1 = (nc : Int) := by omega
                    have hnc1 : nc ≤ 65536 := by omega
                    have m1I : ¬ (65536 : Int) < (nc : Int) := by omega
                    by_cases m2 : ix < 0
                    · by_cases m3 : 62 ≤ st.names.length
                      · have m3I : (62 : Int) ≤ (st.names.length : Int) := by omega
                        rw [if_pos (.inr ⟨m2, m3⟩)] at hst
                        clear hOk hix m3 hn1 m1 g1 g2 g4 hnc
                        have m3J : ¬ (st.names.length : Int) < 62 := by omega
                        have HP : Hid (parseL s.data.toList = .bad (k + 1) 2) := hid0 hst
                        clear hst
                        go_wp2_with (first
                          | (go_at_call 29; refine (HBr.out _).mono ?_; rintro e w1 ⟨⟨t, rfl, ht⟩, rfl⟩; obtain rfl : t = tb := (str_eq4 ht).trans HTb.out; clear ht)
                          | (go_at_call 30; refine (HSd.out _).mono ?_; rintro e w1 ⟨⟨sa, sb, sst, sok, rfl, h1, h2⟩, rfl⟩; obtain ⟨rfl, rfl, h3, rfl⟩ := said_true HSn.out h1 h2; obtain rfl : sst = tn := h3.symm.trans HTn.out; clear h1 h2 h3)
                          | (go_at_call 31; refine (HFd.out).mono ?_; rintro e w1 ⟨rfl, rfl⟩)
                          | fail)
                        have b1' := heap_setCell_same _ w.heap.size 0 _ _ (.slice none 0 0) HBX.out
                        have b2' := heap_setCell_same _ w.heap.size 1 _ _ (.slice none 0 0) b1'
                        have q0 : ((w1.setCell ⟨w.heap.size, 0, none⟩ (.slice none 0 0)).setCell ⟨w.heap.size, 1, none⟩ (.slice none 0 0)).cell? ⟨w.heap.size, 0, none⟩ = some (.slice none 0 0) := by rw [cell_of_row _ _ _ _ _ _ b2']; rfl
                        have q1 : ((w1.setCell ⟨w.heap.size, 0, none⟩ (.slice none 0 0)).setCell ⟨w.heap.size, 1, none⟩ (.slice none 0 0)).cell? ⟨w.heap.size, 1, none⟩ = some (.slice none 0 0) := by rw [cell_of_row _ _ _ _ _ _ b2']; rfl
                        have hbW : Below w.heap.size w ((w1.setCell ⟨w.heap.size, 0, none⟩ (.slice none 0 0)).setCell ⟨w.heap.size, 1, none⟩ (.slice none 0 0)) := (HBw.out.setCell (Nat.le_refl _) _).setCell (Nat.le_refl _) _
                        clear b1' b2'
                        generalize (w1.setCell ⟨w.heap.size, 0, none⟩ (.slice none 0 0)).setCell ⟨w.heap.size, 1, none⟩ (.slice none 0 0) = W at q0 q1 hbW ⊢
                        refine bodyPost_ret (by simp [results, Tryz.results9, go_sem, q0, q1]; try rfl) rfl ?_
                        exact ⟨by rw [HP.out]; rfl, hbW⟩
                      · have m3J : (st.names.length : Int) < 62 := by omega
                        have m3K : ¬ (62 : Int) ≤ (st.names.length : Int) := by omega
                        rw [if_neg (fun h => h.elim m1 (fun h => m3 h.2))] at hst hOk
                        simp only [if_pos m2] at hst hOk
                        obtain ⟨i0, hi0, hz0, hz1, hz2⟩ := info_parts infoStr
                        clear hix g1 g2 g4 m1 m3 x0 x1 xf
                        have HNO := hid0 hOk
                        have HST := hid0 hst
                        clear hOk hst hpaS
                        have hbwr := HB.out.size
                        go_wp2_with (first
                          | (go_at_call 29; refine (HBr.out _).mono ?_; rintro e w1 ⟨⟨t, rfl, ht⟩, rfl⟩; obtain rfl : t = tb := (str_eq4 ht).trans HTb.out; clear ht)
                          | (go_at_call 30; refine (HSd.out _).mono ?_; rintro e w1 ⟨⟨sa, sb, sst, sok, rfl, h1, h2⟩, rfl⟩; obtain ⟨rfl, rfl, h3, rfl⟩ := said_true HSn.out h1 h2; obtain rfl : sst = tn := h3.symm.trans HTn.out; clear h1 h2 h3)
                          | (go_at_call 31; refine (HFd.out).mono ?_; rintro e w1 ⟨rfl, rfl⟩)
                          | (at_builtin; go_loud (refine wpList_append_own _ rfl _ _ 22 rfl w0.heap.size 9 i0 (.string ⟨#[]⟩) 1 16 Tryz.underlying22 hi0 hz0 hz1 hz2 rfl (by decide) _ _ _ rfl (HN.out.alloc _) ⟨w1.heap.size, 0, none⟩ 1 1 [.string sst] rfl rfl (cell_one_new _ _ _) ?n2 ?n3 ?n4 ?n5 ?_))
                          | fail)
                        case n2 => first | rfl | (intro u hu; simp at hu; subst hu; rfl)
                        case n3 => unfold maxLen; omega
                        case n4 => omega
                        case n5 => first | omega | (simp; omega)
                        · intro v' wA hown' hgrow _
                          have R := owns_snoc rfl HN.out hown' hgrow HB.out (Nat.le_refl _)
                          have hoS := HS.out.grown HN.out hgrow
                          obtain ⟨aM, cM, rfl, hsaM⟩ := R.1.sa
                          obtain ⟨aS', cS', he, hpaS'⟩ := hoS.pa
                          simp only [Value.slice.injEq, true_and] at he
                          obtain ⟨rfl, rfl⟩ := he
                          have HR := hid0 R
                          have hbx : wA.heap[w.heap.size]? = some (.cells #[.slice none 0 0, .slice none 0 0] 25 (0, 0)) := (R.2.block _ hw0).trans ((HB0.out.block _ (Nat.lt_succ_self _)).trans HBx.out.2)
                          have x0 : wA.cell? ⟨w.heap.size, 0, none⟩ = some (.slice none 0 0) := by rw [cell_of_row _ _ _ _ _ _ hbx]; rfl
                          have x1 : wA.cell? ⟨w.heap.size, 1, none⟩ = some (.slice none 0 0) := by rw [cell_of_row _ _ _ _ _ _ hbx]; rfl
                          have xf : ∀ j, wA.frozen? ⟨w.heap.size, j, none⟩ = false := fun j => frozen_of_row _ _ _ _ _ hbx
                          have hwA : w.heap.size < wA.heap.size := Nat.lt_of_lt_of_le hw0 R.2.size
                          have HBw2 : Hid (Below w.heap.size w wA) := hid0 ((HBx.out.1.trans (HB0.out.mono (Nat.le_succ _))).trans (R.2.mono (by omega)))
                          have HBX2 := hid0 hbx
                          have HPt := hid0 (putS_any st.sp (lo : Int) (hi : Int) (st.names.length : Int) aS cS (by have := HSp.out; omega) wA hpaS')
                          have hst := HST.out
                          have hOk := HNO.out
                          clear hown' hgrow hbx R hoS hsaM hpaS' HST HNO HBw HBX
                          by_cases m4 : st.sp.any (meets ((lo : Int), (hi : Int), (st.names.length : Int))) = true
                          · clear hOk
                            have HP : Hid (parseL s.data.toList = .bad (k + 1) 4) := hid0 (by rw [hst, if_pos m4])
                            clear hst
                            have HM : Hid (∃ t ∈ st.sp, meets ((lo : Int), (hi : Int), (st.names.length : Int)) t = true) := hid0 (List.any_eq_true.1 m4)
                            clear m4  x0 x1 xf
                            have HPt2 := hid0 (HPt.out.mono (R' := fun e w' => e = .returned (.tuple #[.slice aS st.sp.length cS, .bool false]) ∧ Below wA.heap.size wA w') (by
                              rintro e w2 ⟨hr, hb2⟩
                              rcases hr with ⟨_, _, _, hno⟩ | ⟨rfl, _⟩
                              · exfalso
                                obtain ⟨t, ht, he⟩ := HM.out
                                have hf := hno t ht
                                rw [he] at hf
                                cases hf
                              · exact ⟨rfl, hb2⟩))
                            clear HPt
                            go_wp2_with (first
                              | (go_at_call 32; refine (HPt2.out).mono ?_; rintro e w2 ⟨rfl, hb2⟩; have hbx1 := (hb2.block _ hwA).trans HBX2.out; have x0 : w2.cell? ⟨w.heap.size, 0, none⟩ = some (.slice none 0 0) := (by rw [cell_of_row _ _ _ _ _ _ hbx1]; rfl); have x1 : w2.cell? ⟨w.heap.size, 1, none⟩ = some (.slice none 0 0) := (by rw [cell_of_row _ _ _ _ _ _ hbx1]; rfl); have xf : ∀ j, w2.frozen? ⟨w.heap.size, j, none⟩ = false := (fun j => frozen_of_row _ _ _ _ _ hbx1); have HX1 := hid0 hbx1; clear hbx1; have HB2 := hid0 hb2; clear hb2)
                              | fail)
                            have b1' := heap_setCell_same _ w.heap.size 0 _ _ (.slice none 0 0) HX1.out
                            have b2' := heap_setCell_same _ w.heap.size 1 _ _ (.slice none 0 0) b1'
                            have q0 : ((w2.setCell ⟨w.heap.size, 0, none⟩ (.slice none 0 0)).setCell ⟨w.heap.size, 1, none⟩ (.slice none 0 0)).cell? ⟨w.heap.size, 0, none⟩ = some (.slice none 0 0) := by rw [cell_of_row _ _ _ _ _ _ b2']; rfl
                            have q1 : ((w2.setCell ⟨w.heap.size, 0, none⟩ (.slice none 0 0)).setCell ⟨w.heap.size, 1, none⟩ (.slice none 0 0)).cell? ⟨w.heap.size, 1, none⟩ = some (.slice none 0 0) := by rw [cell_of_row _ _ _ _ _ _ b2']; rfl
                            have hbW : Below w.heap.size w ((w2.setCell ⟨w.heap.size, 0, none⟩ (.slice none 0 0)).setCell ⟨w.heap.size, 1, none⟩ (.slice none 0 0)) := ((HBw2.out.trans (HB2.out.mono (Nat.le_of_lt hwA))).setCell (Nat.le_refl _) _).setCell (Nat.le_refl _) _
                            clear b1' b2'
                            generalize (w2.setCell ⟨w.heap.size, 0, none⟩ (.slice none 0 0)).setCell ⟨w.heap.size, 1, none⟩ (.slice none 0 0) = W at q0 q1 hbW ⊢
                            refine bodyPost_ret (by simp [results, Tryz.results9, go_sem, q0, q1]; try rfl) rfl ?_
                            exact ⟨by rw [HP.out]; rfl, hbW⟩
                          · have HK2 := hid0 (hOk _ (by rw [if_neg m4]))
                            clear hOk
                            have HR2 : Hid (linesRun ⟨st.names ++ [sst], st.cl ++ [((lo : Int), (hi : Int), (st.names.length : Int))], putS st.sp ((lo : Int), (hi : Int), (st.names.length : Int))⟩ (k + 1) ((L.map fun t => t.data.toList).drop (k + 1)) = parseL s.data.toList) := hid0 (by rw [hst, if_neg m4])
                            clear hst
                            have HM : Hid (∀ t ∈ st.sp, meets ((lo : Int), (hi : Int), (st.names.length : Int)) t = false) := hid0 (fun t ht => by rw [Bool.eq_false_iff]; exact fun he => m4 (List.any_eq_true.2 ⟨t, ht, he⟩))
                            clear m4
                            have HPt2 := hid0 (HPt.out.mono (R' := fun e w' => (∃ v, e = .returned (.tuple #[v, .bool true]) ∧ OwnP w' wA.heap.size v (putS st.sp ((lo : Int), (hi : Int), (st.names.length : Int)))) ∧ Below wA.heap.size wA w') (by
                              rintro e w2 ⟨hr, hb2⟩
                              rcases hr with ⟨v, rfl, hoP, _⟩ | ⟨_, t, ht, he⟩
                              · exact ⟨⟨v, rfl, hoP⟩, hb2⟩
                              · exfalso
                                have hf := HM.out t ht
                                rw [he] at hf
                                cases hf))
                            clear HPt
                            go_wp2_with (first
                              | (go_at_call 32; refine (HPt2.out).mono ?_; rintro e w2 ⟨⟨vP, rfl, hoP⟩, hb2⟩; obtain ⟨aP, cP, rfl, _⟩ := hoP.pa; have HOP := hid0 hoP; clear hoP; have HB2 := hid0 hb2; clear hb2)
                              | fail)
                            go_roundw
                            case rel => exact ⟨k + 1, ⟨st.names ++ [sst], st.cl ++ [((lo : Int), (hi : Int), (st.names.length : Int))], putS st.sp ((lo : Int), (hi : Int), (st.names.length : Int))⟩, by omega, by go_num, by simp only [List.length_append, List.length_singleton, hnc], by simp only [List.length_append, List.length_singleton, hnc]; exact hnc1, by simp only [putS_len, List.length_append, List.length_singleton, HSp.out], by simp only [List.length_append, List.length_singleton]; omega, hid0 (by have hz := HR.out.1.later HB2.out; rw [show (st.names ++ [sst]).length = st.names.length + 1 by simp] at hz; exact hz), hid0 (HOP.out.base HR.out.2.size), hid0 (HR.out.2.trans (HB2.out.mono HR.out.2.size)), HR2, HK2⟩
                            case measure => simp [intOf]; omega
                    · have HPt := hid0 (putS_any st.sp (lo : Int) (hi : Int) ix aS cS (by have := HSp.out; omega) wr hpaS)
                      rw [if_neg (fun h => h.elim m1 (fun h => m2 h.1))] at hst hOk
                      simp only [if_neg m2] at hst hOk
                      by_cases m4 : st.sp.any (meets ((lo : Int), (hi : Int), ix)) = true
                      · clear hOk
                        have HP : Hid (parseL s.data.toList = .bad (k + 1) 4) := hid0 (by rw [hst, if_pos m4])
                        clear hst
                        have HM : Hid (∃ t ∈ st.sp, meets ((lo : Int), (hi : Int), ix) t = true) := hid0 (List.any_eq_true.1 m4)
                        clear m4 x0 x1 xf m1 hix g1 g2 g4
                        have HPt2 := hid0 (HPt.out.mono (R' := fun e w' => e = .returned (.tuple #[.slice aS st.sp.length cS, .bool false]) ∧ Below wr.heap.size wr w') (by
                          rintro e w2 ⟨hr, hb2⟩
                          rcases hr with ⟨_, _, _, hno⟩ | ⟨rfl, _⟩
                          · exfalso
                            obtain ⟨t, ht, he⟩ := HM.out
                            have hf := hno t ht
                            rw [he] at hf
                            cases hf
                          · exact ⟨rfl, hb2⟩))
                        clear HPt
                        go_wp2_with (first
                          | (go_at_call 29; refine (HBr.out _).mono ?_; rintro e w1 ⟨⟨t, rfl, ht⟩, rfl⟩; obtain rfl : t = tb := (str_eq4 ht).trans HTb.out; clear ht)
                          | (go_at_call 30; refine (HSd.out _).mono ?_; rintro e w1 ⟨⟨sa, sb, sst, sok, rfl, h1, h2⟩, rfl⟩; obtain ⟨rfl, rfl, h3, rfl⟩ := said_true HSn.out h1 h2; obtain rfl : sst = tn := h3.symm.trans HTn.out; clear h1 h2 h3)
                          | (go_at_call 31; refine (HFd.out).mono ?_; rintro e w1 ⟨rfl, rfl⟩)
                          | (go_at_call 32; refine (HPt2.out).mono ?_; rintro e w2 ⟨rfl, hb2⟩; have hbx1 := (hb2.block _ hwr).trans HBX.out; have x0 : w2.cell? ⟨w.heap.size, 0, none⟩ = some (.slice none 0 0) := (by rw [cell_of_row _ _ _ _ _ _ hbx1]; rfl); have x1 : w2.cell? ⟨w.heap.size, 1, none⟩ = some (.slice none 0 0) := (by rw [cell_of_row _ _ _ _ _ _ hbx1]; rfl); have xf : ∀ j, w2.frozen? ⟨w.heap.size, j, none⟩ = false := (fun j => frozen_of_row _ _ _ _ _ hbx1); have HX1 := hid0 hbx1; clear hbx1; have HB2 := hid0 hb2; clear hb2)
                          | fail)
                        have b1' := heap_setCell_same _ w.heap.size 0 _ _ (.slice none 0 0) HX1.out
                        have b2' := heap_setCell_same _ w.heap.size 1 _ _ (.slice none 0 0) b1'
                        have q0 : ((w2.setCell ⟨w.heap.size, 0, none⟩ (.slice none 0 0)).setCell ⟨w.heap.size, 1, none⟩ (.slice none 0 0)).cell? ⟨w.heap.size, 0, none⟩ = some (.slice none 0 0) := by rw [cell_of_row _ _ _ _ _ _ b2']; rfl
                        have q1 : ((w2.setCell ⟨w.heap.size, 0, none⟩ (.slice none 0 0)).setCell ⟨w.heap.size, 1, none⟩ (.slice none 0 0)).cell? ⟨w.heap.size, 1, none⟩ = some (.slice none 0 0) := by rw [cell_of_row _ _ _ _ _ _ b2']; rfl
                        have hbW : Below w.heap.size w ((w2.setCell ⟨w.heap.size, 0, none⟩ (.slice none 0 0)).setCell ⟨w.heap.size, 1, none⟩ (.slice none 0 0)) := ((HBw.out.trans (HB2.out.mono (Nat.le_of_lt hwr))).setCell (Nat.le_refl _) _).setCell (Nat.le_refl _) _
                        clear b1' b2'
                        generalize (w2.setCell ⟨w.heap.size, 0, none⟩ (.slice none 0 0)).setCell ⟨w.heap.size, 1, none⟩ (.slice none 0 0) = W at q0 q1 hbW ⊢
                        refine bodyPost_ret (by simp [results, Tryz.results9, go_sem, q0, q1]; try rfl) rfl ?_
                        exact ⟨by rw [HP.out]; rfl, hbW⟩
                      · have HK2 := hid0 (hOk _ (by rw [if_neg m4]))
                        clear hOk
                        have HR2 : Hid (linesRun ⟨st.names, st.cl ++ [((lo : Int), (hi : Int), ix)], putS st.sp ((lo : Int), (hi : Int), ix)⟩ (k + 1) ((L.map fun t => t.data.toList).drop (k + 1)) = parseL s.data.toList) := hid0 (by rw [hst, if_neg m4])
                        clear hst
                        have HM : Hid (∀ t ∈ st.sp, meets ((lo : Int), (hi : Int), ix) t = false) := hid0 (fun t ht => by rw [Bool.eq_false_iff]; exact fun he => m4 (List.any_eq_true.2 ⟨t, ht, he⟩))
                        clear m4 m1 hix g1 g2 g4
                        have HPt2 := hid0 (HPt.out.mono (R' := fun e w' => (∃ v, e = .returned (.tuple #[v, .bool true]) ∧ OwnP w' wr.heap.size v (putS st.sp ((lo : Int), (hi : Int), ix))) ∧ Below wr.heap.size wr w') (by
                          rintro e w2 ⟨hr, hb2⟩
                          rcases hr with ⟨v, rfl, hoP, _⟩ | ⟨_, t, ht, he⟩
                          · exact ⟨⟨v, rfl, hoP⟩, hb2⟩
                          · exfalso
                            have hf := HM.out t ht
                            rw [he] at hf
                            cases hf))
                        clear HPt
                        go_wp2_with (first
                          | (go_at_call 29; refine (HBr.out _).mono ?_; rintro e w1 ⟨⟨t, rfl, ht⟩, rfl⟩; obtain rfl : t = tb := (str_eq4 ht).trans HTb.out; clear ht)
                          | (go_at_call 30; refine (HSd.out _).mono ?_; rintro e w1 ⟨⟨sa, sb, sst, sok, rfl, h1, h2⟩, rfl⟩; obtain ⟨rfl, rfl, h3, rfl⟩ := said_true HSn.out h1 h2; obtain rfl : sst = tn := h3.symm.trans HTn.out; clear h1 h2 h3)
                          | (go_at_call 31; refine (HFd.out).mono ?_; rintro e w1 ⟨rfl, rfl⟩)
                          | (go_at_call 32; refine (HPt2.out).mono ?_; rintro e w2 ⟨⟨vP, rfl, hoP⟩, hb2⟩; obtain ⟨aP, cP, rfl, _⟩ := hoP.pa; have HOP := hid0 hoP; clear hoP; have HB2 := hid0 hb2; clear hb2)
                          | fail)
                        go_roundw
                        case rel => exact ⟨k + 1, ⟨st.names, st.cl ++ [((lo : Int), (hi : Int), ix)], putS st.sp ((lo : Int), (hi : Int), ix)⟩, by omega, by go_num, by simp only [List.length_append, List.length_singleton, hnc], by simp only [List.length_append, List.length_singleton, hnc]; exact hnc1, by simp only [putS_len, List.length_append, List.length_singleton, HSp.out], hn1, hid0 (HN.out.later HB2.out), hid0 (HOP.out.base HB.out.size), hid0 (HB.out.trans (HB2.out.mono HB.out.size)), HR2, HK2⟩
                        case measure => simp [intOf]; omega
    · have hkI : ¬ (k : Int) < (L.length : Int) := by omega
      have HP : Hid (parseL s.data.toList = .ok st) := hid0 (by rw [← HR.out, List.drop_of_length_le (by simpa using hlt)]; rfl)
      have HLow : Low st.sp := fun t ht => by
        have h1 := HK.out.bnd t ((HK.out.mem t).1 ht)
        have h2 := HK.out.rise.1 t ht
        omega
      have HJn := hid0 (refJoined_any st.sp aS cS (by have := HSp.out; omega) HLow wr hpaS)
      clear HLow hpaS HR
      have hwr : w.heap.size < wr.heap.size := Nat.lt_of_lt_of_le hw0 HB.out.size
      clear x0 x1 xf
      go_wp2_with (go_at_call 33; refine (HJn.out).mono ?_; rintro e w1 ⟨vJ, rfl, hoJ, hbJ⟩; obtain ⟨aJ, cJ, rfl, _⟩ := hoJ.pa; have hbx1 := (hbJ.block _ hwr).trans HBX.out; have x0 : w1.cell? ⟨w.heap.size, 0, none⟩ = some (.slice none 0 0) := (by rw [cell_of_row _ _ _ _ _ _ hbx1]; rfl); have x1 : w1.cell? ⟨w.heap.size, 1, none⟩ = some (.slice none 0 0) := (by rw [cell_of_row _ _ _ _ _ _ hbx1]; rfl); have xf : ∀ j, w1.frozen? ⟨w.heap.size, j, none⟩ = false := (fun j => frozen_of_row _ _ _ _ _ hbx1); have HX1 := hid0 hbx1; have HOJ := hid0 hoJ; have HBJ := hid0 hbJ; clear hoJ hbJ hbx1)
      have b1' := heap_setCell_same _ w.heap.size 0 _ _ (.slice aN st.names.length cN) HX1.out
      have b2' := heap_setCell_same _ w.heap.size 1 _ _ (.slice aJ (joinL st.sp).length cJ) b1'
      have hoN : OwnS ((w1.setCell ⟨w.heap.size, 0, none⟩ (.slice aN st.names.length cN)).setCell ⟨w.heap.size, 1, none⟩ (.slice aJ (joinL st.sp).length cJ)) w.heap.size (.slice aN st.names.length cN) st.names := OwnS.base (ownsRow_setCell_below (ownsRow_setCell_below (HN.out.later HBJ.out) hw0 _) hw0 _) (Nat.le_of_lt hw0)
      have hoJ : OwnP ((w1.setCell ⟨w.heap.size, 0, none⟩ (.slice aN st.names.length cN)).setCell ⟨w.heap.size, 1, none⟩ (.slice aJ (joinL st.sp).length cJ)) w.heap.size (.slice aJ (joinL st.sp).length cJ) (joinL st.sp) := OwnP.base (ownsRow_setCell_below (ownsRow_setCell_below HOJ.out hwr _) hwr _) (Nat.le_of_lt hwr)
      have hbW : Below w.heap.size w ((w1.setCell ⟨w.heap.size, 0, none⟩ (.slice aN st.names.length cN)).setCell ⟨w.heap.size, 1, none⟩ (.slice aJ (joinL st.sp).length cJ)) := ((HBw.out.trans (HBJ.out.mono (Nat.le_of_lt hwr))).setCell (Nat.le_refl _) _).setCell (Nat.le_refl _) _
      have q0 : ((w1.setCell ⟨w.heap.size, 0, none⟩ (.slice aN st.names.length cN)).setCell ⟨w.heap.size, 1, none⟩ (.slice aJ (joinL st.sp).length cJ)).cell? ⟨w.heap.size, 0, none⟩ = some (.slice aN st.names.length cN) := by rw [cell_of_row _ _ _ _ _ _ b2']; rfl
      have q1 : ((w1.setCell ⟨w.heap.size, 0, none⟩ (.slice aN st.names.length cN)).setCell ⟨w.heap.size, 1, none⟩ (.slice aJ (joinL st.sp).length cJ)).cell? ⟨w.heap.size, 1, none⟩ = some (.slice aJ (joinL st.sp).length cJ) := by rw [cell_of_row _ _ _ _ _ _ b2']; rfl
      clear b1' b2'
      generalize (w1.setCell ⟨w.heap.size, 0, none⟩ (.slice aN st.names.length cN)).setCell ⟨w.heap.size, 1, none⟩ (.slice aJ (joinL st.sp).length cJ) = W at q0 q1 hbW hoN hoJ ⊢
      refine bodyPost_ret (by simp [results, Tryz.results9, go_sem, q0, q1]; try rfl) rfl ?_
      exact ⟨by rw [HP.out]; exact ⟨_, _, rfl, hoN, hoJ, HK.out⟩, hbW⟩
end Go.Proofs.YthdmhelgmejicaaGreatDoor
