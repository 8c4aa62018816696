/-
  The walks of caesurakit.Rows and RowsLeft.
-/
import Derived.Test.YthcpalpcakjfnaaMgPM
import Derived.BigRegion
namespace Go.Proofs.Ythcpalpcakjfnaa
open Go.RowKit Go.Shelf
theorem drew_add {w w' : World} {a : Nat} (h : ∃ m, w' = (w.drewN a).drewN m) : ∃ n, w' = w.drewN n := by
  obtain ⟨m, hm⟩ := h
  exact ⟨a + m, by rw [hm, World.drewN_drewN]⟩
/-- One more element behind the lists, that is none of them. -/
theorem Pile.tail {W wr w1 : World} {base g c n : Nat} {v x : Value} {ps : Lot} (hn : n = ps.length) (h : Pile W base v ps) (hk : Below W.heap.size W wr) (hbase : base ≤ W.heap.size)
    (hown' : w1.ownsRow base 33 1 (.slice (some ⟨g, 0, none⟩) (n + 1) c) (n + 1) (ps.map (·.1) ++ [x])) (hgrow : wr.grownBy w1 v.ownBlock) (hat : some g = v.ownBlock ∨ W.heap.size ≤ g) {w : World} (hb : Below base w W) :
    Pile w1 base (.slice (some ⟨g, 0, none⟩) n c) ps ∧ n + 1 ≤ c ∧ w1.cell? ⟨g, n, none⟩ = some x ∧ Below base w w1 := by
  subst hn
  have h2 := h.later hk
  have hs := hk.size
  have hrows : ∀ y ∈ ps, ∃ g1 c1, y.1 = .slice (some ⟨g1, 0, none⟩) y.2.length c1 ∧ LW w1 base g1 c1 y.2 := fun y hy => by
    obtain ⟨g1, c1, e1, hl1⟩ := h2.row y hy
    refine ⟨g1, c1, e1, World.ownsRow.kept hl1 hgrow ?_⟩
    right
    intro hc
    exact h.away y hy g1 hc.symm (by rw [e1]; rfl)
  refine ⟨⟨?_, hrows, h.apart, ?_⟩, ?_, ?_, ?_⟩
  · rcases hown'.2 with ⟨e, _⟩ | ⟨g', cap, cur, e, q1, q2, q3, q4, q5, q6⟩
    · cases e
    · cases e
      refine ⟨by simp, .inr ⟨g, c, cur, rfl, q1, q2, by omega, q4, q5, ?_⟩⟩
      have e2 : cur.toList.take (ps.length * 1) = (cur.toList.take ((ps.length + 1) * 1)).take (ps.length * 1) := by rw [List.take_take]; congr 1; omega
      rw [e2, q6, Nat.mul_one, List.take_append_of_le_length (by simp), List.take_of_length_le (by simp)]
  · intro y hy q hq hyq
    have e : g = q := by simpa [Value.ownBlock] using hq
    subst e
    rcases hat with hat | hat
    · exact h.away y hy g hat.symm hyq
    · have := (h.blk hy hyq).2; omega
  · rcases hown'.2 with ⟨e, _⟩ | ⟨g', cap, cur, e, _, _, q3, _⟩
    · cases e
    · cases e; exact q3
  · rw [World.ownsRow.cellAt hown' ps.length (by omega), List.getElem?_append_right (by simp)]
    simp
  · exact ((hb.trans (hk.mono hbase))).grown hgrow (by omega) (fun k hk' => (World.ownsRow.lt h.outer k hk').1)
/-- What Rows leaves: lists, and a row of marks behind them. -/
def RowsR (w : World) (L : List (List Int)) (r : Ending) (w' : World) : Prop := ∃ g c, r = .returned (.slice (some ⟨g, 0, none⟩) L.length c) ∧ ∃ gm ps, Pile w' w.heap.size (.slice (some ⟨g, 0, none⟩) L.length c) ps ∧ ps.map (·.2) = L ∧ L.length + 1 ≤ c ∧ w'.cell? ⟨g, L.length, none⟩ = some (.slice (some ⟨gm, 0, none⟩) 1 1) ∧ w'.cell? ⟨gm, 0, none⟩ = some (.int .i64 (-77)) ∧ Below w.heap.size w w' ∧ w.heap.size ≤ gm
set_option maxRecDepth 10000 in
set_option maxHeartbeats 1600000 in
theorem rows_any (L : List (List Int)) (a : Option Addr) (cap : Nat) (w : World) (hl : L.length ≤ 1000000000) (hr : ∀ r ∈ L, r.length ≤ 1000000000) (ha : RwA w a L) :
    Calls Try.prog 4 #[.slice a L.length cap] w fun r w' => RowsR w L r w' := by
  obtain ⟨i0, hi, hz0, hz1, hz2⟩ := info_parts infoInts
  have HA := hid0 ha
  have HR := hid0 hr
  clear ha hr
  go_enter Try.func4, Try.ntmps4
  go_wp2
  go_loopw [3, 4] (fun v i wr => ∃ (k : Nat) (ps : Lot), k ≤ L.length ∧ i = .int .i64 (k : Int) ∧ Hid (ps.map (·.2) = L.take k) ∧ Hid (ps.length = k) ∧ Hid (Pile wr w.heap.size v ps) ∧ Hid (Below w.heap.size w wr)) (fun _ i _ => L.length - (intOf i).toNat)
  case atStart => exact ⟨0, [], Nat.zero_le _, rfl, hid0 rfl, hid0 rfl, hid0 (Pile.nil _ _), hid0 (Below.refl _ _)⟩
  case round =>
    obtain ⟨k, ps, hk, rfl, HM, HK, HP, HB⟩ := hrel
    have hbs := HB.out.size
    have HOO : Hid (wr.ownsRow w.heap.size 33 1 u3 k (ps.map (·.1))) := hid0 (by have h := HP.out.outer; rw [HK.out] at h; exact h)
    by_cases hlt : k < L.length
    · obtain ⟨b, off, rfl, _, a1, c1, d1, i1⟩ := (HA.out.past HB.out).at' k hlt
      have hkI : (k : Int) < (L.length : Int) := by omega
      have hkI0 : (0 : Int) ≤ (k : Int) := by omega
      have HTK : Hid (L.take (k + 1) = L.take k ++ [L[k]]) := hid0 (by rw [List.take_add_one, List.getElem?_eq_getElem hlt]; rfl)
      have HLI := hid0 (list_any L[k] a1 c1 wr (HR.out _ (List.getElem_mem hlt)) i1)
      clear i1
      generalize L[k] = s at *
      go_wp2_with (first
        | (go_at_call 11; refine HLI.out.mono ?_; rintro e w1 ⟨g, c, rfl, hx, hb1⟩; have hs1 := hb1.size; have HX := hid0 hx; have HB1 := hid0 hb1; clear hx hb1)
        | (at_builtin; go_loud (refine wpList_append_own_at _ rfl _ _ 32 rfl w.heap.size 33 i0 (.slice none 0 0) 1 24 Try.underlying32 hi hz0 hz1 hz2 rfl (by decide) _ k (ps.map (·.1)) rfl (World.ownsRow.alloc (row_later HOO.out HB1.out) _) ⟨w1.heap.size, 0, none⟩ 1 1 [.slice (some ⟨g, 0, none⟩) s.length c] rfl rfl (cell_one_new _ _ _) (by simp [Value.oneCell']) (by unfold maxLen; omega) (by omega) (by simp; omega) ?_; intro v2 w2 hown2 hgrow2 _ hat2; have HS := hid0 (Pile.snoc (w := w) HK.out.symm HP.out HB1.out HX.out hbs hown2 hgrow2 hat2 HB.out); clear hown2 hgrow2 hat2))
        | fail)
      have HP2 := hid0 HS.out.1
      have HB2 := hid0 HS.out.2
      have HM2 : Hid ((ps ++ [(Value.slice (some ⟨g, 0, none⟩) s.length c, s)]).map (·.2) = L.take (k + 1)) := hid0 (by rw [List.map_append, HM.out, HTK.out]; rfl)
      have HK2 : Hid ((ps ++ [(Value.slice (some ⟨g, 0, none⟩) s.length c, s)]).length = k + 1) := hid0 (by rw [List.length_append, HK.out]; rfl)
      clear HS HP HB HM HK HOO HTK HX HB1
      go_roundw
      case rel => exact ⟨k + 1, _, by omega, by go_num, HM2, HK2, HP2, HB2⟩
      case measure => simp [intOf]; omega
    · have hkI : ¬ (k : Int) < (L.length : Int) := by omega
      have hkn : k = L.length := by omega
      have HE : Hid (ps.map (·.2) = L) := hid0 (by rw [HM.out, List.take_of_length_le (by omega)])
      subst hkn
      clear HM
      obtain ⟨w1, hw1⟩ : ∃ w1, w1 = wr.alloc (.cells #[.int .i64 (-77)] 3) := ⟨_, rfl⟩
      have hb1 : Below wr.heap.size wr w1 := by rw [hw1]; exact (Below.refl _ _).alloc (Nat.le_refl _) _
      have hr1 : w1.heap[wr.heap.size]? = some (.cells #[.int .i64 (-77)] 3 (0, 0)) := by rw [hw1]; exact heap_alloc_new wr _
      have hs1 : w1.heap.size = wr.heap.size + 1 := by rw [hw1]; simp
      have HB1 := hid0 hb1
      have HR1 := hid0 hr1
      have HS1 := hid0 hs1
      have hfold := hw1.symm
      clear hw1 hb1 hr1 hs1
      go_wp2_with (at_builtin; go_loud ((
        refine wpList_append_own_at _ rfl _ _ 32 rfl w.heap.size 33 i0 (.slice none 0 0) 1 24 Try.underlying32 hi hz0 hz1 hz2 rfl (by decide) _ L.length (ps.map (·.1)) rfl (World.ownsRow.alloc (row_later HOO.out HB1.out) _) ⟨w1.heap.size, 0, none⟩ 1 1 [.slice (some ⟨wr.heap.size, 0, none⟩) 1 1] rfl rfl (cell_one_new _ _ _) (by simp [Value.oneCell']) (by unfold maxLen; omega) (by omega) (by have := HS1.out; simp; omega) ?_
        intro v2 w2 hown2 hgrow2 _ hat2
        obtain ⟨g, c, rfl⟩ := Go.Joins.ownsRow_form hown2 (by omega)
        have ht := Pile.tail (w := w) HK.out.symm HP.out (Below.later HB1.out ((Below.refl _ w1).alloc (Nat.le_refl _) _)) hbs hown2 hgrow2 (hat2.imp (fun h => h) (fun h => by have e := Option.some.inj (show some g = _ from h); have := HS1.out; simp at e; omega)) HB.out
        have hcap := ht.2.1
        have HT := hid0 ht
        have HMk : Hid (w2.cell? ⟨wr.heap.size, 0, none⟩ = some (.int .i64 (-77))) := hid0 (by {
          have hc1 : (w1.alloc (.cells #[.slice (some ⟨wr.heap.size, 0, none⟩) 1 1] 33)).cell? ⟨wr.heap.size, 0, none⟩ = some (.int .i64 (-77)) := cell_alloc (by rw [cell_of_row _ _ _ _ _ _ HR1.out]; rfl) _
          exact hgrow2.cell hc1 (fun e => by have := (World.ownsRow.lt HOO.out wr.heap.size e.symm).2; omega) })
        clear hown2 hgrow2 hat2 ht)))
      go_ret
      exact ⟨g, c, rfl, wr.heap.size, ps, HT.out.1, HE.out, HT.out.2.1, HT.out.2.2.1, HMk.out, HT.out.2.2.2, HB.out.size⟩
set_option maxRecDepth 10000 in
set_option maxHeartbeats 1600000 in
theorem rowsLeft_any (ps : Lot) (base g c gm : Nat) (w : World) (hl : ps.length ≤ 1000000000) (hr : ∀ x ∈ ps, x.2.length ≤ 1000000000) (hP : Pile w base (.slice (some ⟨g, 0, none⟩) ps.length c) ps) (hc : ps.length + 1 ≤ c) (h1 : w.cell? ⟨g, ps.length, none⟩ = some (.slice (some ⟨gm, 0, none⟩) 1 1)) (h2 : w.cell? ⟨gm, 0, none⟩ = some (.int .i64 (-77))) :
    Calls Try.prog 9 #[.slice (some ⟨g, 0, none⟩) ps.length c] w fun r w' => r = .returned (.bool true) ∧ ∃ n, w' = w.drewN n := by
  obtain ⟨a', c', ev, _, hcell⟩ := hP.cells
  simp only [Value.slice.injEq, true_and] at ev
  obtain ⟨rfl, rfl⟩ := ev
  have HC := hid0 hcell
  have HP := hid0 hP
  have HR := hid0 hr
  clear hcell hP hr
  go_enter Try.func9, Try.ntmps9
  go_wp2
  go_loopw [4] (fun i wr => ∃ k : Nat, k ≤ ps.length ∧ i = .int .i64 (k : Int) ∧ ∃ n, wr = w.drewN n) (fun i _ => ps.length - (intOf i).toNat)
  case atStart => exact ⟨0, Nat.zero_le _, rfl, 0, rfl⟩
  case round =>
    obtain ⟨k, hk, rfl, nd, rfl⟩ := hrel
    by_cases hlt : k < ps.length
    · obtain ⟨b1, e1, _, _, d1⟩ := HC.out k hlt
      cases e1
      obtain ⟨g1, c1, e1, hlw⟩ := HP.out.row _ (List.getElem_mem hlt)
      have hrl := HR.out _ (List.getElem_mem hlt)
      rw [e1] at d1
      have HLL := hid0 (listLeft_any (ps[k]).2 base g1 c1 (w.drewN nd) hrl hlw)
      clear e1 hlw
      generalize (ps[k]).2 = s at *
      have hkI : (k : Int) < (ps.length : Int) := by omega
      have hkI0 : (0 : Int) ≤ (k : Int) := by omega
      go_wp2_with (go_at_call 19; refine HLL.out.mono ?_; rintro e w1 ⟨rfl, hw1⟩; obtain ⟨q1, rfl⟩ := drew_add hw1; clear hw1)
      go_roundw
      case rel => exact ⟨k + 1, by omega, by go_num, _, rfl⟩
      case measure => simp [intOf]; omega
    · have hkI : ¬ (k : Int) < (ps.length : Int) := by omega
      go_wp2
      go_ret
      exact ⟨rfl, nd, rfl⟩
end Go.Proofs.Ythcpalpcakjfnaa
