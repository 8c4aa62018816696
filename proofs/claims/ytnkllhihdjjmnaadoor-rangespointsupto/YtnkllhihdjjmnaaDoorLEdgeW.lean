/-
  The walk of caesuralaw3.edges.
-/
import Derived.Test.YtnkllhihdjjmnaaDoorCntsW
import Derived.Test.YtnkllhihdjjmnaaDoorEdgeLW
import Derived.Laws.OwnMore
import Derived.Deep.AppendLies
import Derived.Deep.RegionHeldLaw
namespace Go.Proofs.YtnkllhihdjjmnaaDoor
open Go.RowKit
/-- Numbers in memory. -/
structure PA (w : World) (a : Option Addr) (ps : List Int) : Prop where
  at' : ∀ k (h : k < ps.length), ∃ b off, a = some ⟨b, off, none⟩ ∧ w.cell? ⟨b, off + k, none⟩ = some (.int .i64 ps[k])
theorem PA.later {w w' : World} {a : Option Addr} {ps : List Int} (h : PA w a ps) (hb : Below w.heap.size w w') : PA w' a ps := ⟨fun k hk => by
  obtain ⟨b, off, rfl, hc⟩ := h.at' k hk
  exact ⟨b, off, rfl, (hb.cell (p := ⟨b, off + k, none⟩) (World.block_lt_of_cell? w _ hc)).trans hc⟩⟩
def OwnI (w : World) (base : Nat) (v : Value) (ps : List Int) : Prop := w.ownsRow base 3 1 v ps.length (ps.map (Value.int .i64))
theorem infoInt : (Tryd.prog.info? 3).map (fun i => (i.zero, i.size, i.bytes)) = some (some (.int .i64 0), 1, 8) := by kernel_rfl
theorem OwnI.pa {w : World} {base : Nat} {v : Value} {ps : List Int} (h : OwnI w base v ps) : ∃ a cap, v = .slice a ps.length cap ∧ PA w a ps := by
  have h0 := h
  rcases h.2 with ⟨rfl, hn⟩ | ⟨g, cap, cur, rfl, _⟩
  · have : ps = [] := List.length_eq_zero_iff.1 hn
    subst this
    exact ⟨none, 0, rfl, ⟨fun k h => absurd h (Nat.not_lt_zero _)⟩⟩
  · refine ⟨_, cap, rfl, ⟨fun k hk => ⟨g, 0, rfl, ?_⟩⟩⟩
    rw [Nat.zero_add, World.ownsRow.cellAt h0 k (by omega)]
    simp [hk]
theorem grown_cell {wr w3 : World} {o : Obj} {row : Option Nat} {a : Addr} {v : Value} (hg : ((wr.alloc o).drew).grownBy w3 row) (h : wr.cell? a = some v) (hne : some a.block ≠ row) : w3.cell? a = some v := by
  refine hg.cell ?_ hne
  show (wr.alloc o).cell? a = some v
  exact (((Below.refl _ wr).alloc (Nat.le_refl _) o).cell (World.block_lt_of_cell? wr _ h)).trans h
set_option maxRecDepth 10000 in
set_option maxHeartbeats 1600000 in
theorem edgesLaw_any (A0 : Addr) (a b : Option Addr) (ca cb : Nat) (la lb : List (Int × Int)) (p : Int) (w : World) (h : TwoAt w A0 a b la lb) :
    Calls Tryd.prog 18 #[.agg #[.slice a la.length ca, .slice b lb.length cb, .int .i64 p]] w fun e w' => ∃ v ps, e = .returned v ∧ OwnI w' w.heap.size v ps ∧ ps.length ≤ 100000000 ∧ Below w.heap.size w w' := by
  have HT := hidE (h.box ca cb p 24)
  have h1 := h.la
  have h2 := h.lb
  obtain ⟨i0, hi, hz0, hz1, hz2⟩ := info_parts infoInt
  have HH := hidE h
  clear h
  go_enter Tryd.func18, Tryd.ntmps18
  go_wp2
  have HO0 : OwnI ((w.alloc (.cells #[.slice a la.length ca, .slice b lb.length cb, .int .i64 p] 24)).alloc (.cells #[.int .i64 0, .int .i64 1114111, .int .i64 p] 3)) (w.heap.size + 1) (.slice (some ⟨w.heap.size + 1, 0, none⟩) 3 3) [0, 1114111, p] := by
    have := World.ownsRow_lit (base := w.heap.size + 1) (e := 3) (size := 1) (w.alloc (.cells #[.slice a la.length ca, .slice b lb.length cb, .int .i64 p] 24)) #[.int .i64 0, .int .i64 1114111, .int .i64 p] 3 (by simp) (by unfold maxLen; omega) rfl
    simpa [OwnI] using this
  have HO0 := hidE HO0
  generalize hW0 : w.alloc (.cells #[.slice a la.length ca, .slice b lb.length cb, .int .i64 p] 24) = W0 at HT HO0 ⊢
  have hz : W0.heap.size = w.heap.size + 1 := by rw [← hW0]; simp
  have HTW : Hid (∀ wr, Below (w.heap.size + 1) W0 wr → TwoIn w A0 a b ca cb la lb p wr) := fun wr hb => HT.out.later (by rw [hz]; exact hb)
  clear HT hW0
  go_loopw [3, 4] (fun v i wr => ∃ (k : Nat) (ps : List Int), k ≤ la.length ∧ i = .int .i64 (k : Int) ∧ ps.length = 3 + 4 * k ∧ OwnI wr (w.heap.size + 1) v ps ∧ Below (w.heap.size + 1) W0 wr) (fun _ i _ => la.length - (intOf i).toNat)
  case atStart => exact ⟨0, _, Nat.zero_le _, rfl, rfl, HO0.out, (Below.refl _ W0).alloc (by omega) _⟩
  case round =>
    obtain ⟨k, ps, hk, rfl, hps, hown, hB⟩ := hrel
    have HW := hidE (HTW.out wr hB)
    have c0 := HW.out.c0
    have HO := hidE hown
    have hs := hB.size
    clear hown
    by_cases hlt : k < la.length
    · obtain ⟨b1, o1, rfl, d0, d1⟩ := HW.out.two.ra.at' k hlt
      have hbl : b1 < w.heap.size := by
        obtain ⟨b', o', he, x0, _⟩ := HH.out.ra.at' k hlt
        cases he
        exact World.block_lt_of_cell? w _ x0
      have hO2 : wr.ownsRow (w.heap.size + 1) 3 1 u3 ps.length (ps.map (Value.int .i64)) := HO.out
      rw [hps] at hO2
      have HOO := hidE hO2
      generalize la[k] = r at *
      obtain ⟨lo, hi'⟩ := r
      simp only at d0 d1
      have HPS := hidE hps
      have hbl2 : b1 < w.heap.size + 1 := by omega
      have HRW : Hid (∀ B, B < w.heap.size + 1 → some B ≠ u3.ownBlock) := fun B hB e => by
        have := (World.ownsRow.lt HO.out B e.symm).1
        omega
      clear hO2 HO0 hps
      go_wp2
      go_region_held_law (fun w' => w'.cell? ⟨w.heap.size, 0, none⟩ = some (.slice (some ⟨b1, o1, none⟩) la.length ca) ∧ w'.cell? ⟨b1, o1 + k * 2, none⟩ = some (.int .i64 lo) ∧ w'.cell? ⟨b1, o1 + k * 2 + 1, none⟩ = some (.int .i64 hi')) (first | go_keep | exact HS3.out)
        ((refine step_append_lies _ (by rfl) _ _ _ (by rfl) (w.heap.size + 1) 3 i0 (.int .i64 0) 1 8 Tryd.underlying38 hi hz0 hz1 hz2 rfl (by decide) u3 (3 + 4 * k) (ps.map (Value.int .i64)) (by rfl) (World.ownsRow.alloc (w := wr.drew) HOO.out _) ⟨wr.heap.size, 0, none⟩ 4 4 [.int .i64 (IntKind.i64.wrap (lo - 1)), .int .i64 lo, .int .i64 hi', .int .i64 (IntKind.i64.wrap (hi' + 1))] (by rfl) (by rfl) (World.news_of_block (cs := #[.int .i64 (IntKind.i64.wrap (lo - 1)), .int .i64 lo, .int .i64 hi', .int .i64 (IntKind.i64.wrap (hi' + 1))]) (t := 3) (fr := (0, 0)) (heap_alloc_new wr.drew _)) (by simp [Value.oneCell']) (by omega) (by unfold maxLen; omega) (by omega) (by simp; omega) (wr.heap.size + 1) (by simp) ?_; intro g3 cap3 w3 hown3 hgrow3 hat3 hlt3; have HS3 := hidE (And.intro (grown_cell hgrow3 c0 (HRW.out w.heap.size (Nat.lt_succ_self _))) (And.intro (grown_cell hgrow3 d0 (HRW.out b1 hbl2)) (grown_cell hgrow3 d1 (HRW.out b1 hbl2)))); have HO3 := hidE hown3; have HG3 := hidE hgrow3; clear hown3 hgrow3 hat3))
      have HN3 : Hid (OwnI w3 (w.heap.size + 1) (.slice (some ⟨g3, 0, none⟩) (3 + 4 * k + 4) cap3) (ps ++ [IntKind.i64.wrap (lo - 1), lo, hi', IntKind.i64.wrap (hi' + 1)])) := by
        show OwnI _ _ _ _
        unfold OwnI
        rw [List.length_append, HPS.out, List.map_append]
        exact HO3.out
      have HB3 : Hid (Below (w.heap.size + 1) W0 w3) := ((hB.alloc (by omega) _).drew).grown HG3.out (by simp; omega) (fun k hk => (World.ownsRow.lt HO.out k hk).1)
      clear HO3 HG3
      go_wp2
      go_roundw
      case rel => exact ⟨k + 1, _, by omega, by go_num, by rw [List.length_append, HPS.out]; simp; omega, HN3.out, HB3.out⟩
      case measure => simp [intOf]; omega
    · have hki : ¬ (k : Int) < (la.length : Int) := by omega
      have hps2 : ps.length ≤ 4194307 := by omega
      go_wp2
      have HO1 := HO
      have hB1 := hB
      generalize hm : ps.length = m at hps2
      go_loopw [3, 5] (fun v i wr => ∃ (k : Nat) (ps : List Int), k ≤ lb.length ∧ i = .int .i64 (k : Int) ∧ ps.length = m + 4 * k ∧ OwnI wr (w.heap.size + 1) v ps ∧ Below (w.heap.size + 1) W0 wr) (fun _ i _ => lb.length - (intOf i).toNat)
      case atStart => exact ⟨0, _, Nat.zero_le _, rfl, hm, HO1.out, hB1⟩
      case round =>
        clear HO HW c0 hB hs HO1 hB1 hps hm hlt hki hk
        obtain ⟨k, ps, hk, rfl, hps, hown, hB⟩ := hrel
        have HW := hidE (HTW.out wr hB)
        have c1 := HW.out.c1
        have HO := hidE hown
        have hs := hB.size
        clear hown
        by_cases hlt : k < lb.length
        · obtain ⟨b1, o1, rfl, d0, d1⟩ := HW.out.two.rb.at' k hlt
          have hbl : b1 < w.heap.size := by
            obtain ⟨b', o', he, x0, _⟩ := HH.out.rb.at' k hlt
            cases he
            exact World.block_lt_of_cell? w _ x0
          have hO2 : wr.ownsRow (w.heap.size + 1) 3 1 u3 ps.length (ps.map (Value.int .i64)) := HO.out
          rw [hps] at hO2
          have HOO := hidE hO2
          generalize lb[k] = r at *
          obtain ⟨lo, hi'⟩ := r
          simp only at d0 d1
          have HPS := hidE hps
          have hbl2 : b1 < w.heap.size + 1 := by omega
          have HRW : Hid (∀ B, B < w.heap.size + 1 → some B ≠ u3.ownBlock) := fun B hB e => by
            have := (World.ownsRow.lt HO.out B e.symm).1
            omega
          clear hO2 HO0 hps
          go_wp2
          go_region_held_law (fun w' => w'.cell? ⟨w.heap.size, 1, none⟩ = some (.slice (some ⟨b1, o1, none⟩) lb.length cb) ∧ w'.cell? ⟨b1, o1 + k * 2, none⟩ = some (.int .i64 lo) ∧ w'.cell? ⟨b1, o1 + k * 2 + 1, none⟩ = some (.int .i64 hi')) (first | go_keep | exact HS3.out)
            ((refine step_append_lies _ (by rfl) _ _ _ (by rfl) (w.heap.size + 1) 3 i0 (.int .i64 0) 1 8 Tryd.underlying38 hi hz0 hz1 hz2 rfl (by decide) u3 (m + 4 * k) (ps.map (Value.int .i64)) (by rfl) (World.ownsRow.alloc (w := wr.drew) HOO.out _) ⟨wr.heap.size, 0, none⟩ 4 4 [.int .i64 (IntKind.i64.wrap (lo - 1)), .int .i64 lo, .int .i64 hi', .int .i64 (IntKind.i64.wrap (hi' + 1))] (by rfl) (by rfl) (World.news_of_block (cs := #[.int .i64 (IntKind.i64.wrap (lo - 1)), .int .i64 lo, .int .i64 hi', .int .i64 (IntKind.i64.wrap (hi' + 1))]) (t := 3) (fr := (0, 0)) (heap_alloc_new wr.drew _)) (by simp [Value.oneCell']) (by omega) (by unfold maxLen; omega) (by omega) (by simp; omega) (wr.heap.size + 1) (by simp) ?_; intro g3 cap3 w3 hown3 hgrow3 hat3 hlt3; have HS3 := hidE (And.intro (grown_cell hgrow3 c1 (HRW.out w.heap.size (Nat.lt_succ_self _))) (And.intro (grown_cell hgrow3 d0 (HRW.out b1 hbl2)) (grown_cell hgrow3 d1 (HRW.out b1 hbl2)))); have HO3 := hidE hown3; have HG3 := hidE hgrow3; clear hown3 hgrow3 hat3))
          have HN3 : Hid (OwnI w3 (w.heap.size + 1) (.slice (some ⟨g3, 0, none⟩) (m + 4 * k + 4) cap3) (ps ++ [IntKind.i64.wrap (lo - 1), lo, hi', IntKind.i64.wrap (hi' + 1)])) := by
            show OwnI _ _ _ _
            unfold OwnI
            rw [List.length_append, HPS.out, List.map_append]
            exact HO3.out
          have HB3 : Hid (Below (w.heap.size + 1) W0 w3) := ((hB.alloc (by omega) _).drew).grown HG3.out (by simp; omega) (fun k hk => (World.ownsRow.lt HO.out k hk).1)
          clear HO3 HG3
          go_wp2
          go_roundw
          case rel => exact ⟨k + 1, _, by omega, by go_num, by rw [List.length_append, HPS.out]; simp; omega, HN3.out, HB3.out⟩
          case measure => simp [intOf]; omega
        · have hki : ¬ (k : Int) < (lb.length : Int) := by omega
          go_wp2
          go_ret
          have e : W0.heap.size = w.heap.size + 1 := hz
          exact ⟨_, rfl, ps, ⟨HO.out.1, by rcases HO.out.2 with h | ⟨g, c, cur, hv, hg, r⟩; exact .inl h; exact .inr ⟨g, c, cur, hv, Nat.le_trans (Nat.le_succ _) hg, r⟩⟩, by omega, (HTW.out _ hB).bel⟩
end Go.Proofs.YtnkllhihdjjmnaaDoor
