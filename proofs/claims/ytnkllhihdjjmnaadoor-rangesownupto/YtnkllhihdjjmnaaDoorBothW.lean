/-
  The walk of caesuraref3.both.
-/
import Derived.Test.YtnkllhihdjjmnaaDoorRNotW
namespace Go.Proofs.YtnkllhihdjjmnaaDoor
open Go.RowKit
theorem own_some {w : World} {base n : Nat} {v : Value} {l : List (Int × Int)} (h : OwnR w base v l) (hn : l.length = n) (hp : 0 < n) : ∃ g cap, v = .slice (some ⟨g, 0, none⟩) n cap ∧ base ≤ g ∧ n ≤ cap := by
  rcases h.2 with ⟨_, h0⟩ | ⟨g, cap, cur, hv, hg, _, hle, _⟩
  · omega
  · exact ⟨g, cap, by rw [hv, hn], hg, by omega⟩
set_option maxRecDepth 10000 in
set_option maxHeartbeats 400000 in
theorem refBoth_any (la lb : List (Int × Int)) (a1 a2 : Option Addr) (c1 c2 : Nat) (hl1 : la.length ≤ 20000000) (hl2 : lb.length ≤ 20000000) (hc1 : a1 = none → c1 = 0) (hc2 : a2 = none → c2 = 0) (w : World) (hr1 : RA w a1 la) (hr2 : RA w a2 lb) :
    Calls Tryd.prog 48 #[.slice a1 la.length c1, .slice a2 lb.length c2] w fun e w' => ∃ v, e = .returned v ∧ OwnR w' w.heap.size v (la ++ lb) ∧ Below w.heap.size w w' := by
  obtain ⟨i0, hi, hz0, hz1, hz2⟩ := info_parts infoRange
  have M1 : Hid True := trivial
  by_cases hA0 : la = []
  · subst hA0
    rw [List.length_nil, List.nil_append]
    clear hr1 hl1
    by_cases hB0 : lb = []
    · subst hB0
      rw [List.length_nil]
      clear hr2 hl2
      rcases a1 with _ | ad1 <;> rcases a2 with _ | ad2
      all_goals
        first | (obtain rfl := hc1 rfl) | skip
        first | (obtain rfl := hc2 rfl) | skip
        clear hc1 hc2
        go_enter Tryd.func48, Tryd.ntmps48
        go_wp2
        go_ret
        exact ⟨_, rfl, OwnR.nil _ _, Below.refl _ _⟩
    · have hp : 0 < lb.length := List.length_pos_iff.2 hB0
      obtain ⟨b, off, rfl, q0, q1⟩ := hr2.at' 0 hp
      clear q0 q1
      have HA := hidE hr2.news
      have HL := hidE (cellsR_length lb)
      have H1 := hidE (cellsR_one lb)
      clear hr2 hB0 hc2
      generalize hn : lb.length = n at HL hl2 hp ⊢
      have HN := hidE hn
      clear hn
      rcases a1 with _ | ad1
      all_goals
        first | (obtain rfl := hc1 rfl) | skip
        clear hc1
        go_enter Tryd.func48, Tryd.ntmps48
        go_wp2_with (at_builtin; refine wpList_append_own _ rfl _ _ 22 rfl w.heap.size 35 i0 (.agg #[.int .i64 0, .int .i64 0]) 2 16 Tryd.underlying22 hi hz0 hz1 hz2 rfl (by decide) _ 0 [] rfl (World.ownsRow_nil _ _ _ _) ⟨b, off, none⟩ n c2 (cellsR lb) rfl HL.out HA.out H1.out (by unfold maxLen; omega) (by omega) (Nat.le_refl _) ?_; intro v1 w1 hown' hgrow _; have HO1 : Hid (OwnR w1 w.heap.size v1 lb) := (ownR_more (l := []) (m := lb) rfl HN.out.symm hown'); have HB1 : Hid (Below w.heap.size w w1) := ((Below.refl _ w).grown hgrow (Nat.le_refl _) (fun k hk => by cases hk)); clear hown' hgrow)
        go_ret
        exact ⟨_, rfl, HO1.out, HB1.out⟩
  · have hp : 0 < la.length := List.length_pos_iff.2 hA0
    obtain ⟨b, off, rfl, q0, q1⟩ := hr1.at' 0 hp
    clear q0 q1
    have HA := hidE hr1.news
    have HL := hidE (cellsR_length la)
    have H1 := hidE (cellsR_one la)
    clear hr1 hA0 hc1
    generalize hn : la.length = n at HL hl1 hp ⊢
    have HN := hidE hn
    clear hn
    by_cases hB0 : lb = []
    · subst hB0
      rw [List.length_nil, List.append_nil]
      clear hr2 hl2
      rcases a2 with _ | ad2
      all_goals
        first | (obtain rfl := hc2 rfl) | skip
        clear hc2
        go_enter Tryd.func48, Tryd.ntmps48
        go_wp2_with (at_builtin; clear M1; refine wpList_append_own _ rfl _ _ 22 rfl w.heap.size 35 i0 (.agg #[.int .i64 0, .int .i64 0]) 2 16 Tryd.underlying22 hi hz0 hz1 hz2 rfl (by decide) _ 0 [] rfl (World.ownsRow_nil _ _ _ _) ⟨b, off, none⟩ n c1 (cellsR la) rfl HL.out HA.out H1.out (by unfold maxLen; omega) (by omega) (Nat.le_refl _) ?_; intro v1 w1 hown' hgrow _; have HO1 : Hid (OwnR w1 w.heap.size v1 la) := (ownR_more (l := []) (m := la) rfl HN.out.symm hown'); have HB1 : Hid (Below w.heap.size w w1) := ((Below.refl _ w).grown hgrow (Nat.le_refl _) (fun k hk => by cases hk)); have hs1 := HB1.out.size; clear hown' hgrow; obtain ⟨g1, k1, rfl, hg1, hk1⟩ := own_some HO1.out HN.out hp; have HO2 := HO1)
        go_ret
        exact ⟨_, rfl, HO2.out, HB1.out⟩
    · have hp2 : 0 < lb.length := List.length_pos_iff.2 hB0
      obtain ⟨b2, off2, rfl, q0, q1⟩ := hr2.at' 0 hp2
      clear q0 q1
      have HR2 := hidE hr2
      have HL2 := hidE (cellsR_length lb)
      have H2 := hidE (cellsR_one lb)
      clear hr2 hB0 hc2
      generalize hn2 : lb.length = n2 at HL2 hl2 hp2 ⊢
      have HN2 := hidE hn2
      clear hn2
      go_enter Tryd.func48, Tryd.ntmps48
      go_wp2_with (first
        | (at_builtin; clear M1; refine wpList_append_own _ rfl _ _ 22 rfl w.heap.size 35 i0 (.agg #[.int .i64 0, .int .i64 0]) 2 16 Tryd.underlying22 hi hz0 hz1 hz2 rfl (by decide) _ 0 [] rfl (World.ownsRow_nil _ _ _ _) ⟨b, off, none⟩ n c1 (cellsR la) rfl HL.out HA.out H1.out (by unfold maxLen; omega) (by omega) (Nat.le_refl _) ?_; intro v1 w1 hown' hgrow _; have HO1 : Hid (OwnR w1 w.heap.size v1 la) := (ownR_more (l := []) (m := la) rfl HN.out.symm hown'); have HB1 : Hid (Below w.heap.size w w1) := ((Below.refl _ w).grown hgrow (Nat.le_refl _) (fun k hk => by cases hk)); have hs1 := HB1.out.size; clear hown' hgrow; have HO3 : Hid (w1.ownsRow w.heap.size 35 2 v1 n (cellsR la)) := (by have := HO1.out; unfold OwnR at this; rw [HN.out] at this; exact this); have HA2 := hidE (HR2.out.later HB1.out).news)
        | (at_builtin; refine wpList_append_own _ rfl _ _ 22 rfl w.heap.size 35 i0 (.agg #[.int .i64 0, .int .i64 0]) 2 16 Tryd.underlying22 hi hz0 hz1 hz2 rfl (by decide) v1 n (cellsR la) rfl HO3.out ⟨b2, off2, none⟩ n2 c2 (cellsR lb) rfl HL2.out HA2.out H2.out (by unfold maxLen; omega) (by omega) hs1 ?_; intro v2 w2 hown' hgrow _; have HO2 : Hid (OwnR w2 w.heap.size v2 (la ++ lb)) := (ownR_more (l := la) (m := lb) HN.out.symm HN2.out.symm hown'); have HB2 : Hid (Below w.heap.size w w2) := (HB1.out.grown hgrow hs1 (fun k hk => (World.ownsRow.lt HO1.out k hk).1)); clear hown' hgrow)
        | fail)
      go_ret
      exact ⟨_, rfl, HO2.out, HB2.out⟩
end Go.Proofs.YtnkllhihdjjmnaaDoor
