/-
  The walk of caesuralaw3.handed.
-/
import Derived.Test.YtnkllhihdjjmnaaDoorPileM
namespace Go.Proofs.YtnkllhihdjjmnaaDoor
open Go.RowKit
set_option maxRecDepth 10000 in
set_option maxHeartbeats 800000 in
theorem handed_any (A : Nat → Addr) (a b : Option Addr) (ca cb : Nat) (la lb : List (Int × Int)) (h1 : la.length ≤ 1048580) (h2 : lb.length ≤ 1048580) (w : World) (ha : RA w a la) (hb : RA w b lb) (hS : Sents w A) :
    Calls Tryd.prog 26 #[.slice a la.length ca, .slice b lb.length cb] w fun e w' => ∃ v ps, e = .returned v ∧ Pile w' w.heap.size v ps ∧ Five la lb (ps.map (·.2)) ∧ Below w.heap.size w w' := by
  obtain ⟨j0, ji, jz0, jz1, jz2⟩ := info_parts infoRanges
  have HX := hidE (fun W (hW : Below w.heap.size w W) => (⟨ha.later hW, hb.later hW, cellE_later (A0 := A 0) hS.c0 hW⟩ : RA W a la ∧ RA W b lb ∧ W.cell? ⟨0, 0, none⟩ = some (errArg (A 0))))
  have HP0 : Hid (Pile w w.heap.size (.slice none 0 0) []) := Pile.nil _ _
  have HB0 : Hid (Below w.heap.size w w) := Below.refl _ _
  clear ha hb hS
  have M1 : Hid True := trivial
  have M2 : Hid True := trivial
  have M3 : Hid True := trivial
  have M4 : Hid True := trivial
  have M5 : Hid True := trivial
  go_enter Tryd.func26, Tryd.ntmps26
  go_wp2_with (first
    | (go_at_call 11; refine (normal_any la (by omega) a ca (A 0) _ (HX.out _ HB0.out).1 (HX.out _ HB0.out).2.2).mono ?_; rintro e w1 ⟨x1, l1, rfl, ho, q1, q2, q3, hk⟩; obtain ⟨a1, c1, rfl, jk⟩ := ho.ra; clear jk; have HO1 := hidE ho; have HQ1 := hidE (IsF.mk q1 q2 q3); have HK1 := hidE hk; have hs1 := hk.size; clear ho q1 q2 q3 hk)
    | (at_builtin; clear M1; refine wpList_append_own_at _ rfl _ _ 45 rfl w.heap.size 22 j0 (.slice none 0 0) 1 24 Tryd.underlying45 ji jz0 jz1 jz2 rfl (by decide) (.slice none 0 0) 0 [] rfl (World.ownsRow.alloc (row_later HP0.out.outer HK1.out) _) ⟨w1.heap.size, 0, none⟩ 1 1 [.slice a1 l1.length c1] rfl rfl (cell_one_new _ _ _) (by simp [Value.oneCell']) (by unfold maxLen; omega) (by omega) (by simp; omega) ?_; intro v1 W1 hown' hgrow hjk hat; clear hjk; have R := Pile.snoc (w := w) rfl HP0.out HK1.out HO1.out (by omega) hown' hgrow hat HB0.out; have HP1 : Hid (Pile W1 w.heap.size v1 [(.slice a1 l1.length c1, l1)]) := R.1; have HB1 := hidE R.2; have hS1 := R.2.size; clear R hown' hgrow hat)
    | (go_at_call 12; refine (union_any la lb (by omega) (by omega) a b ca cb (A 0) _ (HX.out _ HB1.out).1 (HX.out _ HB1.out).2.1 (HX.out _ HB1.out).2.2).mono ?_; rintro e w2 ⟨x2, l2, rfl, ho, q1, q2, q3, hk⟩; obtain ⟨a2, c2, rfl, jk⟩ := ho.ra; clear jk; have HO2 := hidE ho; have HQ2 := hidE (IsF.mk q1 q2 q3); have HK2 := hidE hk; have hs2 := hk.size; clear ho q1 q2 q3 hk)
    | (at_builtin; clear M2; refine wpList_append_own_at _ rfl _ _ 45 rfl w.heap.size 22 j0 (.slice none 0 0) 1 24 Tryd.underlying45 ji jz0 jz1 jz2 rfl (by decide) v1 1 [.slice a1 l1.length c1] rfl (World.ownsRow.alloc (row_later HP1.out.outer HK2.out) _) ⟨w2.heap.size, 0, none⟩ 1 1 [.slice a2 l2.length c2] rfl rfl (cell_one_new _ _ _) (by simp [Value.oneCell']) (by unfold maxLen; omega) (by omega) (by simp; omega) ?_; intro v2 W2 hown' hgrow hjk hat; clear hjk; have R := Pile.snoc (w := w) rfl HP1.out HK2.out HO2.out (by omega) hown' hgrow hat HB1.out; have HP2 : Hid (Pile W2 w.heap.size v2 [(.slice a1 l1.length c1, l1), (.slice a2 l2.length c2, l2)]) := R.1; have HB2 := hidE R.2; have hS2 := R.2.size; clear R hown' hgrow hat)
    | (go_at_call 13; refine (inter_any la lb (by omega) (by omega) a b ca cb (A 0) _ (HX.out _ HB2.out).1 (HX.out _ HB2.out).2.1 (HX.out _ HB2.out).2.2).mono ?_; rintro e w3 ⟨x3, l3, rfl, ho, q1, q2, q3, hk⟩; obtain ⟨a3, c3, rfl, jk⟩ := ho.ra; clear jk; have HO3 := hidE ho; have HQ3 := hidE (IsF.mk q1 q2 q3); have HK3 := hidE hk; have hs3 := hk.size; clear ho q1 q2 q3 hk)
    | (at_builtin; clear M3; refine wpList_append_own_at _ rfl _ _ 45 rfl w.heap.size 22 j0 (.slice none 0 0) 1 24 Tryd.underlying45 ji jz0 jz1 jz2 rfl (by decide) v2 2 [.slice a1 l1.length c1, .slice a2 l2.length c2] rfl (World.ownsRow.alloc (row_later HP2.out.outer HK3.out) _) ⟨w3.heap.size, 0, none⟩ 1 1 [.slice a3 l3.length c3] rfl rfl (cell_one_new _ _ _) (by simp [Value.oneCell']) (by unfold maxLen; omega) (by omega) (by simp; omega) ?_; intro v3 W3 hown' hgrow hjk hat; clear hjk; have R := Pile.snoc (w := w) rfl HP2.out HK3.out HO3.out (by omega) hown' hgrow hat HB2.out; have HP3 : Hid (Pile W3 w.heap.size v3 [(.slice a1 l1.length c1, l1), (.slice a2 l2.length c2, l2), (.slice a3 l3.length c3, l3)]) := R.1; have HB3 := hidE R.2; have hS3 := R.2.size; clear R hown' hgrow hat)
    | (go_at_call 15; refine (minus_any la lb (by omega) (by omega) a b ca cb (A 0) _ (HX.out _ HB3.out).1 (HX.out _ HB3.out).2.1 (HX.out _ HB3.out).2.2).mono ?_; rintro e w4 ⟨x4, l4, rfl, ho, q1, q2, q3, hk⟩; obtain ⟨a4, c4, rfl, jk⟩ := ho.ra; clear jk; have HO4 := hidE ho; have HQ4 := hidE (IsF.mk q1 q2 q3); have HK4 := hidE hk; have hs4 := hk.size; clear ho q1 q2 q3 hk)
    | (at_builtin; clear M4; refine wpList_append_own_at _ rfl _ _ 45 rfl w.heap.size 22 j0 (.slice none 0 0) 1 24 Tryd.underlying45 ji jz0 jz1 jz2 rfl (by decide) v3 3 [.slice a1 l1.length c1, .slice a2 l2.length c2, .slice a3 l3.length c3] rfl (World.ownsRow.alloc (row_later HP3.out.outer HK4.out) _) ⟨w4.heap.size, 0, none⟩ 1 1 [.slice a4 l4.length c4] rfl rfl (cell_one_new _ _ _) (by simp [Value.oneCell']) (by unfold maxLen; omega) (by omega) (by simp; omega) ?_; intro v4 W4 hown' hgrow hjk hat; clear hjk; have R := Pile.snoc (w := w) rfl HP3.out HK4.out HO4.out (by omega) hown' hgrow hat HB3.out; have HP4 : Hid (Pile W4 w.heap.size v4 [(.slice a1 l1.length c1, l1), (.slice a2 l2.length c2, l2), (.slice a3 l3.length c3, l3), (.slice a4 l4.length c4, l4)]) := R.1; have HB4 := hidE R.2; have hS4 := R.2.size; clear R hown' hgrow hat)
    | (go_at_call 14; refine (not_any la (by omega) a ca (A 0) _ (HX.out _ HB4.out).1 (HX.out _ HB4.out).2.2).mono ?_; rintro e w5 ⟨x5, l5, rfl, ho, q1, q2, q3, hk⟩; obtain ⟨a5, c5, rfl, jk⟩ := ho.ra; clear jk; have HO5 := hidE ho; have HQ5 := hidE (IsF.mk q1 q2 q3); have HK5 := hidE hk; have hs5 := hk.size; clear ho q1 q2 q3 hk)
    | (at_builtin; clear M5; refine wpList_append_own_at _ rfl _ _ 45 rfl w.heap.size 22 j0 (.slice none 0 0) 1 24 Tryd.underlying45 ji jz0 jz1 jz2 rfl (by decide) v4 4 [.slice a1 l1.length c1, .slice a2 l2.length c2, .slice a3 l3.length c3, .slice a4 l4.length c4] rfl (World.ownsRow.alloc (row_later HP4.out.outer HK5.out) _) ⟨w5.heap.size, 0, none⟩ 1 1 [.slice a5 l5.length c5] rfl rfl (cell_one_new _ _ _) (by simp [Value.oneCell']) (by unfold maxLen; omega) (by omega) (by simp; omega) ?_; intro v5 W5 hown' hgrow hjk hat; clear hjk; have R := Pile.snoc (w := w) rfl HP4.out HK5.out HO5.out (by omega) hown' hgrow hat HB4.out; have HP5 : Hid (Pile W5 w.heap.size v5 [(.slice a1 l1.length c1, l1), (.slice a2 l2.length c2, l2), (.slice a3 l3.length c3, l3), (.slice a4 l4.length c4, l4), (.slice a5 l5.length c5, l5)]) := R.1; have HB5 := hidE R.2; have hS5 := R.2.size; clear R hown' hgrow hat)
    | fail)
  go_returns
  exact ⟨_, _, rfl, HP5.out, ⟨HQ1.out, HQ2.out, HQ3.out, HQ4.out, HQ5.out⟩, HB5.out⟩
end Go.Proofs.YtnkllhihdjjmnaaDoor
