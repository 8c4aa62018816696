/-
  The walks of caesuralaw12's list, still, rows, stillRows.
-/
import Derived.Test.YtmbpollfgmdinaaDoorMrJM
import Derived.Lib.SmallJoins
namespace Go.Proofs.YtmbpollfgmdinaaDoor
open Go.RowKit Go.Shelf
set_option maxRecDepth 10000 in
set_option maxHeartbeats 800000 in
theorem list_any (L : List Int) (a : Option Addr) (cap : Nat) (w : World) (hl : L.length ≤ 17592186043904) (hn : a = none → cap = 0) (ha : IA w a L) :
    Calls Tryd.prog 5 #[.slice a L.length cap] w fun r w' => ∃ g c, r = .returned (.slice (some ⟨g, 0, none⟩) L.length c) ∧ LK w' w.heap.size g c L ∧ Below w.heap.size w w' := by
  obtain ⟨i0, hi, hz0, hz1, hz2⟩ := info_parts infoInt
  have HA := hid0 ha
  have HN := hid0 hn
  clear ha hn
  go_enter Tryd.func5, Tryd.ntmps5
  go_wp2_with (first
    | (at_builtin; go_loud ((
         refine wpList_append_own _ (by rfl) _ _ 25 (by rfl) w.heap.size 3 i0 (.int .i64 0) 1 8 Tryd.underlying25 hi hz0 hz1 hz2 rfl (by decide) (.slice av L.length cv) L.length (L.map (Value.int .i64)) (by rfl) (World.ownsRow.alloc HO1.out _) ⟨w1.heap.size, 0, none⟩ 1 1 [.int .i64 (-99)] (by rfl) (by rfl) (cell_one_new _ _ _) (by simp [Value.oneCell']) (by unfold maxLen; omega) (by omega) (by simp; omega) ?_
         intro v2 w2 hown2 hgrow2 _
         obtain ⟨g, c, rfl⟩ := Go.Joins.ownsRow_form hown2 (by omega)
         have HL2 : Hid (LK w2 w.heap.size g c L) := hid0 hown2
         have hcap := HL2.out.cap
         have HB2 := hid0 (((HB1.out).alloc (by omega) _).grown hgrow2 (by simp; omega) (fun q hq => (World.ownsRow.lt HO1.out q hq).1))
         clear hown2 hgrow2)))
    | (at_builtin; refine wpList_spreadI rfl _ _ rfl a L cap w.heap.size rfl rfl HN.out HA.out (by omega) (Nat.le_refl _) ?_; intro v1 w1 hown1 hgrow1; have hs1 := hgrow1.size; have HO1 := hid0 hown1; have HB1 := hid0 ((Below.refl w.heap.size w).grown hgrow1 (Nat.le_refl _) (fun k hk => by cases hk)); clear hown1 hgrow1; obtain ⟨av, cv, rfl⟩ : ∃ av cv, v1 = .slice av L.length cv := by { obtain ⟨av, cv, e, _⟩ := HO1.out.ia; exact ⟨av, cv, e⟩ })
    | fail)
  go_ret
  exact ⟨g, c, rfl, HL2.out, HB2.out⟩
set_option maxRecDepth 10000 in
set_option maxHeartbeats 800000 in
theorem still_any (L : List Int) (lo g c : Nat) (b : Option Addr) (cb : Nat) (w : World) (hl : L.length ≤ 17592186043904) (h : LK w lo g c L) (hb : IA w b L) :
    Calls Tryd.prog 12 #[.slice (some ⟨g, 0, none⟩) L.length c, .slice b L.length cb] w fun r w' => r = .returned (.bool true) ∧ ∃ n, w' = w.drewN n := by
  have m1 := h.mark
  have hcap := h.cap
  have HS := hid0 (fun n => sameI L (some ⟨g, 0, none⟩) b c cb (w.drewN n) (by omega) (show IA (w.drewN n) _ _ from ⟨h.ia.at'⟩) (show IA (w.drewN n) _ _ from ⟨hb.at'⟩))
  have m2 : ∀ n, (w.drewN n).cell? ⟨g, L.length, none⟩ = some (.int .i64 (-99)) := fun n => m1
  have HM := hid0 m2
  clear h hb m2
  go_enter Tryd.func12, Tryd.ntmps12
  go_wp2_with (go_at_call 9; refine (HS.out 0).mono ?_; rintro e w1 ⟨rfl, n1, hw1⟩; have m3 := HM.out n1; have hw1' : w1 = w.drewN n1 := hw1; clear hw1; subst hw1')
  go_ret
  exact ⟨rfl, _, rfl⟩
theorem drew_more {w w' : World} {a b : Nat} (h : ∃ m, w' = (w.drewN (a + b)).drewN m) : ∃ n, w' = w.drewN (a + n) := by
  obtain ⟨m, hm⟩ := h
  exact ⟨b + m, by rw [hm, World.drewN_drewN, Nat.add_assoc]⟩
/-- Lists that are handed in: those without memory have no room. -/
structure RwN (w : World) (a : Option Addr) (L : List (List Int)) : Prop where
  at' : ∀ k (h : k < L.length), ∃ b off, a = some ⟨b, off, none⟩ ∧ b < w.heap.size ∧ ∃ a1 c1, w.cell? ⟨b, off + k, none⟩ = some (.slice a1 (L[k]).length c1) ∧ IA w a1 L[k] ∧ (a1 = none → c1 = 0)
theorem RwN.rwa {w : World} {a : Option Addr} {L : List (List Int)} (h : RwN w a L) : RwA w a L := ⟨fun k hk => by
  obtain ⟨b, off, e, h1, a1, c1, h2, h3, _⟩ := h.at' k hk
  exact ⟨b, off, e, h1, a1, c1, h2, h3⟩⟩
theorem RwN.past {w w' : World} {a : Option Addr} {L : List (List Int)} (h : RwN w a L) (hb : Below w.heap.size w w') : RwN w' a L := ⟨fun k hk => by
  obtain ⟨b, off, rfl, h1, a1, c1, h2, h3, h4⟩ := h.at' k hk
  exact ⟨b, off, rfl, Nat.lt_of_lt_of_le h1 hb.size, a1, c1, (hb.cell (p := ⟨b, off + k, none⟩) h1).trans h2, h3.past hb, h4⟩⟩
set_option maxRecDepth 10000 in
set_option maxHeartbeats 800000 in
theorem rows_any (L : List (List Int)) (a : Option Addr) (cap : Nat) (w : World) (hl : L.length ≤ 5864062014634) (hr : ∀ r ∈ L, r.length ≤ 17592186043904) (ha : RwN w a L) :
    Calls Tryd.prog 4 #[.slice a L.length cap] w fun r w' => ∃ v, r = .returned v ∧ ∃ ps, Pile w' w.heap.size v ps ∧ ps.map (·.2) = L ∧ Below w.heap.size w w' := by
  obtain ⟨i0, hi, hz0, hz1, hz2⟩ := info_parts infoInts
  have HA := hid0 ha
  have HR := hid0 hr
  clear ha hr
  go_enter Tryd.func4, Tryd.ntmps4
  go_wp2
  go_loopw [3, 4] (fun v i wr => ∃ (k : Nat) (ps : Lot), k ≤ L.length ∧ i = .int .i64 (k : Int) ∧ Hid (ps.map (·.2) = L.take k) ∧ Hid (ps.length = k) ∧ Hid (Pile wr w.heap.size v ps) ∧ Hid (Below w.heap.size w wr)) (fun _ i _ => L.length - (intOf i).toNat)
  case atStart => exact ⟨0, [], Nat.zero_le _, rfl, hid0 rfl, hid0 rfl, hid0 (Pile.nil _ _), hid0 (Below.refl _ _)⟩
  case round =>
    obtain ⟨k, ps, hk, rfl, HM, HK, HP, HB⟩ := hrel
    have hbs := HB.out.size
    by_cases hlt : k < L.length
    · obtain ⟨b, off, rfl, _, a1, c1, d1, i1, n1⟩ := (HA.out.past HB.out).at' k hlt
      have hkI : (k : Int) < (L.length : Int) := by omega
      have hkI0 : (0 : Int) ≤ (k : Int) := by omega
      have HTK : Hid (L.take (k + 1) = L.take k ++ [L[k]]) := hid0 (by rw [List.take_add_one, List.getElem?_eq_getElem hlt]; rfl)
      have HLI := hid0 (list_any L[k] a1 c1 wr (HR.out _ (List.getElem_mem hlt)) n1 i1)
      clear i1 n1
      generalize L[k] = s at *
      have HOO : Hid (wr.ownsRow w.heap.size 25 1 u3 k (ps.map (·.1))) := hid0 (by have h := HP.out.outer; rw [HK.out] at h; exact h)
      go_wp2_with (first
        | (go_at_call 5; refine HLI.out.mono ?_; rintro e w1 ⟨g, c, rfl, hx, hb1⟩; have hs1 := hb1.size; have HX := hid0 hx; have HB1 := hid0 hb1; clear hx hb1)
        | (at_builtin; go_loud (refine wpList_append_own_at _ rfl _ _ 22 rfl w.heap.size 25 i0 (.slice none 0 0) 1 24 Tryd.underlying22 hi hz0 hz1 hz2 rfl (by decide) _ k (ps.map (·.1)) rfl (World.ownsRow.alloc (row_later HOO.out HB1.out) _) ⟨w1.heap.size, 0, none⟩ 1 1 [.slice (some ⟨g, 0, none⟩) s.length c] rfl rfl (cell_one_new _ _ _) (by simp [Value.oneCell']) (by unfold maxLen; omega) (by omega) (by simp; omega) ?_; intro v2 w2 hown2 hgrow2 _ hat2; have HS := hid0 (Pile.snoc (w := w) HK.out.symm HP.out HB1.out HX.out hbs hown2 hgrow2 hat2 HB.out); clear hown2 hgrow2 hat2))
        | fail)
      have HP2 := hid0 HS.out.1
      have HB2 := hid0 HS.out.2
      have HM2 : Hid ((ps ++ [(Value.slice (some ⟨g, 0, none⟩) s.length c, s)]).map (·.2) = L.take (k + 1)) := hid0 (by rw [List.map_append, HM.out, HTK.out]; rfl)
      have HK2 : Hid ((ps ++ [(Value.slice (some ⟨g, 0, none⟩) s.length c, s)]).length = k + 1) := hid0 (by rw [List.length_append, HK.out]; rfl)
      clear HS HP HB HM HK HOO HTK HX HB1
      go_roundw
      case rel => exact ⟨k + 1, _, by omega, by go_num, HM2, HK2, HP2, HB2⟩
      case measure => simp [intOf]; omega
    · have hkI : ¬ (k : Int) < (L.length : Int) := by omega
      have HE : Hid (ps.map (·.2) = L) := hid0 (by rw [HM.out, List.take_of_length_le (by omega)])
      clear HM
      go_wp2
      go_ret
      exact ⟨u3, rfl, ps, HP.out, HE.out, HB.out⟩
set_option maxRecDepth 10000 in
set_option maxHeartbeats 800000 in
theorem stillRows_any (ps : Lot) (base : Nat) (va : Value) (b : Option Addr) (cb : Nat) (w : World) (hl : ps.length ≤ 17592186043904) (hr : ∀ x ∈ ps, x.2.length ≤ 17592186043904) (hP : Pile w base va ps) (hb : RwA w b (ps.map (·.2))) :
    Calls Tryd.prog 13 #[va, .slice b ps.length cb] w fun r w' => r = .returned (.bool true) ∧ ∃ n, w' = w.drewN n := by
  obtain ⟨a, c, rfl, _, hc⟩ := hP.cells
  have HC := hid0 hc
  have HB := hid0 hb
  have HP := hid0 hP
  have HR := hid0 hr
  clear hc hb hP hr
  go_enter Tryd.func13, Tryd.ntmps13
  go_wp2
  go_loopw [5] (fun i wr => ∃ k : Nat, k ≤ ps.length ∧ i = .int .i64 (k : Int) ∧ ∃ n, wr = w.drewN n) (fun i _ => ps.length - (intOf i).toNat)
  case atStart => exact ⟨0, Nat.zero_le _, rfl, 0, rfl⟩
  case round =>
    obtain ⟨k, hk, rfl, nd, rfl⟩ := hrel
    by_cases hlt : k < ps.length
    · obtain ⟨b1, rfl, _, _, d1⟩ := HC.out k hlt
      obtain ⟨b2, o2, rfl, _, a2, c2, d2, i2⟩ := HB.out.at' k (by simpa using hlt)
      obtain ⟨g, cg, e1, hlk⟩ := HP.out.row _ (List.getElem_mem hlt)
      have hrl := HR.out _ (List.getElem_mem hlt)
      have d2' : w.cell? ⟨b2, o2 + k, none⟩ = some (.slice a2 (ps[k]).2.length c2) := by rw [d2]; simp
      have i2' : IA w a2 (ps[k]).2 := by have h := i2; simp only [List.getElem_map] at h; exact h
      rw [e1] at d1
      have HST := hid0 (fun n => still_any (ps[k]).2 base g cg a2 c2 (w.drewN n) hrl hlk ⟨i2'.at'⟩)
      clear d2 i2 i2' e1 hlk
      generalize (ps[k]).2 = s at *
      have hkI : (k : Int) < (ps.length : Int) := by omega
      have hkI0 : (0 : Int) ≤ (k : Int) := by omega
      go_wp2
      go_quiet ((go_at_call 12; exact (HST.out _).mono (fun _ _ h => ⟨h.1, drew_more h.2⟩)))
      go_wp2
      go_roundw
      case rel => exact ⟨k + 1, by omega, by go_num, _, rfl⟩
      case measure => simp [intOf]; omega
    · have hkI : ¬ (k : Int) < (ps.length : Int) := by omega
      go_wp2
      go_ret
      exact ⟨rfl, nd, rfl⟩
end Go.Proofs.YtmbpollfgmdinaaDoor
