/-
  The walk of bundle's checkSection in general, over what checkEntry answers (made by Lc2W.py).
-/
import Derived.Test.YtbdjnmbhphflbaaGreatDoorLc1W
namespace Go.Proofs.YtbdjnmbhphflbaaGreatDoor
open Go.RowKit Go.Shelf Go.Lib
/-- The first that answers, from i on, of m. -/
def firstN (f : Nat → Option Nat) : Nat → Nat → Option Nat
  | _, 0 => none
  | i, m + 1 => match f i with
    | some x => some x
    | none => firstN f (i + 1) m
theorem firstN_none (f : Nat → Option Nat) : ∀ (m i : Nat), (∀ j, i ≤ j → j < i + m → f j = none) → firstN f i m = none
  | 0, _, _ => rfl
  | m + 1, i, h => by
    rw [firstN, h i (Nat.le_refl _) (by omega)]
    exact firstN_none f m (i + 1) (fun j h1 h2 => h j (by omega) (by omega))
theorem firstN_at (f : Nat → Option Nat) (k x : Nat) (hx : f k = some x) : ∀ (m i : Nat), i ≤ k → k < i + m → (∀ j, i ≤ j → j < k → f j = none) → firstN f i m = some x
  | 0, i, h1, h2, _ => by omega
  | m + 1, i, h1, h2, h => by
    by_cases e : i = k
    · subst e; rw [firstN, hx]
    · rw [firstN, h i (Nat.le_refl _) (by omega)]
      exact firstN_at f k x hx m (i + 1) (by omega) (by omega) (fun j a b => h j (by omega) b)
def fE (E : ByteArray → Option Nat) (L : List (Bool × ByteArray)) (k : Nat) : Option Nat := match L[k]? with
  | some x => E x.2
  | none => none
theorem fE_at (E : ByteArray → Option Nat) (L : List (Bool × ByteArray)) (k : Nat) (h : k < L.length) : fE E L k = E L[k].2 := by
  unfold fE
  rw [List.getElem?_eq_getElem h]
/-- What checkSection answers: the number of the refusal. -/
def secE (E : ByteArray → Option Nat) (s : Sec) (ahead : List Sec) : Option Nat :=
  if isTagB s.loc = false then some 1 else if hasL ahead s.loc = true then some 4 else if (s.par.toList == []) = false ∧ isTagB s.par = false then some 1
  else if (s.par.toList == []) = false ∧ (s.loc.toList == [114, 111, 111, 116]) = true then some 0 else firstN (fE E s.ed) 0 s.ed.length
def errO (A : Nat → Addr) : Option Nat → Value
  | none => .nilIface
  | some i => .iface 192 (.pointer (some (A i)))
set_option maxRecDepth 10000 in
set_option maxHeartbeats 3200000 in
theorem checkSec_any (E : ByteArray → Option Nat) (A : Nat → Addr) (s : Sec) (ae : Option Addr) (ce : Nat) (Ah : List Sec) (a : Option Addr) (c : Nat) (w : World) (hl : Ah.length ≤ 1000000) (hn : s.ed.length ≤ 140737488355328) (hm : Mx w) (he : Sents w A) (ha : XA w a Ah) (hed : EA w ae s.ed) (hz : ∀ e ∈ s.ed, e.2.size ≤ 140737488355328)
    (hE : ∀ x W, x.size ≤ 140737488355328 → Below w.heap.size w W → Calls Tryz.prog 54 #[.string x] W fun e w' => e = .returned (errO A (E x)) ∧ Below W.heap.size W w') :
    Calls Tryz.prog 33 #[.agg #[.string s.loc, .string s.par, .slice ae s.ed.length ce], .slice a Ah.length c] w fun e w' => e = .returned (errO A (secE E s Ah)) ∧ Below w.heap.size w w' := by
  obtain ⟨w0, hw0⟩ : ∃ w0, w0 = w.alloc (.cells #[.string s.loc, .string s.par, .slice ae s.ed.length ce] 27) := ⟨_, rfl⟩
  have hB0 : Below w.heap.size w w0 := by rw [hw0]; exact (Below.refl _ _).alloc (Nat.le_refl _) _
  have hX0 : w0.heap[w.heap.size]? = some (.cells #[.string s.loc, .string s.par, .slice ae s.ed.length ce] 27 (0, 0)) := by rw [hw0]; exact heap_alloc_new w _
  have hs0 : w0.heap.size = w.heap.size + 1 := by rw [hw0]; simp
  have HXW : Hid (∀ W, Below w0.heap.size w0 W → W.cell? ⟨w.heap.size, 0, none⟩ = some (.string s.loc) ∧ W.cell? ⟨w.heap.size, 1, none⟩ = some (.string s.par) ∧ W.cell? ⟨w.heap.size, 2, none⟩ = some (.slice ae s.ed.length ce) ∧ W.cell? ⟨2, 0, none⟩ = some (.iface 192 (.pointer (some (A 1)))) ∧ W.cell? ⟨5, 0, none⟩ = some (.iface 192 (.pointer (some (A 4)))) ∧ W.cell? ⟨3, 0, none⟩ = some (.iface 192 (.pointer (some (A 0))))) := hid0 (fun W hW => by
    have hr := (hW.block w.heap.size (by omega)).trans hX0
    have h2 := (he.below hB0).below hW
    exact ⟨by rw [cell_of_row _ _ _ _ _ _ hr]; rfl, by rw [cell_of_row _ _ _ _ _ _ hr]; rfl, by rw [cell_of_row _ _ _ _ _ _ hr]; rfl, h2.c1, h2.c4, h2.c0⟩)
  have HO1 : Hid (∀ W, Below w0.heap.size w0 W → Calls Tryz.prog 52 #[.string s.loc] W fun e w' => e = .returned (.bool (isTagB s.loc)) ∧ Below w0.heap.size w0 w') := hid0 (fun W hW => (isOneForm_any s.loc W ((hm.below hB0).below hW)).mono (fun e w' h => ⟨h.1, Below.later hW h.2⟩))
  have HO2 : Hid (∀ W, Below w0.heap.size w0 W → Calls Tryz.prog 52 #[.string s.par] W fun e w' => e = .returned (.bool (isTagB s.par)) ∧ Below w0.heap.size w0 w') := hid0 (fun W hW => (isOneForm_any s.par W ((hm.below hB0).below hW)).mono (fun e w' h => ⟨h.1, Below.later hW h.2⟩))
  have HH : Hid (∀ W, Below w0.heap.size w0 W → Calls Tryz.prog 53 #[.slice a Ah.length c, .string s.loc] W fun e w' => e = .returned (.bool (hasL Ah s.loc)) ∧ Below w0.heap.size w0 w') := hid0 (fun W hW => (has_any Ah a c s.loc W hl ((ha.later hB0).later hW)).mono (fun e w' h => ⟨h.1, Below.later hW h.2⟩))
  have HEn : Hid (∀ x W, x.size ≤ 140737488355328 → Below w0.heap.size w0 W → Calls Tryz.prog 54 #[.string x] W fun e w' => e = .returned (errO A (E x)) ∧ Below w0.heap.size w0 w') := hid0 (fun x W hx hW => (hE x W hx (Below.later hB0 hW)).mono (fun e w' h => ⟨h.1, Below.later hW h.2⟩))
  have HED : Hid (∀ W, Below w0.heap.size w0 W → EA W ae s.ed) := hid0 (fun W hW => (hed.later hB0).later hW)
  have HB0 := hid0 hB0
  obtain ⟨x0, x1, x2, x3, x4, x5⟩ := HXW.out w0 (Below.refl _ _)
  have HBr := hid0 (Below.refl w0.heap.size w0)
  have hfold := hw0.symm
  clear hw0 hB0 hX0 hs0 hm he hE ha hed
  obtain ⟨R, hR⟩ : ∃ R, R = secE E s Ah := ⟨_, rfl⟩
  have HR := hid0 hR
  unfold secE at hR
  rw [← HR.out]
  obtain ⟨l, p, ed⟩ := s
  simp only at *
  have HZ := hid0 hz
  clear hz
  obtain ⟨q1, h1⟩ : ∃ q1, isTagB l = q1 := ⟨_, rfl⟩
  obtain ⟨q2, h2⟩ : ∃ q2, hasL Ah l = q2 := ⟨_, rfl⟩
  obtain ⟨q3, h3⟩ : ∃ q3, isTagB p = q3 := ⟨_, rfl⟩
  obtain ⟨q4, h4⟩ : ∃ q4, (p.toList == []) = q4 := ⟨_, rfl⟩
  obtain ⟨q5, h5⟩ : ∃ q5, (l.toList == [114, 111, 111, 116]) = q5 := ⟨_, rfl⟩
  rw [h1] at HO1 hR
  rw [h2] at HH hR
  rw [h3] at HO2 hR
  rw [h4, h5] at hR
  clear h1 h2 h3 HR
  cases q1 with
  | false =>
    simp only [if_true] at hR
    clear h4 h5
    go_enter Tryz.func33, Tryz.ntmps33
    have mk := hid0 True.intro
    go_wp2_with (first
      | (clear mk; go_at_call 52; refine (HO1.out _ HBr.out).mono ?_; rintro e w1 ⟨rfl, hb1⟩; obtain ⟨x0, x1, x2, x3, x4, x5⟩ := HXW.out w1 hb1; have HB1 := hid0 hb1; clear hb1)
      | fail)
    go_ret
    exact ⟨by rw [hR]; rfl, Below.later HB0.out HB1.out⟩
  | true =>
    simp only [Bool.true_eq_false, if_false] at hR
    cases q2 with
    | true =>
      simp only [if_true] at hR
      clear h4 h5
      go_enter Tryz.func33, Tryz.ntmps33
      have mk := hid0 True.intro
      go_wp2_with (first
        | (clear mk; go_at_call 52; refine (HO1.out _ HBr.out).mono ?_; rintro e w1 ⟨rfl, hb1⟩; obtain ⟨x0, x1, x2, x3, x4, x5⟩ := HXW.out w1 hb1; have HB1 := hid0 hb1; clear hb1)
        | (go_at_call 53; refine (HH.out _ HB1.out).mono ?_; rintro e w2 ⟨rfl, hb2⟩; obtain ⟨y0, y1, y2, y3, y4, y5⟩ := HXW.out w2 hb2; have HB2 := hid0 hb2; clear hb2)
        | fail)
      go_ret
      exact ⟨by rw [hR]; rfl, Below.later HB0.out HB2.out⟩
    | false =>
      simp only [Bool.false_eq_true, if_false] at hR
      cases q4 with
      | true =>
        simp only [Bool.true_eq_false, false_and, if_false] at hR
        clear h5
        go_enter Tryz.func33, Tryz.ntmps33
        have mk := hid0 True.intro
        go_wp2_with (first
          | (clear mk; go_at_call 52; refine (HO1.out _ HBr.out).mono ?_; rintro e w1 ⟨rfl, hb1⟩; obtain ⟨x0, x1, x2, x3, x4, x5⟩ := HXW.out w1 hb1; have HB1 := hid0 hb1; clear hb1)
          | (go_at_call 53; refine (HH.out _ HB1.out).mono ?_; rintro e w2 ⟨rfl, hb2⟩; obtain ⟨y0, y1, y2, y3, y4, y5⟩ := HXW.out w2 hb2; have HB2 := hid0 hb2; clear hb2)
          | fail)
        go_loopw [44] (fun v wr => ∃ k : Nat, k ≤ ed.length ∧ v = .int .i64 (k : Int) ∧ Hid (∀ j, j < k → fE E ed j = none) ∧ Hid (Below w0.heap.size w0 wr)) (fun v _ => ed.length - (intOf v).toNat)
        case atStart => exact ⟨0, Nat.zero_le _, rfl, hid0 (fun j h => absurd h (Nat.not_lt_zero _)), HB2⟩
        case round =>
          obtain ⟨k, hk, rfl, HN, HB⟩ := hrel
          by_cases hlt : k < ed.length
          · have hkI : (k : Int) < (ed.length : Int) := by omega
            have hk0 : (0 : Int) ≤ (k : Int) := by omega
            obtain ⟨b, off, rfl, hbl, c0, c1⟩ := (HED.out wr HB.out).at' k hlt
            have HBo := hid0 (fun o => HB.out.alloc HB.out.size o)
            have hzk := HZ.out _ (List.getElem_mem hlt)
            have HCk := hid0 (fun o => HEn.out ed[k].2 _ hzk (HBo.out o))
            clear hzk
            have hfe := fE_at E ed k hlt
            generalize ed[k].1 = ad at *
            generalize ed[k].2 = x at *
            cases hx : E x with
            | some i =>
              have HV : Hid (R = some i) := hid0 (by rw [hR]; exact firstN_at _ k i (by rw [hfe, hx]) _ 0 (Nat.zero_le _) (by omega) (fun j _ h => HN.out j h))
              rw [hx] at HCk
              simp only [errO] at HCk
              clear hfe hx hR HN HEn
              go_wp2_with (first
                | (go_at_call 54; refine (HCk.out _).mono ?_; rintro e w5 ⟨rfl, hb5⟩; have HB5 := hid0 hb5; clear hb5)
                | fail)
              go_ret
              exact ⟨by rw [HV.out]; rfl, Below.later HB0.out HB5.out⟩
            | none =>
              have HV : Hid (∀ j, j < k + 1 → fE E ed j = none) := hid0 (fun j hj => by
                by_cases e : j = k
                · rw [e, hfe, hx]
                · exact HN.out j (by omega))
              rw [hx] at HCk
              simp only [errO] at HCk
              clear hfe hx HN
              go_wp2_with (first
                | (go_at_call 54; refine (HCk.out _).mono ?_; rintro e w5 ⟨rfl, hb5⟩; have HB5 := hid0 hb5; clear hb5)
                | fail)
              go_roundw
              case rel => exact ⟨k + 1, by omega, by go_num, HV, HB5⟩
              case measure => simp [intOf]; omega
          · have hkI : ¬ (k : Int) < (ed.length : Int) := by omega
            have HV : Hid (R = none) := hid0 (by rw [hR]; exact firstN_none _ _ 0 (fun j _ h => HN.out j (by omega)))
            clear hR HN HEn HED
            go_wp2
            go_ret
            exact ⟨by rw [HV.out]; rfl, Below.later HB0.out HB.out⟩
      | false =>
        simp only [true_and] at hR
        cases q3 with
        | false =>
          simp only [if_true] at hR
          clear h5
          go_enter Tryz.func33, Tryz.ntmps33
          have mk := hid0 True.intro
          go_wp2_with (first
            | (clear mk; go_at_call 52; refine (HO1.out _ HBr.out).mono ?_; rintro e w1 ⟨rfl, hb1⟩; obtain ⟨x0, x1, x2, x3, x4, x5⟩ := HXW.out w1 hb1; have HB1 := hid0 hb1; clear hb1)
            | (go_at_call 53; refine (HH.out _ HB1.out).mono ?_; rintro e w2 ⟨rfl, hb2⟩; obtain ⟨y0, y1, y2, y3, y4, y5⟩ := HXW.out w2 hb2; have HB2 := hid0 hb2; clear hb2)
            | (go_at_call 52; refine (HO2.out _ HB2.out).mono ?_; rintro e w3 ⟨rfl, hb3⟩; obtain ⟨z0, z1, z2, z3, z4, z5⟩ := HXW.out w3 hb3; have HB3 := hid0 hb3; clear hb3)
            | fail)
          go_ret
          exact ⟨by rw [hR]; rfl, Below.later HB0.out HB3.out⟩
        | true =>
          simp only [Bool.true_eq_false, if_false] at hR
          cases q5 with
          | true =>
            simp only [if_true] at hR
            go_enter Tryz.func33, Tryz.ntmps33
            have mk := hid0 True.intro
            go_wp2_with (first
              | (clear mk; go_at_call 52; refine (HO1.out _ HBr.out).mono ?_; rintro e w1 ⟨rfl, hb1⟩; obtain ⟨x0, x1, x2, x3, x4, x5⟩ := HXW.out w1 hb1; have HB1 := hid0 hb1; clear hb1)
              | (go_at_call 53; refine (HH.out _ HB1.out).mono ?_; rintro e w2 ⟨rfl, hb2⟩; obtain ⟨y0, y1, y2, y3, y4, y5⟩ := HXW.out w2 hb2; have HB2 := hid0 hb2; clear hb2)
              | (go_at_call 52; refine (HO2.out _ HB2.out).mono ?_; rintro e w3 ⟨rfl, hb3⟩; obtain ⟨z0, z1, z2, z3, z4, z5⟩ := HXW.out w3 hb3; have HB3 := hid0 hb3; clear hb3)
              | fail)
            go_ret
            exact ⟨by rw [hR]; rfl, Below.later HB0.out HB3.out⟩
          | false =>
            simp only [Bool.false_eq_true, if_false] at hR
            go_enter Tryz.func33, Tryz.ntmps33
            have mk := hid0 True.intro
            go_wp2_with (first
              | (clear mk; go_at_call 52; refine (HO1.out _ HBr.out).mono ?_; rintro e w1 ⟨rfl, hb1⟩; obtain ⟨x0, x1, x2, x3, x4, x5⟩ := HXW.out w1 hb1; have HB1 := hid0 hb1; clear hb1)
              | (go_at_call 53; refine (HH.out _ HB1.out).mono ?_; rintro e w2 ⟨rfl, hb2⟩; obtain ⟨y0, y1, y2, y3, y4, y5⟩ := HXW.out w2 hb2; have HB2 := hid0 hb2; clear hb2)
              | (go_at_call 52; refine (HO2.out _ HB2.out).mono ?_; rintro e w3 ⟨rfl, hb3⟩; obtain ⟨z0, z1, z2, z3, z4, z5⟩ := HXW.out w3 hb3; have HB3 := hid0 hb3; clear hb3)
              | fail)
            go_loopw [44] (fun v wr => ∃ k : Nat, k ≤ ed.length ∧ v = .int .i64 (k : Int) ∧ Hid (∀ j, j < k → fE E ed j = none) ∧ Hid (Below w0.heap.size w0 wr)) (fun v _ => ed.length - (intOf v).toNat)
            case atStart => exact ⟨0, Nat.zero_le _, rfl, hid0 (fun j h => absurd h (Nat.not_lt_zero _)), HB3⟩
            case round =>
              obtain ⟨k, hk, rfl, HN, HB⟩ := hrel
              by_cases hlt : k < ed.length
              · have hkI : (k : Int) < (ed.length : Int) := by omega
                have hk0 : (0 : Int) ≤ (k : Int) := by omega
                obtain ⟨b, off, rfl, hbl, c0, c1⟩ := (HED.out wr HB.out).at' k hlt
                have HBo := hid0 (fun o => HB.out.alloc HB.out.size o)
                have hzk := HZ.out _ (List.getElem_mem hlt)
                have HCk := hid0 (fun o => HEn.out ed[k].2 _ hzk (HBo.out o))
                clear hzk
                have hfe := fE_at E ed k hlt
                generalize ed[k].1 = ad at *
                generalize ed[k].2 = x at *
                cases hx : E x with
                | some i =>
                  have HV : Hid (R = some i) := hid0 (by rw [hR]; exact firstN_at _ k i (by rw [hfe, hx]) _ 0 (Nat.zero_le _) (by omega) (fun j _ h => HN.out j h))
                  rw [hx] at HCk
                  simp only [errO] at HCk
                  clear hfe hx hR HN HEn
                  go_wp2_with (first
                    | (go_at_call 54; refine (HCk.out _).mono ?_; rintro e w5 ⟨rfl, hb5⟩; have HB5 := hid0 hb5; clear hb5)
                    | fail)
                  go_ret
                  exact ⟨by rw [HV.out]; rfl, Below.later HB0.out HB5.out⟩
                | none =>
                  have HV : Hid (∀ j, j < k + 1 → fE E ed j = none) := hid0 (fun j hj => by
                    by_cases e : j = k
                    · rw [e, hfe, hx]
                    · exact HN.out j (by omega))
                  rw [hx] at HCk
                  simp only [errO] at HCk
                  clear hfe hx HN
                  go_wp2_with (first
                    | (go_at_call 54; refine (HCk.out _).mono ?_; rintro e w5 ⟨rfl, hb5⟩; have HB5 := hid0 hb5; clear hb5)
                    | fail)
                  go_roundw
                  case rel => exact ⟨k + 1, by omega, by go_num, HV, HB5⟩
                  case measure => simp [intOf]; omega
              · have hkI : ¬ (k : Int) < (ed.length : Int) := by omega
                have HV : Hid (R = none) := hid0 (by rw [hR]; exact firstN_none _ _ 0 (fun j _ h => HN.out j (by omega)))
                clear hR HN HEn HED
                go_wp2
                go_ret
                exact ⟨by rw [HV.out]; rfl, Below.later HB0.out HB.out⟩
end Go.Proofs.YtbdjnmbhphflbaaGreatDoor
