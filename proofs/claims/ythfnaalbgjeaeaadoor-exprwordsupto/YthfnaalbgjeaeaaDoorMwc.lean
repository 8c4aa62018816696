/-
  ExJW, ExKW, ExRM, ExTW, ExUW, ExLM, ExNW, ExOW, ExPW, ExQW, ExMW, Eh3W.
-/
import Derived.Test.YthfnaalbgjeaeaaDoorMwb
import Derived.Test.YthfnaalbgjeaeaaDoorMwa
import Derived.RangeFuncNested
import Derived.RangeFuncBound
import Derived.RangeFuncCalls
import Derived.RangeFuncLeaves
import Derived.RangeFuncBox
import Derived.OwnWalkIn
import Derived.TacticsInMore
import Derived.LoopNIn
import Derived.LoopIn
import Derived.Maps.OwnIn
import Derived.Sort.Row
namespace Go.Proofs.YthfnaalbgjeaeaaDoor
open Go.RowKit Go.Shelf
theorem row_cell {w : World} {b : Nat} {v : Value} {t : TypeId} (h : row w b v t) : w.cell? ⟨b, 0, none⟩ = some v := by
  unfold row at h
  rw [cell_of_row _ _ _ _ _ _ h]; rfl
set_option maxRecDepth 10000 in
/-- A node that was gone on from at the place. -/
theorem once_skip (p : Int) (l o : Nat) (w : World) (hl : row w l (.int .i64 p) 3) : Calls Tryd.prog 43 #[.int .i64 p, .pointer (some ⟨l, 0, none⟩), .pointer (some ⟨o, 0, none⟩)] w fun e w' => e = .returned (.tuple #[]) ∧ w' = w := by
  have c0 := row_cell hl
  clear hl
  go_enter Tryd.func43, Tryd.ntmps43
  go_wp2
  go_end0
  exact ⟨rfl, rfl⟩
set_option maxRecDepth 10000 in
set_option maxHeartbeats 800000 in
/-- A set's node that was not. -/
theorem once_set (p q : Int) (l o r e n : Nat) (w : World) (Q : Ending → World → Prop) (hq : p ≠ q) (hl : row w l (.int .i64 q) 3) (ho : row w o (setF r e n) 63)
    (h : Calls Tryd.prog 32 #[.int .i64 p, .pointer (some ⟨r, 0, none⟩), .pointer (some ⟨e, 0, none⟩), .pointer (some ⟨n, 0, none⟩)] (w.setCell ⟨l, 0, none⟩ (.int .i64 p)) fun e w' => e = .returned (.tuple #[]) ∧ Q e w') :
    Calls Tryd.prog 43 #[.int .i64 p, .pointer (some ⟨l, 0, none⟩), .pointer (some ⟨o, 0, none⟩)] w fun e w' => e = .returned (.tuple #[]) ∧ Q e w' := by
  have c0 := row_cell hl
  have f0 : w.frozen? ⟨l, 0, none⟩ = false := frozen_of_row _ _ _ _ _ hl
  have hne : o ≠ l := by
    rintro rfl
    unfold row at hl ho
    rw [hl] at ho
    cases ho
  have c1 : (w.setCell ⟨l, 0, none⟩ (.int .i64 p)).cell? ⟨o, 0, none⟩ = some (setF r e n) := row_cell ((Below.heap_setCell w _ _ o hne).trans ho)
  unfold setF ptr at c1
  have HH := hid0 h
  clear hl ho h hne
  go_enter Tryd.func43, Tryd.ntmps43
  go_wp2_with (go_at_call 32; refine HH.out.mono ?_; rintro e w1 ⟨rfl, hw1⟩)
  go_end0
  exact ⟨rfl, hw1⟩
set_option maxRecDepth 10000 in
set_option maxHeartbeats 800000 in
theorem once_fork (p q : Int) (l o b : Nat) (w : World) (Q : Ending → World → Prop) (hq : p ≠ q) (hl : row w l (.int .i64 q) 3) (ho : row w o (forkF b) 63)
    (h : Calls Tryd.prog 45 #[.int .i64 p, .pointer (some ⟨b, 0, none⟩)] (w.setCell ⟨l, 0, none⟩ (.int .i64 p)) fun e w' => e = .returned (.tuple #[]) ∧ Q e w') :
    Calls Tryd.prog 43 #[.int .i64 p, .pointer (some ⟨l, 0, none⟩), .pointer (some ⟨o, 0, none⟩)] w fun e w' => e = .returned (.tuple #[]) ∧ Q e w' := by
  have c0 := row_cell hl
  have f0 : w.frozen? ⟨l, 0, none⟩ = false := frozen_of_row _ _ _ _ _ hl
  have hne : o ≠ l := by
    rintro rfl
    unfold row at hl ho
    rw [hl] at ho
    cases ho
  have c1 : (w.setCell ⟨l, 0, none⟩ (.int .i64 p)).cell? ⟨o, 0, none⟩ = some (forkF b) := row_cell ((Below.heap_setCell w _ _ o hne).trans ho)
  unfold forkF ptr at c1
  have HH := hid0 h
  clear hl ho h hne
  go_enter Tryd.func43, Tryd.ntmps43
  go_wp2_with (go_at_call 45; refine HH.out.mono ?_; rintro e w1 ⟨rfl, hw1⟩)
  go_end0
  exact ⟨rfl, hw1⟩
set_option maxRecDepth 10000 in
set_option maxHeartbeats 800000 in
theorem tramp1 (p : Int) (b : Nat) (v : Value) (w : World) (Q : Ending → World → Prop) (hb : row w b v 63) (h : CallV v p w fun e w' => e = .returned (.tuple #[]) ∧ Q e w') :
    Calls Tryd.prog 46 #[.int .i64 p, .pointer (some ⟨b, 0, none⟩)] w fun e w' => e = .returned (.tuple #[]) ∧ Q e w' := by
  have c0 := row_cell hb
  clear hb
  rcases h with ⟨b', rfl, h⟩ | ⟨l, o, rfl, h⟩ | ⟨b', rfl, h⟩
  · unfold finV ptr at c0
    have HH := hid0 h
    clear h
    go_enter Tryd.func46, Tryd.ntmps46
    go_wp2_with (go_at_call 26; refine HH.out.mono ?_; rintro e w1 ⟨rfl, hw1⟩)
    go_end0
    exact ⟨rfl, hw1⟩
  · unfold onceV ptr at c0
    have HH := hid0 h
    clear h
    go_enter Tryd.func46, Tryd.ntmps46
    go_wp2_with (go_at_call 43; refine HH.out.mono ?_; rintro e w1 ⟨rfl, hw1⟩)
    go_end0
    exact ⟨rfl, hw1⟩
  · unfold trampV ptr at c0
    have HH := hid0 h
    clear h
    go_enter Tryd.func46, Tryd.ntmps46
    go_wp2_with (go_at_call 46; refine HH.out.mono ?_; rintro e w1 ⟨rfl, hw1⟩)
    go_end0
    exact ⟨rfl, hw1⟩
/-- What is asked of each way of several. -/
def VisOk (base R : Nat) (Y : Lay) (G : List Nd) (waited : List Nat) (u : Value) (p : Int) (f : Nat) (y : Nat) : Prop :=
  ∀ s s' w, vis G p f y s = some s' → s'.wait.length ≤ 1000000 → SIn w base R Y G waited u s → CallV (Y.val y) p w (Vp base R Y G waited u w s')
theorem wait_le {G : List Nd} {p : Int} {f : Nat} {ys : List Nat} {s s' : St} (h : visL G p f ys s = some s') : s.wait.length ≤ s'.wait.length := by
  obtain ⟨l, e⟩ := ((vis_more G p f).2 ys s s' h).wait
  rw [e]; simp
set_option maxRecDepth 10000 in
set_option maxHeartbeats 1600000 in
theorem fork1 {base R : Nat} {Y : Lay} {G : List Nd} {waited : List Nat} {u : Value} (p : Int) (f : Nat) (ys : List Nat) (hys : ys.length ≤ 1000000) (IH : ∀ y, y ∈ ys → VisOk base R Y G waited u p f y) (s s' : St) (hv : visL G p f ys s = some s') (hw8 : s'.wait.length ≤ 1000000) (b : Nat) (v : Value) (w : World)
    (hs : SIn w base R Y G waited u s) (hb : row w b v 76) (hW : WA w (fun _ => True) v (ys.map Y.val)) :
    Calls Tryd.prog 45 #[.int .i64 p, .pointer (some ⟨b, 0, none⟩)] w (Vp base R Y G waited u w s') := by
  have c0 := row_cell hb
  obtain ⟨a, cap, rfl, hA⟩ := hW.form
  rw [List.length_map] at c0
  have HA : Hid (∀ k (h : k < ys.length) W, Kp base w W → ∃ b off, a = some ⟨b, off, none⟩ ∧ W.cell? ⟨b, off + k, none⟩ = some (Y.val ys[k])) := hid0 (fun k h W hk => by
    obtain ⟨b, off, cur, e1, _, e3, e4⟩ := hA k (by rw [List.length_map]; exact h)
    refine ⟨b, off, e1, ?_⟩
    rw [cell_of_row _ _ _ _ _ _ (hk.rows _ _ _ _ e3 (by decide) (by decide) (by decide)), e4]
    simp)
  have HS := hid0 hs
  have HV := hid0 hv
  have HI := hid0 IH
  clear hs hb hW hA hv IH
  go_enter Tryd.func45, Tryd.ntmps45
  go_wp2
  go_loopw [4, 7] (fun _ i wr => ∃ (k : Nat) (t : St), k ≤ ys.length ∧ i = .int .i64 (k : Int) ∧ Hid (visL G p f (ys.drop k) t = some s') ∧ Hid (SIn wr base R Y G waited u t) ∧ Hid (Kp base w wr)) (fun _ i _ => ys.length - (intOf i).toNat)
  case atStart => exact ⟨0, s, Nat.zero_le _, rfl, HV, HS, hid0 (Kp.refl _ _)⟩
  case round =>
    clear HS HV
    obtain ⟨k, t, hk, rfl, HV, HS, HK⟩ := hrel
    by_cases hlt : k < ys.length
    · have hkI : (k : Int) < (ys.length : Int) := by omega
      have hkI0 : (0 : Int) ≤ (k : Int) := by omega
      obtain ⟨b1, off, rfl, hc⟩ := HA.out k hlt wr HK.out
      have hv1 := HV.out
      rw [List.drop_eq_getElem_cons hlt, visL] at hv1
      cases hv2 : vis G p f ys[k] t with
      | none => rw [hv2] at hv1; cases hv1
      | some t2 =>
        rw [hv2] at hv1
        have HV2 : Hid (visL G p f (ys.drop (k + 1)) t2 = some s') := hid0 hv1
        have HC := HI.out ys[k] (List.getElem_mem hlt) t t2 wr hv2 (Nat.le_trans (wait_le hv1) hw8) HS.out
        clear hv1 hv2 HV HS HI
        generalize Y.val ys[k] = V at *
        rcases HC with ⟨b', rfl, h⟩ | ⟨l, o, rfl, h⟩ | ⟨b', rfl, h⟩
        · unfold finV ptr at hc
          have HH := hid0 h
          clear h
          go_wp2_with (go_at_call 26; refine HH.out.mono ?_; rintro e w1 ⟨rfl, hs1, hk1⟩; have HS1 := hid0 hs1; have HK1 := hid0 (HK.out.trans hk1); clear hs1 hk1)
          go_roundw
          case rel => exact ⟨k + 1, t2, by omega, by go_num, HV2, HS1, HK1⟩
          case measure => simp [intOf]; omega
        · unfold onceV ptr at hc
          have HH := hid0 h
          clear h
          go_wp2_with (go_at_call 43; refine HH.out.mono ?_; rintro e w1 ⟨rfl, hs1, hk1⟩; have HS1 := hid0 hs1; have HK1 := hid0 (HK.out.trans hk1); clear hs1 hk1)
          go_roundw
          case rel => exact ⟨k + 1, t2, by omega, by go_num, HV2, HS1, HK1⟩
          case measure => simp [intOf]; omega
        · unfold trampV ptr at hc
          have HH := hid0 h
          clear h
          go_wp2_with (go_at_call 46; refine HH.out.mono ?_; rintro e w1 ⟨rfl, hs1, hk1⟩; have HS1 := hid0 hs1; have HK1 := hid0 (HK.out.trans hk1); clear hs1 hk1)
          go_roundw
          case rel => exact ⟨k + 1, t2, by omega, by go_num, HV2, HS1, HK1⟩
          case measure => simp [intOf]; omega
    · have hkI : ¬ (k : Int) < (ys.length : Int) := by omega
      have hv1 := HV.out
      rw [List.drop_of_length_le (by omega), visL] at hv1
      cases hv1
      clear HA HI HV
      go_wp2
      go_end0
      exact ⟨rfl, HS.out, HK.out⟩
end Go.Proofs.YthfnaalbgjeaeaaDoor
namespace Go.Proofs.YthfnaalbgjeaeaaDoor
open Go.RowKit Go.Shelf
theorem row_set_int {w : World} {l b : Nat} {q : Int} {c : Array Value} {t : TypeId} {z : Nat × Nat} (hl : row w l (.int .i64 q) 3) (x : Value) (e : w.heap[b]? = some (.cells c t z)) (ht : t ≠ 3) : (w.setCell ⟨l, 0, none⟩ x).heap[b]? = some (.cells c t z) :=
  (Below.heap_setCell w _ x b (by
    intro hb
    simp only at hb
    subst hb
    unfold row at hl
    rw [hl] at e
    cases e
    exact ht rfl)).trans e
theorem SIn.mark {w : World} {base R : Nat} {Y : Lay} {G : List Nd} {waited : List Nat} {u : Value} {s : St} (h : SIn w base R Y G waited u s) (x : Nat) (d : Nd) (hx : G[x]? = some d) (hd : d.once = true) (p : Int) :
    SIn (w.setCell ⟨Y.last x, 0, none⟩ (.int .i64 p)) base R Y G waited u (s.mark x p) ∧ Kp base w (w.setCell ⟨Y.last x, 0, none⟩ (.int .i64 p)) := by
  obtain ⟨hlo, hl⟩ := (h.g.node x d hx).lastRow hd
  have k : Kp base w (w.setCell ⟨Y.last x, 0, none⟩ (.int .i64 p)) := ⟨(Below.refl base w).setCell (p := ⟨Y.last x, 0, none⟩) hlo _, fun b c t z e h1 _ _ => row_set_int hl _ e h1⟩
  refine ⟨⟨h.g.kp k (fun i d' hi hd' => ?_), ?_⟩, k⟩
  · by_cases e : i = x
    · subst e
      simp only [St.mark, if_pos]
      exact heap_setCell_same _ _ 0 _ _ _ hl
    · simp only [St.mark, if_neg e]
      have hr := ((h.g.node i d' hi).lastRow hd').2
      exact (Below.heap_setCell w _ _ _ (fun e2 => e (h.g.inj i x d' d hi hx hd' hd e2))).trans hr
  · obtain ⟨v, hR, hv, hu, hdis⟩ := h.r.is
    exact ⟨⟨v, row_set_int hl _ hR (by decide), own_blk hv (fun b hb => by
      obtain ⟨c, e, _⟩ := own_type hv b hb
      rw [row_set_int hl _ e (by decide), e]), own_blk hu (fun b hb => by
      obtain ⟨c, e, _⟩ := own_type hu b hb
      rw [row_set_int hl _ e (by decide), e]), hdis⟩, h.r.low⟩
theorem SIn.waits {w w' : World} {base R : Nat} {Y : Lay} {G : List Nd} {waited : List Nat} {u : Value} {s : St} (h : SIn w base R Y G waited u s) (hu : w.ownsRow base 71 4 u waited.length (waited.flatMap (stepC Y G))) (x : Nat)
    (hw : Waits base R w w' s.wait.length (s.wait.flatMap (stepC Y G)) (stepC Y G x) u s.ended) : SIn w' base R Y G waited u (s.push x) ∧ Kp base w w' := by
  have k : Kp base w w' := ⟨hw.bel, fun b c t z e _ h2 h3 => hw.rows b c t z e h2 (fun h => absurd h h3)⟩
  refine ⟨⟨h.g.kp k (fun i d hi hd => hw.rows _ _ _ _ ((h.g.node i d hi).lastRow hd).2 (by decide) (fun h => absurd h (by decide))), ?_⟩, k⟩
  obtain ⟨v', hR, hown, hdis⟩ := hw.is
  refine ⟨⟨v', hR, ?_, own_blk hu (fun b hb => ?_), hdis⟩, h.r.low⟩
  · simp only [St.push, List.length_append, List.length_singleton, List.flatMap_append, List.flatMap_singleton]
    exact hown
  · obtain ⟨c, e, _⟩ := own_type hu b hb
    rw [hw.rows b c _ _ e (by decide) (fun _ => hb), e]
theorem visit_any {base R : Nat} {Y : Lay} {G : List Nd} {waited : List Nat} {u : Value} (hG : WF G) (hf6 : ∀ (x : Nat) (ys : List Nat), G[x]? = some (Nd.fork ys) → ys.length ≤ 1000000) (p : Int) : ∀ (f x : Nat), VisOk base R Y G waited u p f x := by
  intro f
  induction f with
  | zero => intro x s s' w h; simp [vis] at h
  | succ f ih =>
    intro x s s' w h hw8 hs
    simp only [vis] at h
    cases hx : G[x]? with
    | none => rw [hx] at h; cases h
    | some d =>
      rw [hx] at h
      have hn := hs.g.node x d hx
      cases d with
      | hole => cases h
      | fin =>
        cases h
        cases hn with
        | fin h1 => exact .inl ⟨R, h1, fin_any p w hs⟩
      | tramp y =>
        cases hn with
        | tramp _ b h1 _ h3 => exact .inr (.inr ⟨b, h1, tramp1 p b (Y.val y) w (fun _ w' => SIn w' base R Y G waited u s' ∧ Kp base w w') h3 (ih y s s' w h hw8 hs)⟩)
      | set nt N P nx =>
        simp only at h
        cases hn with
        | set _ _ _ _ o r e n k z h1 h2 h3 h4 h5 h6 h7 =>
          refine .inr (.inl ⟨Y.last x, o, h1, ?_⟩)
          by_cases hp : s.last x = p
          · rw [if_pos hp] at h
            cases h
            rw [hp] at h3
            refine (once_skip p (Y.last x) o w h3).mono ?_
            rintro e w' ⟨rfl, rfl⟩
            exact ⟨rfl, hs, Kp.refl _ _⟩
          · rw [if_neg hp] at h
            cases h
            obtain ⟨hm, hk⟩ := hs.mark x _ hx rfl p
            refine once_set p (s.last x) (Y.last x) o r e n w (fun _ w' => SIn w' base R Y G waited u ((s.mark x p).push x) ∧ Kp base w w') (fun e => hp e.symm) h3 h4 ?_
            obtain ⟨v, hR, hv, hu, hdis⟩ := hm.r.is
            obtain ⟨a1, ca, a2, cb, en, ep, _⟩ := (hm.g.sets x nt N P nx hx).is
            obtain ⟨fn, fx, fy, hfn⟩ := ((hm.g.node nx _ (List.getElem?_eq_getElem (hG.set x nt N P nx hx))).func)
            rw [en, ep] at h6
            rw [hfn] at h7
            have hst : stepC Y G x = [.bool nt, .slice a1 N.length ca, .slice a2 P.length cb, .func fn fx fy] := by
              unfold stepC
              rw [hx]
              simp only [en, ep, hfn]
            have hw9 : (s.mark x p).wait.length ≤ 1000000 := by
              have : ((s.mark x p).push x).wait.length = (s.mark x p).wait.length + 1 := by simp [St.push]
              omega
            refine (set1 p base R r e n (s.mark x p).wait.length a1 a2 N.length ca P.length cb nt k z fn fx fy v u (s.mark x p).ended _ _ hw9 hm.r.low hR hv hdis (fun g hg => by obtain ⟨c, e, _⟩ := own_type hu g hg; exact lt_of_row e) (row_set_int h3 _ h5 (by decide)) (row_set_int h3 _ h6 (by decide)) (row_set_int h3 _ h7 (by decide))).mono ?_
            rintro e w' ⟨rfl, hwt⟩
            rw [← hst] at hwt
            obtain ⟨r1, r2⟩ := hm.waits hu x hwt
            exact ⟨rfl, r1, hk.trans r2⟩
      | fork ys =>
        simp only at h
        cases hn with
        | fork _ o b v h1 h2 h3 h4 h5 h6 =>
          refine .inr (.inl ⟨Y.last x, o, h1, ?_⟩)
          by_cases hp : s.last x = p
          · rw [if_pos hp] at h
            cases h
            rw [hp] at h3
            refine (once_skip p (Y.last x) o w h3).mono ?_
            rintro e w' ⟨rfl, rfl⟩
            exact ⟨rfl, hs, Kp.refl _ _⟩
          · rw [if_neg hp] at h
            obtain ⟨hm, hk⟩ := hs.mark x _ hx rfl p
            refine once_fork p (s.last x) (Y.last x) o b w (fun _ w' => SIn w' base R Y G waited u s' ∧ Kp base w w') (fun e => hp e.symm) h3 h4 ?_
            refine (fork1 p f ys (hf6 x ys hx) (fun y _ => ih y) (s.mark x p) s' h hw8 b v _ hm (row_set_int h3 _ h5 (by decide)) (h6.kp (fun b c z _ e => row_set_int h3 _ e (by decide)))).mono ?_
            rintro e w' ⟨rfl, r1, r2⟩
            exact ⟨rfl, r1, hk.trans r2⟩
end Go.Proofs.YthfnaalbgjeaeaaDoor
namespace Go.Proofs.YthfnaalbgjeaeaaDoor
/-- A node was gone on from at the place. -/
def Done (G : List Nd) (p : Int) (s : St) (y : Nat) : Prop := match G[y]? with
  | some .fin => s.ended = p
  | some (.tramp z) => s.last z = p
  | some (.set _ _ _ _) => s.last y = p
  | some (.fork _) => s.last y = p
  | _ => True
theorem Done.more {G : List Nd} {p : Int} {s s' : St} {y : Nat} (h : Done G p s y) (m : More p s s') : Done G p s' y := by
  unfold Done at *
  cases hg : G[y]? with
  | none => trivial
  | some d =>
    rw [hg] at h
    cases d with
    | fin => exact m.ended h
    | tramp z => exact m.last _ h
    | set nt N P nx => exact m.last _ h
    | fork ys => exact m.last _ h
    | hole => trivial
def isSet (G : List Nd) (y : Nat) : Prop := ∃ nt N P nx, G[y]? = some (.set nt N P nx)
/-- What a visit of some ways has done. -/
structure Seen (G : List Nd) (p : Int) (X : List Nat) (s s' : St) : Prop where
  more : More p s s'
  done : ∀ x, x ∈ X → Done G p s' x
  closed : ∀ (y : Nat) (ys : List Nat), G[y]? = some (.fork ys) → s'.last y = p → s.last y ≠ p → ∀ z, z ∈ ys → Done G p s' z
  wait : ∀ y, y ∈ s'.wait ↔ y ∈ s.wait ∨ (isSet G y ∧ s'.last y = p ∧ s.last y ≠ p)
  sound : ∀ T : List Kd → Prop, (∀ x, x ∈ X → ∀ W, Acc G x W → T W) → (∀ y W, s'.last y = p → s.last y ≠ p → Acc G y W → T W) ∧ (s'.ended = p → s.ended ≠ p → T [])
theorem Seen.refl (G : List Nd) (p : Int) (s : St) : Seen G p [] s s :=
  ⟨More.refl p s, fun _ h => (by cases h), fun _ _ _ h1 h2 => absurd h1 h2, fun y => ⟨.inl, fun h => h.elim id (fun h => absurd h.2.1 h.2.2)⟩, fun _ _ => ⟨fun _ _ h1 h2 => absurd h1 h2, fun h1 h2 => absurd h1 h2⟩⟩
theorem Seen.trans {G : List Nd} {p : Int} {X Z : List Nat} {s s1 s2 : St} (h : Seen G p X s s1) (k : Seen G p Z s1 s2) : Seen G p (X ++ Z) s s2 := by
  refine ⟨h.more.trans k.more, fun x hx => ?_, fun y ys hy h1 h2 z hz => ?_, fun y => ?_, fun T hT => ?_⟩
  · rcases List.mem_append.1 hx with hx | hx
    · exact (h.done x hx).more k.more
    · exact k.done x hx
  · by_cases e : s1.last y = p
    · exact (h.closed y ys hy e h2 z hz).more k.more
    · exact k.closed y ys hy h1 e z hz
  · rw [k.wait, h.wait]
    constructor
    · rintro ((h1 | ⟨h1, h2, h3⟩) | ⟨h1, h2, h3⟩)
      · exact .inl h1
      · exact .inr ⟨h1, k.more.last y h2, h3⟩
      · exact .inr ⟨h1, h2, fun e => h3 (h.more.last y e)⟩
    · rintro (h1 | ⟨h1, h2, h3⟩)
      · exact .inl (.inl h1)
      · by_cases e : s1.last y = p
        · exact .inl (.inr ⟨h1, e, h3⟩)
        · exact .inr ⟨h1, h2, e⟩
  · obtain ⟨a1, a2⟩ := h.sound T (fun x hx => hT x (List.mem_append.2 (.inl hx)))
    obtain ⟨b1, b2⟩ := k.sound T (fun x hx => hT x (List.mem_append.2 (.inr hx)))
    refine ⟨fun y W h1 h2 hA => ?_, fun h1 h2 => ?_⟩
    · by_cases e : s1.last y = p
      · exact a1 y W e h2 hA
      · exact b1 y W h1 e hA
    · by_cases e : s1.ended = p
      · exact a2 e h2
      · exact b2 h1 e
theorem vis_seen {G : List Nd} (hG : WF G) (p : Int) : ∀ (f : Nat), (∀ x s s', vis G p f x s = some s' → Seen G p [x] s s') ∧ (∀ ys s s', visL G p f ys s = some s' → Seen G p ys s s') := by
  have lift : ∀ f, (∀ x s s', vis G p f x s = some s' → Seen G p [x] s s') → ∀ ys s s', visL G p f ys s = some s' → Seen G p ys s s' := by
    intro f hf ys
    induction ys with
    | nil => intro s s' h; simp only [visL, Option.some.injEq] at h; subst h; exact Seen.refl G p s
    | cons y ys ih =>
      intro s s' h
      simp only [visL] at h
      cases hv : vis G p f y s with
      | none => rw [hv] at h; cases h
      | some s1 => rw [hv] at h; exact (hf y s s1 hv).trans (ih s1 s' h)
  intro f
  induction f with
  | zero => exact ⟨fun x s s' h => by simp [vis] at h, lift 0 (fun x s s' h => by simp [vis] at h)⟩
  | succ f ih =>
    have h1 : ∀ x s s', vis G p (f + 1) x s = some s' → Seen G p [x] s s' := by
      intro x s s' h
      have hm := (vis_more G p (f + 1)).1 x s s' h
      simp only [vis] at h
      cases hx : G[x]? with
      | none => rw [hx] at h; cases h
      | some d =>
        rw [hx] at h
        cases d with
        | hole => cases h
        | fin =>
          cases h
          refine ⟨hm, fun y hy => ?_, fun y ys _ e1 e2 => absurd e1 e2, fun y => ⟨.inl, fun h => h.elim id (fun h => absurd h.2.1 h.2.2)⟩, fun T hT => ⟨fun y W e1 e2 => absurd e1 e2, fun _ _ => hT x (by simp) [] ((Acc.fin hx []).2 rfl)⟩⟩
          simp only [List.mem_singleton] at hy
          subst hy
          unfold Done
          rw [hx]
        | tramp y =>
          have k := ih.1 y s s' h
          obtain ⟨ys, hys⟩ := hG.tramp x y hx
          refine ⟨hm, fun z hz => ?_, k.closed, k.wait, fun T hT => k.sound T (fun z hz W hW => ?_)⟩
          · simp only [List.mem_singleton] at hz
            subst hz
            have hd := k.done y (by simp)
            unfold Done at hd ⊢
            rw [hx]
            rw [hys] at hd
            exact hd
          · simp only [List.mem_singleton] at hz
            subst hz
            exact hT x (by simp) W ((Acc.tramp hx W).2 hW)
        | set nt N P nx =>
          simp only at h
          by_cases hp : s.last x = p
          · rw [if_pos hp] at h
            cases h
            refine ⟨hm, fun y hy => ?_, fun y ys _ e1 e2 => absurd e1 e2, fun y => ⟨.inl, fun h => h.elim id (fun h => absurd h.2.1 h.2.2)⟩, fun T hT => ⟨fun y W e1 e2 => absurd e1 e2, fun e1 e2 => absurd e1 e2⟩⟩
            simp only [List.mem_singleton] at hy
            subst hy
            unfold Done
            rw [hx]
            exact hp
          · rw [if_neg hp] at h
            cases h
            have hl : ∀ y, ((s.mark x p).push x).last y = if y = x then p else s.last y := fun y => rfl
            refine ⟨hm, fun y hy => ?_, fun y ys hy e1 e2 z hz => ?_, fun y => ?_, fun T hT => ⟨fun y W e1 e2 hA => ?_, fun e1 e2 => absurd e1 e2⟩⟩
            · simp only [List.mem_singleton] at hy
              subst hy
              unfold Done
              rw [hx]
              simp [hl]
            · by_cases e : y = x
              · subst e; rw [hx] at hy; cases hy
              · rw [hl, if_neg e] at e1; exact absurd e1 e2
            · rw [hl]
              simp only [St.push, St.mark, List.mem_append, List.mem_singleton]
              by_cases e : y = x
              · subst e
                simp only [or_true, true_iff]
                exact .inr ⟨⟨nt, N, P, nx, hx⟩, by simp, hp⟩
              · simp only [e, or_false, if_false]
                exact ⟨.inl, fun h => h.elim id (fun h => absurd h.2.1 h.2.2)⟩
            · by_cases e : y = x
              · subst e; exact hT y (by simp) W hA
              · rw [hl, if_neg e] at e1; exact absurd e1 e2
        | fork ys =>
          simp only at h
          by_cases hp : s.last x = p
          · rw [if_pos hp] at h
            cases h
            refine ⟨hm, fun y hy => ?_, fun y ys _ e1 e2 => absurd e1 e2, fun y => ⟨.inl, fun h => h.elim id (fun h => absurd h.2.1 h.2.2)⟩, fun T hT => ⟨fun y W e1 e2 => absurd e1 e2, fun e1 e2 => absurd e1 e2⟩⟩
            simp only [List.mem_singleton] at hy
            subst hy
            unfold Done
            rw [hx]
            exact hp
          · rw [if_neg hp] at h
            have k := ih.2 ys (s.mark x p) s' h
            have hl : ∀ y, (s.mark x p).last y = if y = x then p else s.last y := fun y => rfl
            have hlx : s'.last x = p := k.more.last x (by rw [hl, if_pos rfl])
            refine ⟨hm, fun y hy => ?_, fun y zs hy e1 e2 z hz => ?_, fun y => ?_, fun T hT => ?_⟩
            · simp only [List.mem_singleton] at hy
              subst hy
              unfold Done
              rw [hx]
              exact hlx
            · by_cases e : y = x
              · subst e
                rw [hx] at hy
                cases hy
                exact k.done z hz
              · exact k.closed y zs hy e1 (by rw [hl, if_neg e]; exact e2) z hz
            · rw [k.wait]
              by_cases e : y = x
              · subst e
                constructor
                · rintro (h1 | ⟨_, _, h3⟩)
                  · exact .inl h1
                  · rw [hl, if_pos rfl] at h3; exact absurd rfl h3
                · rintro (h1 | ⟨⟨_, _, _, _, h1⟩, _, _⟩)
                  · exact .inl h1
                  · rw [hx] at h1; cases h1
              · rw [hl, if_neg e]
                rfl
            · obtain ⟨a1, a2⟩ := k.sound T (fun z hz W hW => hT x (by simp) W ((Acc.fork hx W).2 ⟨z, hz, hW⟩))
              refine ⟨fun y W e1 e2 hA => ?_, a2⟩
              by_cases e : y = x
              · subst e; exact hT y (by simp) W hA
              · exact a1 y W e1 (by rw [hl, if_neg e]; exact e2) hA
    exact ⟨h1, lift (f + 1) h1⟩
/-- Nothing was gone on from at the place yet. -/
structure Fresh (G : List Nd) (p : Int) (s : St) : Prop where
  last : ∀ y, y < G.length → s.last y ≠ p
  wait : s.wait = []
  ended : s.ended ≠ p
theorem place_acc {G : List Nd} (hG : WF G) {p : Int} {X : List Nat} {s s' : St} (hf : Fresh G p s) (h : Seen G p X s s') (W : List Kd) :
    (∃ x, x ∈ X ∧ Acc G x W) ↔ (W = [] ∧ s'.ended = p) ∨ ∃ y, y ∈ s'.wait ∧ ∃ nt N P nx u V, G[y]? = some (.set nt N P nx) ∧ W = u :: V ∧ holdsF nt N P u.1 u.2 = true ∧ Acc G nx V := by
  have go : ∀ n y W, AccN G n y W → Done G p s' y → (W = [] ∧ s'.ended = p) ∨ ∃ y, y ∈ s'.wait ∧ ∃ nt N P nx u V, G[y]? = some (.set nt N P nx) ∧ W = u :: V ∧ holdsF nt N P u.1 u.2 = true ∧ Acc G nx V := by
    intro n y W hA
    induction hA with
    | fin n x hx => intro hd; unfold Done at hd; rw [hx] at hd; exact .inl ⟨rfl, hd⟩
    | set n x nt N P nx u w hx hh ha _ =>
      intro hd
      unfold Done at hd
      rw [hx] at hd
      exact .inr ⟨x, (h.wait x).2 (.inr ⟨⟨nt, N, P, nx, hx⟩, hd, hf.last x (List.getElem?_eq_some_iff.1 hx).1⟩), nt, N, P, nx, u, w, hx, rfl, hh, n, ha⟩
    | fork n x ys y w hx hy _ ih =>
      intro hd
      unfold Done at hd
      rw [hx] at hd
      exact ih (h.closed x ys hx hd (hf.last x (List.getElem?_eq_some_iff.1 hx).1) y hy)
    | tramp n x y w hx _ ih =>
      intro hd
      unfold Done at hd
      rw [hx] at hd
      obtain ⟨ys, hys⟩ := hG.tramp x y hx
      exact ih (by unfold Done; rw [hys]; exact hd)
  constructor
  · rintro ⟨x, hx, n, hA⟩
    exact go n x W hA (h.done x hx)
  · obtain ⟨a1, a2⟩ := h.sound (fun W => ∃ x, x ∈ X ∧ Acc G x W) (fun x hx W hW => ⟨x, hx, hW⟩)
    rintro (⟨rfl, he⟩ | ⟨y, hy, nt, N, P, nx, u, V, hg, rfl, hh, hA⟩)
    · exact a2 he hf.ended
    · rcases (h.wait y).1 hy with h1 | ⟨_, h2, h3⟩
      · rw [hf.wait] at h1; cases h1
      · exact a1 y (u :: V) h2 h3 ((Acc.set hg _).2 ⟨u, V, rfl, hh, hA⟩)
/-- The steps that waited are asked for the unit, and gone on from. -/
def takeF (G : List Nd) (p : Int) (u : Kd) : List Nat → St → Option St
  | [], s => some s
  | y :: ys, s => match G[y]? with
    | some (.set nt N P nx) => if holdsF nt N P u.1 u.2 = true then (match vis G p (2 * G.length + 2) nx s with | some s' => takeF G p u ys s' | none => none) else takeF G p u ys s
    | _ => none
/-- Where they go on. -/
def nexts (G : List Nd) (u : Kd) (ys : List Nat) : List Nat := ys.filterMap fun y => match (G[y]? : Option Nd) with
  | some (Nd.set nt N P nx) => if holdsF nt N P u.1 u.2 = true then some nx else none
  | _ => none
theorem takeF_eq {G : List Nd} (p : Int) (u : Kd) (ys : List Nat) (h : ∀ y, y ∈ ys → isSet G y) : ∀ s, takeF G p u ys s = visL G p (2 * G.length + 2) (nexts G u ys) s := by
  induction ys with
  | nil => intro s; simp [takeF, nexts, visL]
  | cons y ys ih =>
    intro s
    obtain ⟨nt, N, P, nx, hy⟩ := h y (by simp)
    have ih' := ih (fun z hz => h z (by simp [hz]))
    simp only [takeF, nexts, List.filterMap_cons, hy]
    by_cases hh : holdsF nt N P u.1 u.2 = true
    · simp only [hh, if_true, visL]
      cases vis G p (2 * G.length + 2) nx s with
      | none => rfl
      | some s1 => exact ih' s1
    · simp only [hh]
      exact ih' s
/-- The word's units, one by one. -/
def runF (G : List Nd) : Nat → List Kd → St → Option Bool
  | i, [], s => some (decide (s.ended = (i : Int)))
  | i, u :: w, s => if s.wait = [] then some false else match takeF G ((i : Int) + 1) u s.wait { s with wait := [] } with
    | some s' => runF G (i + 1) w s'
    | none => none
/-- Behind a place. -/
structure Behind (G : List Nd) (i : Nat) (s : St) (A : List Kd → Prop) : Prop where
  low : ∀ y, y < G.length → s.last y ≤ (i : Int)
  ended : s.ended ≤ (i : Int)
  sets : ∀ y, y ∈ s.wait → isSet G y
  acc : ∀ W, A W ↔ (W = [] ∧ s.ended = (i : Int)) ∨ ∃ y, y ∈ s.wait ∧ ∃ nt N P nx u V, G[y]? = some (.set nt N P nx) ∧ W = u :: V ∧ holdsF nt N P u.1 u.2 = true ∧ Acc G nx V
theorem visL_total {G : List Nd} (hG : WF G) (p : Int) (X : List Nat) (hX : ∀ x, x ∈ X → x < G.length) : ∀ s, ∃ s', visL G p (2 * G.length + 2) X s = some s' := by
  induction X with
  | nil => intro s; exact ⟨s, by simp [visL]⟩
  | cons x X ih =>
    intro s
    obtain ⟨s1, e1⟩ := vis_total hG p s x (hX x (by simp))
    obtain ⟨s2, e2⟩ := ih (fun z hz => hX z (by simp [hz])) s1
    exact ⟨s2, by simp only [visL, e1]; exact e2⟩
theorem behind_of {G : List Nd} (hG : WF G) {i : Nat} {X : List Nat} {s s' : St} (hl : ∀ y, y < G.length → s.last y < (i : Int)) (hw : s.wait = []) (he : s.ended < (i : Int)) (h : Seen G (i : Int) X s s') : Behind G i s' (fun W => ∃ x, x ∈ X ∧ Acc G x W) := by
  refine ⟨fun y hy => ?_, ?_, fun y hy => ?_, place_acc hG ⟨fun y hy => by have := hl y hy; omega, hw, by omega⟩ h⟩
  · by_cases e : s'.last y = (i : Int)
    · omega
    · have := h.more.old y e
      have := hl y hy
      omega
  · rcases h.more.was with e | e <;> omega
  · rcases (h.wait y).1 hy with h1 | h1
    · rw [hw] at h1; cases h1
    · exact h1.1
theorem nexts_mem {G : List Nd} {u : Kd} {ys : List Nat} {x : Nat} (h : x ∈ nexts G u ys) : ∃ y, y ∈ ys ∧ ∃ nt N P, G[y]? = some (.set nt N P x) ∧ holdsF nt N P u.1 u.2 = true := by
  unfold nexts at h
  obtain ⟨y, hy, e⟩ := List.mem_filterMap.1 h
  refine ⟨y, hy, ?_⟩
  split at e
  · rename_i nt N P nx hg
    split at e
    · rename_i hh
      cases e
      exact ⟨nt, N, P, hg, hh⟩
    · cases e
  · cases e
theorem mem_nexts {G : List Nd} {u : Kd} {ys : List Nat} {y nx : Nat} {nt : Bool} {N : List ByteArray} {P : List (Int × Int)} (hy : y ∈ ys) (hg : G[y]? = some (.set nt N P nx)) (hh : holdsF nt N P u.1 u.2 = true) : nx ∈ nexts G u ys := by
  unfold nexts
  exact List.mem_filterMap.2 ⟨y, hy, by rw [hg]; simp [hh]⟩
/-- A unit more. -/
theorem behind_step {G : List Nd} (hG : WF G) {i : Nat} {s : St} {A : List Kd → Prop} (h : Behind G i s A) (u : Kd) :
    ∃ s', takeF G ((i : Int) + 1) u s.wait { s with wait := [] } = some s' ∧ Behind G (i + 1) s' (fun W => A (u :: W)) := by
  have hX : ∀ x, x ∈ nexts G u s.wait → x < G.length := fun x hx => by
    obtain ⟨y, _, nt, N, P, hg, _⟩ := nexts_mem hx
    exact hG.set y nt N P x hg
  obtain ⟨s', e⟩ := visL_total hG ((i : Int) + 1) (nexts G u s.wait) hX { s with wait := [] }
  refine ⟨s', by rw [takeF_eq _ _ _ h.sets]; exact e, ?_⟩
  have hb := behind_of hG (X := nexts G u s.wait) (s := { s with wait := [] }) (i := i + 1) (fun y hy => by have := h.low y hy; show s.last y < _; omega) rfl (by have := h.ended; show s.ended < _; omega) ((vis_seen hG (((i + 1 : Nat)) : Int) _).2 _ _ _ (by rw [show (((i + 1 : Nat)) : Int) = (i : Int) + 1 by omega]; exact e))
  refine ⟨hb.low, hb.ended, hb.sets, fun W => ?_⟩
  rw [← hb.acc, h.acc]
  constructor
  · rintro (⟨h1, _⟩ | ⟨y, hy, nt, N, P, nx, v, V, hg, e1, hh, hA⟩)
    · cases h1
    · cases e1
      exact ⟨nx, mem_nexts hy hg hh, hA⟩
  · rintro ⟨x, hx, hA⟩
    obtain ⟨y, hy, nt, N, P, hg, hh⟩ := nexts_mem hx
    exact .inr ⟨y, hy, nt, N, P, x, u, W, hg, rfl, hh, hA⟩
theorem runF_acc {G : List Nd} (hG : WF G) : ∀ (w : List Kd) (i : Nat) (s : St) (A : List Kd → Prop), Behind G i s A → ∃ b, runF G i w s = some b ∧ (b = true ↔ A w) := by
  intro w
  induction w with
  | nil =>
    intro i s A h
    refine ⟨_, rfl, ?_⟩
    rw [h.acc, decide_eq_true_iff]
    constructor
    · exact fun e => .inl ⟨rfl, e⟩
    · rintro (⟨_, e⟩ | ⟨_, _, _, _, _, _, _, _, _, e, _⟩)
      · exact e
      · cases e
  | cons u w ih =>
    intro i s A h
    by_cases hw : s.wait = []
    · refine ⟨false, by simp [runF, hw], ?_⟩
      rw [h.acc]
      constructor
      · intro e; cases e
      · rintro (⟨e, _⟩ | ⟨y, hy, _⟩)
        · cases e
        · rw [hw] at hy; cases hy
    · obtain ⟨s', e, hb⟩ := behind_step hG h u
      obtain ⟨b, e2, hA⟩ := ih (i + 1) s' _ hb
      exact ⟨b, by simp only [runF, hw, if_false, e]; exact e2, hA⟩
end Go.Proofs.YthfnaalbgjeaeaaDoor
namespace Go.Proofs.YthfnaalbgjeaeaaDoor
open Go.RowKit Go.Shelf
theorem RiseP.neg {P : List (Int × Int)} (h : RiseP P) (p : Int) (hp : p = -1) : ptF P p = false := by
  subst hp
  rw [Bool.eq_false_iff]
  intro e
  unfold ptF at e
  obtain ⟨r, hr, e⟩ := List.any_eq_true.1 e
  obtain ⟨k, hk, rfl⟩ := List.getElem_of_mem hr
  simp only [Bool.and_eq_true, decide_eq_true_eq] at e
  have := (h.1 k hk).1
  omega
theorem holdsF_eq {P : List (Int × Int)} (h : RiseP P) (nt : Bool) (N : List ByteArray) (c : ByteArray) (p : Int) : holdsF nt N P c p = (nt != (nmF N c || ptF P p)) := by
  unfold holdsF
  by_cases hp : p = -1
  · rw [h.neg p hp]; simp
  · have : (p == -1) = false := by simpa using hp
    rw [this]; simp
/-- What is asked of the binary search of a set's names. -/
def NamesC (N : List ByteArray) : Prop := ∀ (a : Option Addr) (ca : Nat) (c : ByteArray) (w : World), SA w a N → Calls Tryd.prog 47 #[.slice a N.length ca, .string c] w fun e w' => (∃ q, e = .returned (.tuple #[.int .i64 q, .bool (nmF N c)])) ∧ Below w.heap.size w w'
theorem namesC_nil : NamesC [] := fun a ca c w _ => (bs_none a ca c w).mono (fun e w' h => ⟨⟨0, h.1⟩, by rw [h.2]; exact Below.refl _ _⟩)
set_option maxRecDepth 10000 in
set_option maxHeartbeats 1600000 in
theorem holdsSorted_any (nt : Bool) (N : List ByteArray) (P : List (Int × Int)) (a b : Option Addr) (ca cb : Nat) (c : ByteArray) (p : Int) (w : World) (hN : NamesC N) (hP : RiseP P) (hl : P.length ≤ 1000000000) (ha : SA w a N) (hb : RA w b P) :
    Calls Tryd.prog 38 #[.agg #[.bool nt, .slice a N.length ca, .slice b P.length cb], .agg #[.string c, .int .i64 p]] w fun e w' => e = .returned (.bool (holdsF nt N P c p)) ∧ Below w.heap.size w w' := by
  rw [holdsF_eq hP]
  obtain ⟨w0, hw0⟩ : ∃ w0, w0 = (w.alloc (.cells #[.bool nt, .slice a N.length ca, .slice b P.length cb] 27)).alloc (.cells #[.string c, .int .i64 p] 37) := ⟨_, rfl⟩
  have hB0 : Below w.heap.size w w0 := by rw [hw0]; exact ((Below.refl _ _).alloc (Nat.le_refl _) _).alloc (by simp) _
  have hX0 : w0.heap[w.heap.size]? = some (.cells #[.bool nt, .slice a N.length ca, .slice b P.length cb] 27 (0, 0)) := by
    rw [hw0]
    exact (Below.heap_alloc _ _ _ (by simp)).trans (heap_alloc_new w _)
  have hX1 : w0.heap[w.heap.size + 1]? = some (.cells #[.string c, .int .i64 p] 37 (0, 0)) := by
    rw [hw0]
    have h := heap_alloc_new (w.alloc (.cells #[.bool nt, .slice a N.length ca, .slice b P.length cb] 27)) (.cells #[.string c, .int .i64 p] 37)
    rw [show (w.alloc (.cells #[.bool nt, .slice a N.length ca, .slice b P.length cb] 27)).heap.size = w.heap.size + 1 by simp] at h
    exact h
  have HX : Hid (∀ W, Below w0.heap.size w0 W → W.cell? ⟨w.heap.size, 0, none⟩ = some (.bool nt) ∧ W.cell? ⟨w.heap.size, 1, none⟩ = some (.slice a N.length ca) ∧ W.cell? ⟨w.heap.size, 2, none⟩ = some (.slice b P.length cb) ∧ W.cell? ⟨w.heap.size + 1, 0, none⟩ = some (.string c) ∧ W.cell? ⟨w.heap.size + 1, 1, none⟩ = some (.int .i64 p)) := hid0 (fun W hW => by
    have h0 := (hW.block _ (Array.getElem?_eq_some_iff.1 hX0).1).trans hX0
    have h1 := (hW.block _ (Array.getElem?_eq_some_iff.1 hX1).1).trans hX1
    exact ⟨by rw [cell_of_row _ _ _ _ _ _ h0]; rfl, by rw [cell_of_row _ _ _ _ _ _ h0]; rfl, by rw [cell_of_row _ _ _ _ _ _ h0]; rfl, by rw [cell_of_row _ _ _ _ _ _ h1]; rfl, by rw [cell_of_row _ _ _ _ _ _ h1]; rfl⟩)
  obtain ⟨x0, x1, x2, x3, x4⟩ := HX.out w0 (Below.refl _ _)
  have HN := hid0 (hN a ca c w0 (ha.below hB0))
  have HS : Hid (∀ W, Below w0.heap.size w0 W → Calls Tryd.prog 48 #[.slice b P.length cb, .int .i64 p, .func (.func 49) #[] #[]] W fun e w' => (∃ q, e = .returned (.tuple #[.int .i64 q, .bool (ptF P p)])) ∧ Below W.heap.size W w') := hid0 (fun W hW => search_any P b cb p W hl ((hb.below hB0).below hW) hP)
  have HB0 := hid0 hB0
  have hfold := hw0.symm
  clear ha hb hw0 hX0 hX1 hB0 hN
  generalize nmF N c = t at *
  generalize ptF P p = u at *
  cases t
  all_goals
    go_enter Tryd.func38, Tryd.ntmps38
    go_wp2_with (first
      | (go_at_call 47; refine HN.out.mono ?_; rintro e w1 ⟨⟨q1, rfl⟩, hb1⟩; obtain ⟨y0, y1, y2, y3, y4⟩ := HX.out w1 hb1; have HB1 := hid0 hb1; clear hb1)
      | (go_at_call 48; refine (HS.out _ HB1.out).mono ?_; rintro e w2 ⟨⟨q2, rfl⟩, hb2⟩; have HB2 := hid0 (Below.later HB1.out hb2); clear hb2; obtain ⟨z0, z1, z2, z3, z4⟩ := HX.out w2 HB2.out)
      | fail)
    go_ret
    exact ⟨by cases nt <;> cases u <;> rfl, Below.later HB0.out HB2.out⟩
end Go.Proofs.YthfnaalbgjeaeaaDoor
namespace Go.Proofs.YthfnaalbgjeaeaaDoor
open Go.RowKit Go.Shelf
/-- What is asked of each set of the nodes. -/
def SetsOk (G : List Nd) : Prop := ∀ (i : Nat) (nt : Bool) (N : List ByteArray) (P : List (Int × Int)) (nx : Nat), G[i]? = some (Nd.set nt N P nx) → NamesC N ∧ RiseP P
theorem Kp.drew {base : Nat} {w w' : World} (h : Kp base w w') : Kp base w w'.drew := ⟨h.bel.drew, h.rows⟩
theorem own_none {W : World} {lo t s n : Nat} {v : Value} {xs : List Value} (h : W.ownsRow lo t s v n xs) : ∃ a c, v = .slice a n c ∧ W.ownsRow lo t s (.slice a 0 c) 0 [] := by
  rcases h.2 with ⟨rfl, rfl⟩ | ⟨g, cap, cur, rfl, h1, h2, h3, h4, h5, _⟩
  · exact ⟨none, 0, rfl, by simp, .inl ⟨rfl, rfl⟩⟩
  · exact ⟨_, cap, rfl, by simp, .inr ⟨g, cap, cur, rfl, h1, h2, Nat.zero_le _, h4, h5, by simp⟩⟩
/-- What is waited for is what waits; nothing waits. -/
theorem SIn.swap {w : World} {base R : Nat} {Y : Lay} {G : List Nd} {waited : List Nat} {u : Value} {s : St} (h : SIn w base R Y G waited u s) : ∃ a n c b m d, w.heap[R]? = some (.cells #[.slice a n c, .slice b m d, .int .i64 s.ended] 61 (0, 0)) ∧ n = s.wait.length ∧ (b = none → m = 0 ∧ d = 0) ∧ m ≤ d ∧
    ∀ w', Kp base w w' → (∀ (b : Nat) c z, w.heap[b]? = some (.cells c 3 z) → w'.heap[b]? = some (.cells c 3 z)) → (∀ (g : Nat) c z, w.heap[g]? = some (.cells c 71 z) → w'.heap[g]? = some (.cells c 71 z)) → w'.heap[R]? = some (.cells #[.slice b 0 d, .slice a n c, .int .i64 s.ended] 61 (0, 0)) →
      SIn w' base R Y G s.wait (.slice a n c) { s with wait := [] } := by
  obtain ⟨v, hR, hv, hu, hd⟩ := h.r.is
  have hud : ∀ b m d, u = .slice b m d → (b = none → m = 0 ∧ d = 0) ∧ m ≤ d := fun b m d e => by
    rcases hu.2 with ⟨rfl, _⟩ | ⟨g, cap, cur, rfl, _, _, h3, _⟩
    · cases e; exact ⟨fun _ => ⟨rfl, rfl⟩, Nat.le_refl _⟩
    · cases e; exact ⟨fun e => (by cases e), h3⟩
  obtain ⟨a, c, rfl, _⟩ := own_none hv
  obtain ⟨b, d, rfl, hu0⟩ := own_none hu
  refine ⟨a, _, c, b, _, d, hR, rfl, (hud _ _ _ rfl).1, (hud _ _ _ rfl).2, fun w' k hl hst hR' => ⟨h.g.kp k (fun i e hi he => hl _ _ _ ((h.g.node i e hi).lastRow he).2), ⟨⟨_, hR', ?_, ?_, ?_⟩, h.r.low⟩⟩⟩
  · exact own_blk hu0 (fun g hg => by obtain ⟨c', e, _⟩ := own_type hu0 g hg; rw [hst g _ _ e, e])
  · exact own_blk hv (fun g hg => by obtain ⟨c', e, _⟩ := own_type hv g hg; rw [hst g _ _ e, e])
  · intro g e1 e2
    have e3 : (Value.slice b waited.length d).ownBlock = some g := by
      cases b with
      | none => cases e1
      | some b => exact e1
    exact hd g e2 e3
theorem flat_at {f : Nat → List Value} : ∀ (ys : List Nat), (∀ y, y ∈ ys → (f y).length = 4) → ∀ (k j : Nat) (h : k < ys.length), j < 4 → (ys.flatMap f)[k * 4 + j]? = (f ys[k])[j]? := by
  intro ys
  induction ys with
  | nil => intro _ k j h; simp at h
  | cons y ys ih =>
    intro hl k j h hj
    rw [List.flatMap_cons]
    have h4 := hl y (by simp)
    cases k with
    | zero => rw [List.getElem?_append_left (by omega)]; simp
    | succ k =>
      rw [List.getElem?_append_right (by omega), h4, show (k + 1) * 4 + j - 4 = k * 4 + j by omega, ih (fun z hz => hl z (by simp [hz])) k j (by simpa using h) hj]
      simp
/-- The step that waited at a place of the list. -/
theorem SIn.step {w : World} {base R : Nat} {Y : Lay} {G : List Nd} {waited : List Nat} {a : Option Addr} {c : Nat} {s : St} (h : SIn w base R Y G waited (.slice a waited.length c) s) (hset : ∀ y, y ∈ waited → isSet G y) (k : Nat) (hk : k < waited.length) :
    ∃ g nt N P nx, a = some ⟨g, 0, none⟩ ∧ G[waited[k]]? = some (.set nt N P nx) ∧ w.cell? ⟨g, k * 4, none⟩ = some (.bool nt) ∧ w.cell? ⟨g, k * 4 + 1, none⟩ = some (Y.nm waited[k]) ∧ w.cell? ⟨g, k * 4 + 2, none⟩ = some (Y.pt waited[k]) ∧ w.cell? ⟨g, k * 4 + 3, none⟩ = some (Y.val nx) := by
  obtain ⟨v, hR, hv, hu, hd⟩ := h.r.is
  obtain ⟨nt, N, P, nx, hg⟩ := hset waited[k] (List.getElem_mem hk)
  have h4 : ∀ y, y ∈ waited → (stepC Y G y).length = 4 := fun y hy => by
    obtain ⟨_, _, _, _, e⟩ := hset y hy
    unfold stepC
    rw [e]; rfl
  have hst : stepC Y G waited[k] = [.bool nt, Y.nm waited[k], Y.pt waited[k], Y.val nx] := by unfold stepC; rw [hg]
  have hat : ∀ j, j < 4 → (waited.flatMap (stepC Y G))[k * 4 + j]? = [.bool nt, Y.nm waited[k], Y.pt waited[k], Y.val nx][j]? := fun j hj => by rw [flat_at waited h4 k j hk hj, hst]
  rcases hu.2 with ⟨_, hn⟩ | ⟨g, cap, cur, hs, _⟩
  · omega
  · cases hs
    have hc : ∀ j, j < 4 → w.cell? ⟨g, k * 4 + j, none⟩ = (waited.flatMap (stepC Y G))[k * 4 + j]? := fun j hj => by
      have := World.ownsRow.cellAt hu (k * 4 + j) (by omega)
      exact this
    refine ⟨g, nt, N, P, nx, rfl, hg, ?_, ?_, ?_, ?_⟩
    · have := hc 0 (by omega); rw [hat 0 (by omega)] at this; exact this
    · rw [hc 1 (by omega), hat 1 (by omega)]; rfl
    · rw [hc 2 (by omega), hat 2 (by omega)]; rfl
    · rw [hc 3 (by omega), hat 3 (by omega)]; rfl
theorem SIn.later {w w' : World} {base R : Nat} {Y : Lay} {G : List Nd} {waited : List Nat} {u : Value} {s : St} (h : SIn w base R Y G waited u s) (hb : base ≤ w.heap.size) (k : Below w.heap.size w w') : SIn w' base R Y G waited u s := by
  have kb : ∀ {b : Nat} {o : Obj}, w.heap[b]? = some o → w'.heap[b]? = some o := fun {b} {_} e => (k.block b (lt_of_row e)).trans e
  obtain ⟨v, hR, hv, hu, hd⟩ := h.r.is
  exact ⟨h.g.kp (Kp.ofBelow k hb) (fun i e hi he => kb ((h.g.node i e hi).lastRow he).2), ⟨⟨v, kb hR, own_blk hv (fun g hg => by obtain ⟨c', e, _⟩ := own_type hv g hg; rw [kb e, e]), own_blk hu (fun g hg => by obtain ⟨c', e, _⟩ := own_type hu g hg; rw [kb e, e]), hd⟩, h.r.low⟩⟩
set_option maxRecDepth 10000 in
set_option maxHeartbeats 3200000 in
theorem take_any {base R : Nat} {Y : Lay} {G : List Nd} {waited : List Nat} {u : Value} (hG : WF G) (hSet : SetsOk G) (hf6 : ∀ (x : Nat) (ys : List Nat), G[x]? = some (Nd.fork ys) → ys.length ≤ 1000000) (c : ByteArray) (p pl : Int) (s s' : St) (w : World) (hset : ∀ y, y ∈ s.wait → isSet G y)
    (ht : takeF G pl (c, p) s.wait { s with wait := [] } = some s') (hw8 : s'.wait.length ≤ 1000000) (hw9 : s.wait.length ≤ 1000000) (hbase : base ≤ w.heap.size) (hs : SIn w base R Y G waited u s) :
    Calls Tryd.prog 27 #[.pointer (some ⟨R, 0, none⟩), .agg #[.string c, .int .i64 p], .int .i64 pl] w fun e w' => e = .returned (.tuple #[]) ∧ (∃ u', SIn w' base R Y G s.wait u' s') ∧ Kp base w w' := by
  obtain ⟨a, n, ca, b, m, d, hR, hn, hbn, hmd, hsw⟩ := hs.swap
  obtain ⟨w0, hw0⟩ : ∃ w0, w0 = w.alloc (.cells #[.string c, .int .i64 p] 37) := ⟨_, rfl⟩
  have hB0 : Below w.heap.size w w0 := by rw [hw0]; exact (Below.refl _ _).alloc (Nat.le_refl _) _
  have hX0 : w0.heap[w.heap.size]? = some (.cells #[.string c, .int .i64 p] 37 (0, 0)) := by rw [hw0]; exact heap_alloc_new w _
  have hR0 : w0.heap[R]? = some (.cells #[.slice a n ca, .slice b m d, .int .i64 s.ended] 61 (0, 0)) := (hB0.block R (lt_of_row hR)).trans hR
  have c0 : w0.cell? ⟨R, 0, none⟩ = some (.slice a n ca) := by rw [cell_of_row _ _ _ _ _ _ hR0]; rfl
  have c1 : w0.cell? ⟨R, 1, none⟩ = some (.slice b m d) := by rw [cell_of_row _ _ _ _ _ _ hR0]; rfl
  have f0 : w0.frozen? ⟨R, 0, none⟩ = false := frozen_of_row _ _ _ _ _ hR0
  have f1 : w0.frozen? ⟨R, 1, none⟩ = false := frozen_of_row _ _ _ _ _ hR0
  have hd0 : (0 : Int) ≤ (d : Int) := by omega
  have hfold := hw0.symm
  have HSW := hid0 hsw
  clear hw0 hsw
  go_enter Tryd.func27, Tryd.ntmps27
  go_wp2
  go_region
  have hR1 := heap_setCell_same w0 R 0 _ _ (.slice b 0 d) hR0
  have hR2 := heap_setCell_same (w0.setCell ⟨R, 0, none⟩ (.slice b 0 d)) R 1 _ _ (.slice a n ca) hR1
  have hlow := hs.r.low
  have k1 : Kp base w ((w0.setCell ⟨R, 0, none⟩ (.slice b 0 d)).setCell ⟨R, 1, none⟩ (.slice a n ca)).drew :=
    (((Kp.ofBelow hB0 hbase).trans (kp_setR hR0 hlow 0 _)).trans (kp_setR hR1 hlow 1 _)).drew
  have hS1 := HSW.out ((w0.setCell ⟨R, 0, none⟩ (.slice b 0 d)).setCell ⟨R, 1, none⟩ (.slice a n ca)).drew k1
    (fun g c z e => row_setR hR1 1 _ (row_setR hR0 0 _ ((hB0.block g (lt_of_row e)).trans e) (by decide)) (by decide)) (fun g c z e => row_setR hR1 1 _ (row_setR hR0 0 _ ((hB0.block g (lt_of_row e)).trans e) (by decide)) (by decide)) hR2
  have hX1 : ((w0.setCell ⟨R, 0, none⟩ (.slice b 0 d)).setCell ⟨R, 1, none⟩ (.slice a n ca)).drew.heap[w.heap.size]? = some (.cells #[.string c, .int .i64 p] 37 (0, 0)) := row_setR hR1 1 _ (row_setR hR0 0 _ hX0 (by decide)) (by decide)
  have c2 : ((w0.setCell ⟨R, 0, none⟩ (.slice b 0 d)).setCell ⟨R, 1, none⟩ (.slice a n ca)).drew.cell? ⟨R, 1, none⟩ = some (.slice a n ca) := by
    have h := cell_of_row _ R 1 _ _ _ hR2
    exact h.trans rfl
  subst hn
  generalize ((w0.setCell ⟨R, 0, none⟩ (.slice b 0 d)).setCell ⟨R, 1, none⟩ (.slice a s.wait.length ca)).drew = w1 at *
  have HT := hid0 ht
  have HS1 := hid0 hS1
  have HX1 := hid0 hX1
  have HK1 := hid0 k1
  have HSO := hid0 hSet
  have HWF := hid0 hG
  have HST := hid0 hset
  have HF6 := hid0 hf6
  clear ht hS1 hX1 k1 hSet hG hset hf6 hR1 hR2 hR0 hX0 hB0 c0 c1 f0 f1 hs hfold HSW hR
  go_wp2
  go_loopw [7, 28] (fun _ i wr => ∃ (k : Nat) (t : St), k ≤ s.wait.length ∧ i = .int .i64 (k : Int) ∧ Hid (takeF G pl (c, p) (s.wait.drop k) t = some s') ∧ Hid (SIn wr base R Y G s.wait (.slice a s.wait.length ca) t) ∧ Hid (Kp base w1 wr)) (fun _ i _ => s.wait.length - (intOf i).toNat)
  case atStart => exact ⟨0, _, Nat.zero_le _, rfl, HT, HS1, hid0 (Kp.refl _ _)⟩
  case round =>
    clear HT HS1
    obtain ⟨k, t, hk, rfl, HT, HS, HK⟩ := hrel
    by_cases hlt : k < s.wait.length
    · have hkI : (k : Int) < (s.wait.length : Int) := by omega
      have hkI0 : (0 : Int) ≤ (k : Int) := by omega
      obtain ⟨g, nt, N, P, nx, rfl, hg, d0, d1, d2, d3⟩ := HS.out.step HST.out k hlt
      obtain ⟨hNC, hRP⟩ := HSO.out _ _ _ _ _ hg
      obtain ⟨⟨a1, ca1, a2, ca2, en, ep, hsq, hrq⟩, lN, lP⟩ := HS.out.g.sets _ _ _ _ _ hg
      rw [en] at d1
      rw [ep] at d2
      have hnx := HWF.out.set _ _ _ _ _ hg
      obtain ⟨fn, fx, fy, hfn⟩ := (HS.out.g.node nx _ (List.getElem?_eq_getElem hnx)).func
      have hsz : base ≤ wr.heap.size := Nat.le_trans hbase (Nat.le_trans HK1.out.bel.size HK.out.bel.size)
      have ht1 := HT.out
      rw [List.drop_eq_getElem_cons hlt, takeF, hg] at ht1
      simp only at ht1
      have HSQ := hid0 hsq.sa
      have HRQ := hid0 hrq.ra
      have HNC := hid0 hNC
      have HRP := hid0 hRP
      have HSt := hid0 HS.out
      rw [hfn] at d3
      obtain ⟨wA, hwA⟩ : ∃ wA, wA = wr.alloc (.cells #[.bool nt, .slice a1 N.length ca1, .slice a2 P.length ca2, .func fn fx fy] 71) := ⟨_, rfl⟩
      have hBA : Below wr.heap.size wr wA := by rw [hwA]; exact (Below.refl _ _).alloc (Nat.le_refl _) _
      have hsA : wA.heap.size = wr.heap.size + 1 := by rw [hwA]; simp
      have hYA : wA.heap[wr.heap.size]? = some (.cells #[.bool nt, .slice a1 N.length ca1, .slice a2 P.length ca2, .func fn fx fy] 71 (0, 0)) := by rw [hwA]; exact heap_alloc_new wr _
      have hXA : wA.heap[w.heap.size]? = some (.cells #[.string c, .int .i64 p] 37 (0, 0)) := by
        have h := HK.out.rows _ _ _ _ HX1.out (by decide) (by decide) (by decide)
        exact (hBA.block _ (lt_of_row h)).trans h
      have y0 : wA.cell? ⟨wr.heap.size, 0, none⟩ = some (.bool nt) := by rw [cell_of_row _ _ _ _ _ _ hYA]; rfl
      have y1 : wA.cell? ⟨wr.heap.size, 1, none⟩ = some (.slice a1 N.length ca1) := by rw [cell_of_row _ _ _ _ _ _ hYA]; rfl
      have y2 : wA.cell? ⟨wr.heap.size, 2, none⟩ = some (.slice a2 P.length ca2) := by rw [cell_of_row _ _ _ _ _ _ hYA]; rfl
      have x0 : wA.cell? ⟨w.heap.size, 0, none⟩ = some (.string c) := by rw [cell_of_row _ _ _ _ _ _ hXA]; rfl
      have x1 : wA.cell? ⟨w.heap.size, 1, none⟩ = some (.int .i64 p) := by rw [cell_of_row _ _ _ _ _ _ hXA]; rfl
      have HYW : Hid (∀ W, Below wA.heap.size wA W → W.cell? ⟨wr.heap.size, 3, none⟩ = some (.func fn fx fy)) := hid0 (fun W hW => by rw [cell_of_row _ _ _ _ _ _ ((hW.block _ (by omega)).trans hYA)]; rfl)
      have HH := hid0 (holdsSorted_any nt N P a1 a2 ca1 ca2 c p wA HNC.out HRP.out lP (HSQ.out.below hBA) (HRQ.out.below hBA))
      have HBA := hid0 hBA
      have HSA := hid0 hsA
      have hfA := hwA.symm
      clear hsq hrq hNC hRP hwA hBA hYA hXA HSQ HRQ
      cases hho : holdsF nt N P c p with
      | false =>
        rw [hho] at HH ht1
        rw [if_neg (by decide)] at ht1
        have HT2 := hid0 ht1
        clear ht1 hho
        go_wp2_with (go_at_call 38; refine HH.out.mono ?_; rintro e w2 ⟨rfl, hb2⟩; have HB2 := hid0 (Below.later HBA.out hb2); clear hb2)
        go_roundw
        case rel => exact ⟨k + 1, t, by omega, by go_num, HT2, hid0 (HSt.out.later hsz HB2.out), hid0 (HK.out.trans (Kp.ofBelow HB2.out hsz))⟩
        case measure => simp [intOf]; omega
      | true =>
        rw [hho] at HH ht1
        rw [if_pos rfl] at ht1
        cases hvv : vis G pl (2 * G.length + 2) nx t with
        | none => rw [hvv] at ht1; cases ht1
        | some t2 =>
          rw [hvv] at ht1
          have HT2 : Hid (takeF G pl (c, p) (s.wait.drop (k + 1)) t2 = some s') := hid0 ht1
          have hwl : t2.wait.length ≤ 1000000 := by
            have h := ht1
            simp only at h
            rw [takeF_eq pl (c, p) _ (fun y hy => HST.out y (List.mem_of_mem_drop hy))] at h
            exact Nat.le_trans (wait_le h) hw8
          have HC : Hid (∀ W, Below wr.heap.size wr W → CallV (.func fn fx fy) pl W (Vp base R Y G s.wait (.slice (some ⟨g, 0, none⟩) s.wait.length ca) W t2)) := hid0 (fun W hW => by
            rw [← hfn]
            exact visit_any HWF.out HF6.out pl _ nx t t2 W hvv hwl (HSt.out.later hsz hW))
          clear ht1 hvv hho
          have hsh : (∃ b', Value.func fn fx fy = finV b') ∨ (∃ l o, Value.func fn fx fy = onceV l o) ∨ (∃ b', Value.func fn fx fy = trampV b') := by
            rcases HC.out wr (Below.refl _ _) with ⟨b', e, _⟩ | ⟨l, o, e, _⟩ | ⟨b', e, _⟩
            · exact .inl ⟨b', e⟩
            · exact .inr (.inl ⟨l, o, e⟩)
            · exact .inr (.inr ⟨b', e⟩)
          rcases hsh with ⟨b', e⟩ | ⟨l, o, e⟩ | ⟨b', e⟩
          · unfold finV ptr at e
            cases e
            have HC2 : Hid (∀ W, Below wr.heap.size wr W → Calls Tryd.prog 26 #[.int .i64 pl, .pointer (some ⟨b', 0, none⟩)] W (Vp base R Y G s.wait (.slice (some ⟨g, 0, none⟩) s.wait.length ca) W t2)) := hid0 (fun W hW => by
              rcases HC.out W hW with ⟨_, e, h⟩ | ⟨_, _, e, _⟩ | ⟨_, e, _⟩
              · cases e; exact h
              · cases e
              · cases e)
            clear HC
            go_wp2_with (first
              | (go_at_call 38; refine HH.out.mono ?_; rintro e w2 ⟨rfl, hb2⟩; have y3 := HYW.out w2 hb2; have HB2 := hid0 (Below.later HBA.out hb2); clear hb2)
              | (go_at_call 26; refine (HC2.out w2 HB2.out).mono ?_; rintro e w3 ⟨rfl, hs3, hk3⟩; have HS3 := hid0 hs3; have HK3 := hid0 ((HK.out.trans (Kp.ofBelow HB2.out hsz)).trans hk3); clear hs3 hk3)
              | fail)
            go_roundw
            case rel => exact ⟨k + 1, t2, by omega, by go_num, HT2, HS3, HK3⟩
            case measure => simp [intOf]; omega
          · unfold onceV ptr at e
            cases e
            have HC2 : Hid (∀ W, Below wr.heap.size wr W → Calls Tryd.prog 43 #[.int .i64 pl, .pointer (some ⟨l, 0, none⟩), .pointer (some ⟨o, 0, none⟩)] W (Vp base R Y G s.wait (.slice (some ⟨g, 0, none⟩) s.wait.length ca) W t2)) := hid0 (fun W hW => by
              rcases HC.out W hW with ⟨_, e, _⟩ | ⟨_, _, e, h⟩ | ⟨_, e, _⟩
              · cases e
              · cases e; exact h
              · cases e)
            clear HC
            go_wp2_with (first
              | (go_at_call 38; refine HH.out.mono ?_; rintro e w2 ⟨rfl, hb2⟩; have y3 := HYW.out w2 hb2; have HB2 := hid0 (Below.later HBA.out hb2); clear hb2)
              | (go_at_call 43; refine (HC2.out w2 HB2.out).mono ?_; rintro e w3 ⟨rfl, hs3, hk3⟩; have HS3 := hid0 hs3; have HK3 := hid0 ((HK.out.trans (Kp.ofBelow HB2.out hsz)).trans hk3); clear hs3 hk3)
              | fail)
            go_roundw
            case rel => exact ⟨k + 1, t2, by omega, by go_num, HT2, HS3, HK3⟩
            case measure => simp [intOf]; omega
          · unfold trampV ptr at e
            cases e
            have HC2 : Hid (∀ W, Below wr.heap.size wr W → Calls Tryd.prog 46 #[.int .i64 pl, .pointer (some ⟨b', 0, none⟩)] W (Vp base R Y G s.wait (.slice (some ⟨g, 0, none⟩) s.wait.length ca) W t2)) := hid0 (fun W hW => by
              rcases HC.out W hW with ⟨_, e, _⟩ | ⟨_, _, e, _⟩ | ⟨_, e, h⟩
              · cases e
              · cases e
              · cases e; exact h)
            clear HC
            go_wp2_with (first
              | (go_at_call 38; refine HH.out.mono ?_; rintro e w2 ⟨rfl, hb2⟩; have y3 := HYW.out w2 hb2; have HB2 := hid0 (Below.later HBA.out hb2); clear hb2)
              | (go_at_call 46; refine (HC2.out w2 HB2.out).mono ?_; rintro e w3 ⟨rfl, hs3, hk3⟩; have HS3 := hid0 hs3; have HK3 := hid0 ((HK.out.trans (Kp.ofBelow HB2.out hsz)).trans hk3); clear hs3 hk3)
              | fail)
            go_roundw
            case rel => exact ⟨k + 1, t2, by omega, by go_num, HT2, HS3, HK3⟩
            case measure => simp [intOf]; omega
    · have hkI : ¬ (k : Int) < (s.wait.length : Int) := by omega
      have ht1 := HT.out
      rw [List.drop_of_length_le (by omega), takeF] at ht1
      cases ht1
      go_wp2
      go_end0
      exact ⟨rfl, ⟨_, HS.out⟩, HK1.out.trans HK.out⟩
end Go.Proofs.YthfnaalbgjeaeaaDoor
namespace Go.Proofs.YthfnaalbgjeaeaaDoor
open Go.RowKit Go.Shelf
/-- How many nodes an expression has. -/
def Ex.size : Ex → Nat
  | .mk _ _ _ _ L => 1 + sizes L
where sizes : List Ex → Nat
  | [] => 0
  | e :: L => e.size + sizes L
theorem Ex.size_mk (k : Int) (nt : Bool) (N : List ByteArray) (P : List (Int × Int)) (L : List Ex) : (Ex.mk k nt N P L).size = 1 + Ex.size.sizes L := by rw [Ex.size]
/-- An expression that ways can be made of. -/
inductive Good : Ex → Prop
  | none (nt : Bool) (N : List ByteArray) (P : List (Int × Int)) (L : List Ex) : Good (.mk 1 nt N P L)
  | set (nt : Bool) (N : List ByteArray) (P : List (Int × Int)) (L : List Ex) : NamesC N → RiseP P → Good (.mk 2 nt N P L)
  | seq (nt : Bool) (N : List ByteArray) (P : List (Int × Int)) (L : List Ex) : L.length ≤ 1000000 → (∀ e, e ∈ L → Good e) → Good (.mk 3 nt N P L)
  | alt (nt : Bool) (N : List ByteArray) (P : List (Int × Int)) (L : List Ex) : L.length ≤ 1000000 → (∀ e, e ∈ L → Good e) → Good (.mk 4 nt N P L)
  | star (nt : Bool) (N : List ByteArray) (P : List (Int × Int)) (e : Ex) : Good e → Good (.mk 5 nt N P [e])
  | plus (nt : Bool) (N : List ByteArray) (P : List (Int × Int)) (e : Ex) : Good e → Good (.mk 6 nt N P [e])
  | opt (nt : Bool) (N : List ByteArray) (P : List (Int × Int)) (e : Ex) : Good e → Good (.mk 7 nt N P [e])
/-- What holds of a node whatever its place. -/
def NdOk (G : List Nd) (n : Nat) : Nd → Prop
  | .fin => True
  | .set _ N P nx => nx < n ∧ NamesC N ∧ RiseP P
  | .fork ys => ys.length ≤ 1000000 ∧ ∀ y, y ∈ ys → y < n
  | .tramp y => ∃ ys, G[y]? = some (.fork ys)
  | .hole => True
/-- Nodes in memory that none was gone on from. -/
structure Bd (w : World) (base R : Nat) (Y : Lay) (F : Nat → Nat → Prop) (G : List Nd) : Prop where
  g : GIn w base R Y F G (fun _ => -1)
  ok : ∀ (i : Nat) (d : Nd), G[i]? = some d → NdOk G G.length d
structure Ext (Y : Lay) (G : List Nd) (Y' : Lay) (G' : List Nd) : Prop where
  len : G.length ≤ G'.length
  nodes : ∀ (i : Nat), i < G.length → G'[i]? = G[i]?
  val : ∀ (i : Nat), i < G.length → Y'.val i = Y.val i
theorem Ext.refl (Y : Lay) (G : List Nd) : Ext Y G Y G := ⟨Nat.le_refl _, fun _ _ => rfl, fun _ _ => rfl⟩
theorem Ext.trans {Y Y' Y'' : Lay} {G G' G'' : List Nd} (h : Ext Y G Y' G') (k : Ext Y' G' Y'' G'') : Ext Y G Y'' G'' :=
  ⟨Nat.le_trans h.len k.len, fun i hi => (k.nodes i (Nat.lt_of_lt_of_le hi h.len)).trans (h.nodes i hi), fun i hi => (k.val i (Nat.lt_of_lt_of_le hi h.len)).trans (h.val i hi)⟩
theorem Ext.built {Y Y' : Lay} {G G' : List Nd} (h : Ext Y G Y' G') {e : Ex} {nx x : Nat} (hb : Built G e nx x) : Built G' e nx x :=
  Built.more (fun i _ hi _ => (h.nodes i (List.getElem?_eq_some_iff.1 hi).1).trans hi) hb
/-- A node stays where other nodes are told apart. -/
theorem NodeIn.lay {w : World} {base R : Nat} {Y Y' : Lay} {F : Nat → Prop} {i : Nat} {l : Int} {d : Nd} {G : List Nd} (h : NodeIn w base R Y F i l d) (ok : NdOk G G.length d) (hi : i < G.length)
    (hv : ∀ j, j < G.length → Y'.val j = Y.val j) (h1 : Y'.last i = Y.last i) (h2 : Y'.nm i = Y.nm i) (h3 : Y'.pt i = Y.pt i) : NodeIn w base R Y' F i l d := by
  cases h with
  | fin h => exact .fin ((hv i hi).trans h)
  | set nt N P nx o r e n k z e1 e2 e3 e4 e5 e6 e7 hF =>
    refine .set nt N P nx o r e n k z ?_ ?_ ?_ e4 e5 ?_ ?_ hF
    · rw [hv i hi, h1]; exact e1
    · rw [h1]; exact e2
    · rw [h1]; exact e3
    · rw [h2, h3]; exact e6
    · rw [hv nx ok.1]; exact e7
  | fork ys o b v e1 e2 e3 e4 e5 e6 hF =>
    refine .fork ys o b v ?_ ?_ ?_ e4 e5 ?_ hF
    · rw [hv i hi, h1]; exact e1
    · rw [h1]; exact e2
    · rw [h1]; exact e3
    · have : ys.map Y'.val = ys.map Y.val := List.map_congr_left (fun y hy => hv y (ok.2 y hy))
      rw [this]; exact e6
  | tramp y b e1 e2 e3 hF =>
    obtain ⟨zs, hz⟩ := ok
    refine .tramp y b ((hv i hi).trans e1) e2 ?_ hF
    rw [hv y (List.getElem?_eq_some_iff.1 hz).1]; exact e3
  | hole b e1 e2 e3 hF => exact .hole b ((hv i hi).trans e1) e2 e3 hF
def Lay.put (Y : Lay) (i : Nat) (v : Value) (l : Nat) (n p : Value) : Lay := ⟨fun j => if j = i then v else Y.val j, fun j => if j = i then l else Y.last j, fun j => if j = i then n else Y.nm j, fun j => if j = i then p else Y.pt j⟩
theorem NdOk.more {G G' : List Nd} {d : Nd} (h : NdOk G G.length d) (hl : G.length ≤ G'.length) (hk : ∀ (y : Nat) (ys : List Nat), G[y]? = some (.fork ys) → G'[y]? = some (.fork ys)) : NdOk G' G'.length d := by
  cases d with
  | fin => trivial
  | set nt N P nx => exact ⟨Nat.lt_of_lt_of_le h.1 hl, h.2⟩
  | fork ys => exact ⟨h.1, fun y hy => Nat.lt_of_lt_of_le (h.2 y hy) hl⟩
  | tramp y => obtain ⟨ys, e⟩ := h; exact ⟨ys, hk y ys e⟩
  | hole => trivial
theorem Bd.mono {w : World} {base R : Nat} {Y : Lay} {F F' : Nat → Nat → Prop} {G : List Nd} (h : Bd w base R Y F G) (hm : ∀ i b, i < G.length → b < w.heap.size → F i b → F' i b) : Bd w base R Y F' G :=
  ⟨⟨fun i d hi => (h.g.node i d hi).mono (fun b => hm i b (List.getElem?_eq_some_iff.1 hi).1), h.g.inj, h.g.sets⟩, h.ok⟩
theorem Bd.later {w w' : World} {base R : Nat} {Y : Lay} {F : Nat → Nat → Prop} {G : List Nd} (h : Bd w base R Y F G) (hb : base ≤ w.heap.size) (k : Below w.heap.size w w') : Bd w' base R Y F G :=
  ⟨h.g.kp (Kp.ofBelow k hb) (fun i d hi hd => by
    have hr := ((h.g.node i d hi).lastRow hd).2
    exact (k.block _ (lt_of_row hr)).trans hr), h.ok⟩
/-- A node more. -/
theorem Bd.add {w w' : World} {base R : Nat} {Y : Lay} {F : Nat → Nat → Prop} {G : List Nd} (h : Bd w base R Y F G) (hb : base ≤ w.heap.size) (k : Below w.heap.size w w') (d : Nd) (v : Value) (l : Nat) (n p : Value)
    (hn : NodeIn w' base R (Y.put G.length v l n p) (F G.length) G.length (-1) d) (hl : d.once = true → w.heap.size ≤ l) (hok : NdOk (G ++ [d]) (G.length + 1) d) (hs : ∀ nt N P nx, d = .set nt N P nx → SetIn w' base (Y.put G.length v l n p) G.length N P) :
    Bd w' base R (Y.put G.length v l n p) F (G ++ [d]) ∧ Ext Y G (Y.put G.length v l n p) (G ++ [d]) := by
  have h' := h.later hb k
  have hput : ∀ j, j < G.length → (Y.put G.length v l n p).val j = Y.val j ∧ (Y.put G.length v l n p).last j = Y.last j ∧ (Y.put G.length v l n p).nm j = Y.nm j ∧ (Y.put G.length v l n p).pt j = Y.pt j := fun j hj => by
    have : ¬ j = G.length := by omega
    simp [Lay.put, this]
  have hat : ∀ (i : Nat) (e : Nd), (G ++ [d])[i]? = some e → (i < G.length ∧ G[i]? = some e) ∨ (i = G.length ∧ e = d) := fun i e hi => by
    rcases Nat.lt_trichotomy i G.length with hlt | heq | hgt
    · rw [List.getElem?_append_left hlt] at hi; exact .inl ⟨hlt, hi⟩
    · subst heq
      rw [List.getElem?_append_right (Nat.le_refl _), Nat.sub_self] at hi
      simp only [List.getElem?_cons_zero, Option.some.injEq] at hi
      exact .inr ⟨rfl, hi.symm⟩
    · rw [List.getElem?_eq_none (by simp; omega)] at hi; cases hi
  have hold : ∀ (i : Nat) (e : Nd), i < G.length → G[i]? = some e → NodeIn w' base R (Y.put G.length v l n p) (F i) i (-1) e := fun i e hlt he =>
    (h'.g.node i e he).lay (h.ok i e he) hlt (fun j hj => (hput j hj).1) (hput i hlt).2.1 (hput i hlt).2.2.1 (hput i hlt).2.2.2
  have hlast : ∀ (i : Nat) (e : Nd), i < G.length → G[i]? = some e → e.once = true → (Y.put G.length v l n p).last i < w.heap.size := fun i e hlt he ho => by
    rw [(hput i hlt).2.1]
    exact lt_of_row ((h.g.node i e he).lastRow ho).2
  refine ⟨⟨⟨fun i e hi => ?_, fun i j e f hi hj he hf hq => ?_, fun i nt N P nx hi => ?_⟩, fun i e hi => ?_⟩, ⟨by simp, fun i hi => List.getElem?_append_left hi, fun i hi => (hput i hi).1⟩⟩
  · rcases hat i e hi with ⟨hlt, he⟩ | ⟨rfl, rfl⟩
    · exact hold i e hlt he
    · exact hn
  · have hnew : d.once = true → (Y.put G.length v l n p).last G.length = l := fun _ => by simp [Lay.put]
    rcases hat i e hi with ⟨hlt, hge⟩ | ⟨rfl, rfl⟩
    · rcases hat j f hj with ⟨hlt2, hgf⟩ | ⟨rfl, rfl⟩
      · rw [(hput i hlt).2.1, (hput j hlt2).2.1] at hq
        exact h.g.inj i j e f hge hgf he hf hq
      · have a1 := hlast i e hlt hge he
        rw [hq, hnew hf] at a1
        have := hl hf
        omega
    · rcases hat j f hj with ⟨hlt2, hgf⟩ | ⟨rfl, _⟩
      · have a1 := hlast j f hlt2 hgf hf
        rw [← hq, hnew he] at a1
        have := hl he
        omega
      · rfl
  · rcases hat i _ hi with ⟨hlt, he⟩ | ⟨rfl, he⟩
    · obtain ⟨⟨a, ca, b, cb, e1, e2, h1, h2⟩, h3, h4⟩ := h'.g.sets i nt N P nx he
      exact ⟨⟨a, ca, b, cb, (hput i hlt).2.2.1.trans e1, (hput i hlt).2.2.2.trans e2, h1, h2⟩, h3, h4⟩
    · exact hs nt N P nx he.symm
  · rcases hat i e hi with ⟨hlt, he⟩ | ⟨rfl, rfl⟩
    · exact (h.ok i e he).more (by simp) (fun y ys hy => (List.getElem?_append_left (List.getElem?_eq_some_iff.1 hy).1).trans hy)
    · have : (G ++ [e]).length = G.length + 1 := by simp
      rw [this]; exact hok
/-- What a way through an expression comes to. -/
structure Wayed (w : World) (base R : Nat) (Y : Lay) (F : Nat → Nat → Prop) (G : List Nd) (e : Ex) (nx : Nat) (w' : World) (Y' : Lay) (G' : List Nd) (i : Nat) : Prop where
  lt : i < G'.length
  ext : Ext Y G Y' G'
  bd : Bd w' base R Y' F G'
  built : Built G' e nx i
  holes : ∀ (j : Nat), G.length ≤ j → G'[j]? ≠ some .hole
  size : G'.length ≤ G.length + 2 * e.size
  bel : Below w.heap.size w w'
def WayP (e : Ex) : Prop := ∀ (w : World) (base R : Nat) (Y : Lay) (F : Nat → Nat → Prop) (G : List Nd) (nx : Nat) (x : EV), (∀ i b, G.length ≤ i → w.heap.size ≤ b → F i b) → Bd w base R Y F G → nx < G.length → ExIs w (fun g => g < base) e x → base ≤ w.heap.size →
  Calls Tryd.prog 25 #[.pointer (some ⟨R, 0, none⟩), x.v, Y.val nx] w fun e' w' => ∃ Y' G' i, e' = .returned (Y'.val i) ∧ Wayed w base R Y F G e nx w' Y' G' i
end Go.Proofs.YthfnaalbgjeaeaaDoor
namespace Go.Proofs.YthfnaalbgjeaeaaDoor
open Go.RowKit Go.Shelf
set_option maxRecDepth 10000 in
theorem once_new (fn : Fn) (fx fy : Array Value) (w : World) : Calls Tryd.prog 31 #[.func fn fx fy] w fun e w' => e = .returned (onceV (w.heap.size + 1) w.heap.size) ∧ w' = (w.alloc (.cells #[.func fn fx fy] 63)).alloc (.cells #[.int .i64 (-1)] 3) := by
  have hmf : ∀ (fn : Fn) (first cap : Array Value) (w : World), (Instr.makeFunc fn first cap).run Tryd.prog w = .ok (.func fn first cap) w := fun _ _ _ _ => rfl
  unfold onceV ptr
  go_enter Tryd.func31, Tryd.ntmps31
  go_wp2
  go_ret
  exact ⟨by simp, rfl⟩
set_option maxRecDepth 10000 in
theorem fork_new (a : Option Addr) (n c : Nat) (w : World) : Calls Tryd.prog 34 #[.slice a n c] w fun e w' => e = .returned (onceV (w.heap.size + 2) (w.heap.size + 1)) ∧ w' = ((w.alloc (.cells #[.slice a n c] 76)).alloc (.cells #[forkF w.heap.size] 63)).alloc (.cells #[.int .i64 (-1)] 3) := by
  have hmf : ∀ (fn : Fn) (first cap : Array Value) (w : World), (Instr.makeFunc fn first cap).run Tryd.prog w = .ok (.func fn first cap) w := fun _ _ _ _ => rfl
  unfold forkF ptr
  go_enter Tryd.func34, Tryd.ntmps34
  go_wp2_with (go_at_call 31; refine (once_new _ _ _ _).mono ?_; rintro e w1 ⟨rfl, rfl⟩)
  go_ret
  exact ⟨by unfold onceV ptr; simp, rfl⟩
/-- The three boxes that a way's making begins with. -/
theorem box3 (w : World) (R : Nat) (v : Value) (x : EV) : ∃ w0, w0 = ((w.alloc (.cells #[.pointer (some ⟨R, 0, none⟩)] 68)).alloc (.cells #[x.k, x.t, x.n, x.p, x.r] 30)).alloc (.cells #[v] 63) ∧
    w0.heap.size = w.heap.size + 3 ∧ Below w.heap.size w w0 ∧ row w0 w.heap.size (ptr R) 68 ∧ w0.heap[w.heap.size + 1]? = some (.cells #[x.k, x.t, x.n, x.p, x.r] 30 (0, 0)) ∧ row w0 (w.heap.size + 2) v 63 := by
  obtain ⟨wa, hwa⟩ : ∃ wa, wa = w.alloc (.cells #[.pointer (some ⟨R, 0, none⟩)] 68) := ⟨_, rfl⟩
  obtain ⟨wb, hwb⟩ : ∃ wb, wb = wa.alloc (.cells #[x.k, x.t, x.n, x.p, x.r] 30) := ⟨_, rfl⟩
  have sa : wa.heap.size = w.heap.size + 1 := by rw [hwa]; simp
  have sb : wb.heap.size = w.heap.size + 2 := by rw [hwb]; simp [sa]
  have ra : wa.heap[w.heap.size]? = some (.cells #[.pointer (some ⟨R, 0, none⟩)] 68 (0, 0)) := by rw [hwa]; exact heap_alloc_new w _
  have rb : wb.heap[w.heap.size + 1]? = some (.cells #[x.k, x.t, x.n, x.p, x.r] 30 (0, 0)) := by rw [hwb, ← sa]; exact heap_alloc_new wa _
  refine ⟨wb.alloc (.cells #[v] 63), by rw [hwb, hwa], by simp [sb], ?_, ?_, ?_, ?_⟩
  · rw [hwb, hwa]; exact (((Below.refl _ _).alloc (Nat.le_refl _) _).alloc (by simp) _).alloc (by simp; omega) _
  · unfold row ptr
    rw [Below.heap_alloc wb _ _ (by omega), hwb, Below.heap_alloc wa _ _ (by omega)]; exact ra
  · rw [Below.heap_alloc wb _ _ (by omega)]; exact rb
  · unfold row
    rw [← sb]; exact heap_alloc_new wb _
set_option maxRecDepth 10000 in
set_option maxHeartbeats 800000 in
theorem way_none (nt : Bool) (N : List ByteArray) (P : List (Int × Int)) (L : List Ex) : WayP (.mk 1 nt N P L) := by
  intro w base R Y F G nx x hF hB hnx hx hb
  obtain ⟨a, ca, b, cb, c, cc, rfl, _⟩ := hx.shape
  obtain ⟨fn, fx, fy, hfn⟩ := (hB.g.node nx _ (List.getElem?_eq_getElem hnx)).func
  obtain ⟨w0, hw0, hs0, hb0, r0, r1, r2⟩ := box3 w R (Y.val nx) ⟨.int .i64 1, .bool nt, .slice a N.length ca, .slice b P.length cb, .slice c L.length cc⟩
  have HE : Hid (∃ Y' G' i, Ending.returned (.func fn fx fy) = .returned (Y'.val i) ∧ Wayed w base R Y F G (.mk 1 nt N P L) nx w0 Y' G' i) := hid0 ⟨Y, G, nx, by rw [hfn], ⟨hnx, Ext.refl _ _, hB.later hb hb0, .none nt N P L nx, fun j hj => by rw [List.getElem?_eq_none hj]; simp, by omega, hb0⟩⟩
  rw [hfn] at hw0 r2 ⊢
  have c0 : w0.cell? ⟨w.heap.size + 1, 0, none⟩ = some (.int .i64 1) := by rw [cell_of_row _ _ _ _ _ _ r1]; rfl
  have c1 : w0.cell? ⟨w.heap.size + 2, 0, none⟩ = some (.func fn fx fy) := row_cell r2
  have hf := hw0.symm
  simp only at hf
  unfold EV.v
  clear hw0 hx hB r0 r1 r2 hb0
  go_enter Tryd.func25, Tryd.ntmps25
  go_wp2
  go_ret
  exact HE.out
set_option maxRecDepth 10000 in
set_option maxHeartbeats 800000 in
theorem way_set (nt : Bool) (N : List ByteArray) (P : List (Int × Int)) (L : List Ex) (hN : NamesC N) (hP : RiseP P) : WayP (.mk 2 nt N P L) := by
  intro w base R Y F G nx x hF hB hnx hx hb
  obtain ⟨a, ca, b, cb, c, cc, rfl, hsq, hrq, lN, lP, _⟩ := hx.shape
  obtain ⟨fn, fx, fy, hfn⟩ := (hB.g.node nx _ (List.getElem?_eq_getElem hnx)).func
  obtain ⟨w0, hw0, hs0, hb0, r0, r1, r2⟩ := box3 w R (Y.val nx) ⟨.int .i64 2, .bool nt, .slice a N.length ca, .slice b P.length cb, .slice c L.length cc⟩
  have hmf : ∀ (fn : Fn) (first cap : Array Value) (w : World), (Instr.makeFunc fn first cap).run Tryd.prog w = .ok (.func fn first cap) w := fun _ _ _ _ => rfl
  have hON := hid0 (once_new (.func 32) #[] #[.pointer (some ⟨w.heap.size, 0, none⟩), .pointer (some ⟨w.heap.size + 1, 0, none⟩), .pointer (some ⟨w.heap.size + 2, 0, none⟩)] w0)
  rw [hs0] at hON
  obtain ⟨w1, hw1⟩ : ∃ w1, w1 = (w0.alloc (.cells #[setF w.heap.size (w.heap.size + 1) (w.heap.size + 2)] 63)).alloc (.cells #[.int .i64 (-1)] 3) := ⟨_, rfl⟩
  have hb1 : Below w0.heap.size w0 w1 := by rw [hw1]; exact ((Below.refl _ _).alloc (Nat.le_refl _) _).alloc (by simp) _
  have q0 : row w1 (w.heap.size + 3) (setF w.heap.size (w.heap.size + 1) (w.heap.size + 2)) 63 := by
    unfold row
    rw [hw1, Below.heap_alloc _ _ _ (by simp; omega), ← hs0]
    exact heap_alloc_new w0 _
  have q1 : row w1 (w.heap.size + 4) (.int .i64 (-1)) 3 := by
    unfold row
    have h := heap_alloc_new (w0.alloc (.cells #[setF w.heap.size (w.heap.size + 1) (w.heap.size + 2)] 63)) (.cells #[.int .i64 (-1)] 3)
    rw [show (w0.alloc (.cells #[setF w.heap.size (w.heap.size + 1) (w.heap.size + 2)] 63)).heap.size = w.heap.size + 4 by simp [hs0]] at h
    rw [hw1]; exact h
  have hbw : Below w.heap.size w w1 := Below.later hb0 hb1
  have HE : Hid (∃ Y' G' i, Ending.returned (onceV (w.heap.size + 4) (w.heap.size + 3)) = .returned (Y'.val i) ∧ Wayed w base R Y F G (.mk 2 nt N P L) nx w1 Y' G' i) := by
    have hput : ∀ j, j < G.length → (Y.put G.length (onceV (w.heap.size + 4) (w.heap.size + 3)) (w.heap.size + 4) (.slice a N.length ca) (.slice b P.length cb)).val j = Y.val j := fun j hj => by
      have : ¬ j = G.length := by omega
      simp [Lay.put, this]
    have hnew := hB.add hb hbw (.set nt N P nx) (onceV (w.heap.size + 4) (w.heap.size + 3)) (w.heap.size + 4) (.slice a N.length ca) (.slice b P.length cb)
      (.set nt N P nx (w.heap.size + 3) w.heap.size (w.heap.size + 1) (w.heap.size + 2) (.int .i64 2) (.slice c L.length cc) (by simp [Lay.put]) (by simp [Lay.put]; omega) (by simp [Lay.put]; exact q1) q0 ((hb1.block _ (lt_of_row r0)).trans r0) (by simp [Lay.put]; exact (hb1.block _ (lt_of_row r1)).trans r1) (by rw [hput nx hnx]; exact (hb1.block _ (lt_of_row r2)).trans r2) ⟨hF _ _ (Nat.le_refl _) (by omega), hF _ _ (Nat.le_refl _) (by omega), hF _ _ (Nat.le_refl _) (by omega), hF _ _ (Nat.le_refl _) (by omega)⟩)
      (fun _ => by omega) ⟨by omega, hN, hP⟩ (fun nt' N' P' nx' e => by
        cases e
        exact ⟨⟨a, ca, b, cb, by simp [Lay.put], by simp [Lay.put], hsq.keeps ⟨hbw.size, fun g o hg hl => hbw.cell (p := ⟨g, o, none⟩) hl⟩, hrq.keeps ⟨hbw.size, fun g o hg hl => hbw.cell (p := ⟨g, o, none⟩) hl⟩⟩, lN, lP⟩)
    exact hid0 ⟨_, _, G.length, by simp [Lay.put], ⟨by simp, hnew.2, hnew.1, .set nt N P L nx G.length (by simp), fun j hj => by
      rcases Nat.lt_or_ge j (G.length + 1) with h | h
      · have : j = G.length := by omega
        subst this
        simp
      · rw [List.getElem?_eq_none (by simp; omega)]; simp, by simp [Ex.size_mk]; omega, hbw⟩⟩
  rw [hfn] at hw0 r2 ⊢
  have c0 : w0.cell? ⟨w.heap.size + 1, 0, none⟩ = some (.int .i64 2) := by rw [cell_of_row _ _ _ _ _ _ r1]; rfl
  have hf := hw0.symm
  simp only at hf
  unfold EV.v
  have HW1 := hid0 hw1
  clear hw0 hx hB r0 r1 r2 hb0 hb1 hbw q0 q1 hw1 hsq hrq hN hP
  go_enter Tryd.func25, Tryd.ntmps25
  go_wp2_with (go_at_call 31; refine hON.out.mono ?_; rintro e w2 ⟨rfl, rfl⟩)
  go_ret
  have h := HE.out
  rw [HW1.out] at h
  exact h
end Go.Proofs.YthfnaalbgjeaeaaDoor
namespace Go.Proofs.YthfnaalbgjeaeaaDoor
open Go.RowKit Go.Shelf
/-- All rows of cells but one are as they were. -/
def KX (nb : Nat) (W W' : World) : Prop := (∀ (i : Nat) c t z, i ≠ nb → W.heap[i]? = some (.cells c t z) → W'.heap[i]? = some (.cells c t z)) ∧ W.heap.size ≤ W'.heap.size
theorem KX.refl (nb : Nat) (W : World) : KX nb W W := ⟨fun _ _ _ _ _ h => h, Nat.le_refl _⟩
theorem KX.trans {nb : Nat} {A B C : World} (h : KX nb A B) (k : KX nb B C) : KX nb A C := ⟨fun i c t z hn hi => k.1 i c t z hn (h.1 i c t z hn hi), Nat.le_trans h.2 k.2⟩
theorem KX.ofBelow {nb : Nat} {W W' : World} (h : Below W.heap.size W W') : KX nb W W' := ⟨fun i _ _ _ _ hi => (h.block i (Array.getElem?_eq_some_iff.1 hi).1).trans hi, h.size⟩
theorem KX.cell {nb : Nat} {W W' : World} (h : KX nb W W') {g o : Nat} {v : Value} (hg : g ≠ nb) (hc : W.cell? ⟨g, o, none⟩ = some v) : W'.cell? ⟨g, o, none⟩ = some v := by
  obtain ⟨c, t, z, hb, hv⟩ := Go.Sort.cells_of_cell? hc
  rw [cell_of_row _ _ _ _ _ _ (h.1 g c t z hg hb)]
  exact hv
theorem KX.five {nb : Nat} {W W' : World} (h : KX nb W W') {g o : Nat} {x : EV} (hg : g ≠ nb) (hc : Five W g o x) : Five W' g o x :=
  ⟨h.cell hg hc.k, h.cell hg hc.t, h.cell hg hc.n, h.cell hg hc.p, h.cell hg hc.r⟩
theorem kx_putObj (nb : Nat) (W : World) (l : Nat) (o o' : Obj) (hl : W.heap[l]? = some o) (hc : o.isCells = false) : KX nb W (W.putObj l o') := by
  refine ⟨fun i c t z _ hi => ?_, by simp [World.putObj]⟩
  have hne : i ≠ l := fun e => by
    subst e
    rw [hi] at hl
    cases hl
    simp [Obj.isCells] at hc
  simp only [World.putObj]
  rw [Array.getElem?_setIfInBounds_ne (fun e => hne e.symm)]
  exact hi
set_option maxRecDepth 100000 in
set_option maxHeartbeats 2000000 in
theorem back1_in (n : Nat) (hn : 1 ≤ n) (l Bn nb cap N : Nat) (a : Option Addr) (vs : Nat → EV) (hl : N ≤ 1000000000) (J Jx : List (Fin N) → World → Prop)
    (hY : ∀ pre x W, J pre W → pre.length < N → YieldAt Fence.wide (n - 1) Tryd.prog l #[.int .i64 ((x.val : Nat) : Int), .agg #[(vs x.val).k, (vs x.val).t, (vs x.val).n, (vs x.val).p, (vs x.val).r]] W fun e W' =>
      (e = .returned (.bool true) ∧ J (pre ++ [x]) W' ∧ KX nb W W') ∨ (e = .returned (.bool false) ∧ Jx (pre ++ [x]) W'))
    (W : World) (hBn : W.heap[Bn]? = some (.cells #[.slice a N cap] 28 (0, 0))) (hne : Bn ≠ nb) (hel : ∀ i, i < N → ∃ g off, a = some ⟨g, off, none⟩ ∧ g ≠ nb ∧ Five W g (off + i * 5) (vs i)) (h0 : J [] W) :
    CallsIn Fence.wide n Tryd.prog 44 #[.func (.yield l) #[] #[], .pointer (some ⟨Bn, 0, none⟩)] W fun e W' => (∃ v, e = .returned v) ∧
      ((∃ ys : List (Fin N), ys.map (·.val) = (List.range N).reverse ∧ J ys W') ∨ (∃ pre : List (Fin N), True ∧ Jx pre W')) := by
  have hcell : W.cell? ⟨Bn, 0, none⟩ = some (.slice a N cap) := by rw [cell_of_row W Bn 0 _ _ _ hBn]; rfl
  refine callsIn_of_wp Tryd.func44 rfl trivial ?_ rfl
  simp only [Tryd.ntmps44, List.size_toArray, List.length_cons, List.length_nil, Nat.reduceAdd, Nat.reduceSub, Array.replicate_succ, Array.replicate_zero, List.push_toArray, List.append_toArray, List.nil_append, List.cons_append]
  have hlI : (N : Int) ≤ 1000000000 := by omega
  have hw : IntKind.i64.wrap ((N : Int) - 1) = (N : Int) - 1 := by simp [IntKind.wrap, IntKind.bits, IntKind.signed]; omega
  gi_wp2
  have HYd := hid0 hY
  have H0 := hid0 h0
  have HBn := hid0 hBn
  have HEl := hid0 hel
  clear hY h0 hBn hel hcell
  gi_loopw [3] (fun i wr => ∃ (k : Nat) (pre : List (Fin N)), k ≤ N ∧ i = .int .i64 ((k : Int) - 1) ∧ Hid (pre.map (·.val) = ((List.range N).drop k).reverse) ∧ Hid (J pre wr) ∧ Hid (KX nb W wr)) (fun i _ => (intOf i + 1).toNat)
  case atStart => exact ⟨N, [], Nat.le_refl _, rfl, hid0 (by simp), H0, hid0 (KX.refl _ _)⟩
  case round =>
    clear H0
    obtain ⟨k, pre, hk, rfl, HP, HJ, HK⟩ := hrel
    cases k with
    | zero =>
      have hneg : ¬ (0 : Int) ≤ ((0 : Nat) : Int) - 1 := by omega
      gi_wp2
      go_end0
      exact ⟨⟨_, rfl⟩, .inl ⟨pre, by have h := HP.out; rw [List.drop_zero] at h; exact h, HJ.out⟩⟩
    | succ m =>
      have hm : (((m + 1 : Nat) : Int) - 1) = (m : Int) := by omega
      rw [hm]
      have hcell : wr.cell? ⟨Bn, 0, none⟩ = some (.slice a N cap) := by rw [cell_of_row wr Bn 0 _ _ _ (HK.out.1 _ _ _ _ hne HBn.out)]; rfl
      obtain ⟨g, off, rfl, hgn, h5⟩ := HEl.out m (by omega)
      obtain ⟨e0, e1, e2, e3, e4⟩ := HK.out.five hgn h5
      have hpl : pre.length < N := by have h := congrArg List.length HP.out; simp at h; omega
      obtain ⟨fn, tmps, assign, body, hy, hR⟩ := HYd.out pre ⟨m, by omega⟩ wr HJ.out hpl
      have HR := hid0 hR
      have HP2 : Hid ((pre ++ [(⟨m, by omega⟩ : Fin N)]).map (·.val) = ((List.range N).drop m).reverse) := hid0 (by
        rw [List.map_append, HP.out, List.drop_eq_getElem_cons (by simp; omega : m < (List.range N).length), List.reverse_cons]; simp)
      have m0 : (0 : Int) ≤ (m : Int) := by omega
      have m1 : (m : Int) < (N : Int) := by omega
      simp only at hy HR
      generalize (vs m).k = xk at *
      generalize (vs m).t = xt at *
      generalize (vs m).n = xn at *
      generalize (vs m).p = xp at *
      generalize (vs m).r = xr at *
      clear hR hm hpl HP HJ h5
      gi_wp2
      clear hy
      refine HR.out.mono ?_
      rintro e W3 (⟨rfl, hJ3, hk3⟩ | ⟨rfl, hJx3⟩)
      · have HJ3 := hid0 hJ3
        have HK3 := hid0 (HK.out.trans hk3)
        clear hJ3 hk3
        gi_wp2
        go_roundw
        case rel => exact ⟨m, pre ++ [⟨m, by omega⟩], by omega, by go_num, HP2, HJ3, HK3⟩
        case measure => simp [intOf]
      · gi_wp2
        refine bodyPost_ret (results_none rfl _ _ _) rfl ?_
        exact ⟨⟨_, rfl⟩, .inr ⟨pre ++ [⟨m, by omega⟩], trivial, hJx3⟩⟩
theorem back_stops (n : Nat) (hn : 1 ≤ n) (Bn nb cap N : Nat) (a : Option Addr) (vs : Nat → EV) (hl : N ≤ 1000000000) (w : World) (hBn : w.heap[Bn]? = some (.cells #[.slice a N cap] 28 (0, 0))) (hne : Bn ≠ nb) (hel : ∀ i, i < N → ∃ g off, a = some ⟨g, off, none⟩ ∧ g ≠ nb ∧ Five w g (off + i * 5) (vs i)) :
    SeqStopsK Fence.wide n Tryd.prog 44 #[.pointer (some ⟨Bn, 0, none⟩)] (fun x : Fin N => #[.int .i64 ((x.val : Nat) : Int), .agg #[(vs x.val).k, (vs x.val).t, (vs x.val).n, (vs x.val).p, (vs x.val).r]]) (KX nb) (fun ys => ys.map (·.val) = (List.range N).reverse) (fun _ => True) N w := fun l J Jx W hW _ _ hY h0 =>
  back1_in n hn l Bn nb cap N a vs hl J Jx hY W ((hW.block Bn (Array.getElem?_eq_some_iff.1 hBn).1).trans hBn) hne (fun i hi => by
    obtain ⟨g, off, e, hg, h5⟩ := hel i hi
    exact ⟨g, off, e, hg, (KX.ofBelow (nb := nb) hW).five hg h5⟩) h0
set_option maxRecDepth 100000 in
theorem back_in (n : Nat) (a : Option Addr) (m c : Nat) (w : World) : CallsIn Fence.wide n Tryd.prog 33 #[.slice a m c] w fun e w' => e = .returned (.func (.func 44) #[] #[.pointer (some ⟨w.heap.size, 0, none⟩)]) ∧ w' = w.alloc (.cells #[.slice a m c] 28) := by
  refine callsIn_of_wp Tryd.func33 rfl trivial ?_ rfl
  simp only [Tryd.ntmps33, List.size_toArray, List.length_cons, List.length_nil, Nat.reduceAdd, Nat.reduceSub, Array.replicate_succ, Array.replicate_zero, List.push_toArray, List.append_toArray, List.nil_append, List.cons_append]
  gi_wp2
  go_ret
  exact ⟨rfl, rfl⟩
end Go.Proofs.YthfnaalbgjeaeaaDoor
namespace Go.Proofs.YthfnaalbgjeaeaaDoor
open Go.RowKit Go.Shelf
attribute [local go_sem] Oper.semAt_some
theorem Bd.keep {W W' : World} {base R : Nat} {Y : Lay} {F : Nat → Nat → Prop} {G : List Nd} (h : Bd W base R Y F G) (kb : Below base W W') (k : ∀ (b : Nat) c t z, W.heap[b]? = some (.cells c t z) → W'.heap[b]? = some (.cells c t z)) : Bd W' base R Y F G :=
  ⟨h.g.kp ⟨kb, fun b c t z e _ _ _ => k b c t z e⟩ (fun i d hi hd => k _ _ _ _ ((h.g.node i d hi).lastRow hd).2), h.ok⟩
theorem Bd.store {W : World} {base R nb : Nat} {Y : Lay} {F : Nat → Nat → Prop} {G : List Nd} {v : Value} (h : Bd W base R Y F G) (hF : ∀ i b, i < G.length → F i b → b ≠ nb) (hr : row W nb v 63) (hb : base ≤ nb) (x : Value) : Bd (W.setCell ⟨nb, 0, none⟩ x) base R Y F G := by
  have bel : Below base W (W.setCell ⟨nb, 0, none⟩ x) := (Below.refl base W).setCell (p := ⟨nb, 0, none⟩) hb _
  refine ⟨⟨fun i d hi => (h.g.node i d hi).kp (fun b c t z hFb e _ _ _ => (Below.heap_setCell W _ x b (hF i b (List.getElem?_eq_some_iff.1 hi).1 hFb)).trans e) (fun hd => ?_), h.g.inj, fun i nt N P nx hi => (h.g.sets i nt N P nx hi).below bel⟩, h.ok⟩
  have hl := ((h.g.node i d hi).lastRow hd).2
  refine (Below.heap_setCell W _ x _ (fun e => ?_)).trans hl
  simp only at e
  rw [e] at hl
  unfold row at hl hr
  rw [hr] at hl
  cases hl
/-- What the rounds over parts keep. -/
structure SeqI (w : World) (base R : Nat) (Y : Lay) (F : Nat → Nat → Prop) (G : List Nd) (nt : Bool) (N : List ByteArray) (P : List (Int × Int)) (L : List Ex) (nx : Nat) (pre : List (Fin L.length)) (W : World) : Prop where
  is : ∃ Y' G' i, Wayed w base R Y (fun i b => F i b ∧ b ≠ w.heap.size + 2) G (.mk 3 nt N P (pre.reverse.map fun q => L[q.val])) nx W Y' G' i ∧ row W (w.heap.size + 2) (Y'.val i) 63
  r : row W w.heap.size (ptr R) 68
  big : w.heap.size + 4 ≤ W.heap.size
theorem seqI_own (w : World) (base R : Nat) (Y : Lay) (F : Nat → Nat → Prop) (G : List Nd) (nt : Bool) (N : List ByteArray) (P : List (Int × Int)) (L : List Ex) (nx B : Nat) (hB : w.heap.size ≤ B) (hb : base ≤ w.heap.size) : OwnFrom B (SeqI w base R Y F G nt N P L nx) := fun pre W W' row' ⟨⟨Y', G', i, hw, hr⟩, hr2, hz⟩ hg hr' => by
  have key : ∀ (b : Nat) c t z, W.heap[b]? = some (.cells c t z) → W'.heap[b]? = some (.cells c t z) := fun b c t z e => (hg.block b (lt_of_row e) (fun q => by
    obtain ⟨_, o, ho, hc⟩ := hr' b q.symm
    rw [e] at ho
    cases ho
    simp [Obj.isCells] at hc)).trans e
  have hlow : ∀ k, k < B → some k ≠ row' := fun k hk e => by have := (hr' k e.symm).1; omega
  have bel : ∀ {C : Nat}, C ≤ B → C ≤ W.heap.size → Below C W W' := fun {C} hC hCW => ⟨hg.os, hg.tape, hg.output, hg.size, fun k hk => hg.block k (by omega) (hlow k (by omega))⟩
  have hws := hw.bel.size
  refine ⟨⟨Y', G', i, ⟨hw.lt, hw.ext, ?_, hw.built, hw.holes, hw.size, hw.bel.trans (bel hB hws)⟩, key _ _ _ _ hr⟩, key _ _ _ _ hr2, Nat.le_trans hz hg.size⟩
  exact hw.bd.keep (bel (Nat.le_trans hb hB) (Nat.le_trans hb hws)) key
theorem sizes_cons (e : Ex) (L : List Ex) : Ex.size.sizes (e :: L) = e.size + Ex.size.sizes L := by rw [Ex.size.sizes]
/-- A round over a part. -/
theorem seq_step {w : World} {base R : Nat} {Y : Lay} {F : Nat → Nat → Prop} {G : List Nd} {nt : Bool} {N : List ByteArray} {P : List (Int × Int)} {L : List Ex} {nx : Nat} {pre : List (Fin L.length)} {W w3 : World} {Y1 Y2 : Lay} {G1 G2 : List Nd} {i1 i2 B : Nat} {v1 v2 : Value}
    (hW1 : Wayed w base R Y (fun i b => F i b ∧ b ≠ w.heap.size + 2) G (.mk 3 nt N P (pre.reverse.map fun q => L[q.val])) nx W Y1 G1 i1) (x : Fin L.length) (hW2 : Wayed W base R Y1 (fun i b => F i b ∧ b ≠ w.heap.size + 2) G1 L[x.val] i1 w3 Y2 G2 i2)
    (hn2 : row w3 (w.heap.size + 2) v1 63) (hr1 : row W w.heap.size (ptr R) 68) (hv2 : Y2.val i2 = v2) (hb : base ≤ w.heap.size) (hz : w.heap.size + 4 ≤ W.heap.size) :
    KeepsFrom B W (w3.setCell ⟨w.heap.size + 2, 0, none⟩ v2) ∧ KX (w.heap.size + 2) W (w3.setCell ⟨w.heap.size + 2, 0, none⟩ v2) ∧ SeqI w base R Y F G nt N P L nx (pre ++ [x]) (w3.setCell ⟨w.heap.size + 2, 0, none⟩ v2) := by
  have hsz : (w3.setCell ⟨w.heap.size + 2, 0, none⟩ v2).heap.size = w3.heap.size := by simp [World.setCell]
  have hs2 := hW2.bel.size
  have hs1 := hW1.bel.size
  refine ⟨⟨by omega, fun k o _ hk ho => ?_⟩, ⟨fun i c t z hne hi => (Below.heap_setCell w3 _ v2 i hne).trans ((hW2.bel.block i (lt_of_row hi)).trans hi), by omega⟩, ⟨⟨Y2, G2, i2, ⟨hW2.lt, hW1.ext.trans hW2.ext, hW2.bd.store (fun i b _ h => h.2) hn2 (by omega) v2, ?_, fun j hj => ?_, ?_, ?_⟩, by rw [hv2]; exact heap_setCell_same _ _ 0 _ _ _ hn2⟩, (Below.heap_setCell w3 _ v2 _ (by simp)).trans ((hW2.bel.block _ (lt_of_row hr1)).trans hr1), by omega⟩⟩
  · have e3 := (hW2.bel.block k (lt_of_row hk)).trans hk
    refine (Below.heap_setCell w3 _ v2 k (fun e => ?_)).trans e3
    simp only at e
    subst e
    unfold row at hn2
    rw [hn2] at e3
    cases e3
    simp [Obj.isCells] at ho
  · rw [List.reverse_append, List.reverse_singleton, List.singleton_append, List.map_cons]
    exact .seq1 nt N P _ _ nx i2 i1 (hW2.ext.built hW1.built) hW2.built
  · rcases Nat.lt_or_ge j G1.length with h | h
    · rw [hW2.ext.nodes j h]; exact hW1.holes j hj
    · exact hW2.holes j h
  · have a1 := hW1.size
    have a2 := hW2.size
    rw [List.reverse_append, List.reverse_singleton, List.singleton_append, List.map_cons, Ex.size_mk, sizes_cons]
    rw [Ex.size_mk] at a1
    omega
  · exact (hW1.bel.trans (hW2.bel.mono hs1)).setCell (p := ⟨w.heap.size + 2, 0, none⟩) (by simp) v2
set_option maxRecDepth 100000 in
set_option maxHeartbeats 3200000 in
theorem way_seq (nt : Bool) (N : List ByteArray) (P : List (Int × Int)) (L : List Ex) (IH : ∀ e, e ∈ L → WayP e) : WayP (.mk 3 nt N P L) := by
  intro w base R Y F G nx x hF hB hnx hx hb
  obtain ⟨a, ca, b, cb, c, cc, rfl, hsq, hrq, lN, lP, lL, vs, hel, hpt⟩ := hx.shape
  obtain ⟨fn, fx, fy, hfn⟩ := (hB.g.node nx _ (List.getElem?_eq_getElem hnx)).func
  obtain ⟨w0, hw0, hs0, hb0, r0, r1, r2⟩ := box3 w R (Y.val nx) ⟨.int .i64 3, .bool nt, .slice a N.length ca, .slice b P.length cb, .slice c L.length cc⟩
  obtain ⟨wR, hwR⟩ : ∃ wR, wR = w0.alloc (.cells #[.slice c L.length cc] 28) := ⟨_, rfl⟩
  have hbR : Below w0.heap.size w0 wR := by rw [hwR]; exact (Below.refl _ _).alloc (Nat.le_refl _) _
  have hsR : wR.heap.size = w.heap.size + 4 := by rw [hwR]; simp [hs0]
  have hnR : wR.heap[w.heap.size + 3]? = some (.cells #[.slice c L.length cc] 28 (0, 0)) := by rw [hwR, ← hs0]; exact heap_alloc_new w0 _
  have hbw : Below w.heap.size w wR := Below.later hb0 hbR
  have rR0 := (hbR.block _ (lt_of_row r0)).trans r0
  have rR2 := (hbR.block _ (lt_of_row r2)).trans r2
  have HI0 : Hid (SeqI w base R Y F G nt N P L nx [] wR) := hid0 ⟨⟨Y, G, nx, ⟨hnx, Ext.refl _ _, (hB.mono (fun i b _ h1 h2 => ⟨h2, by omega⟩)).later hb hbw, .seq0 nt N P nx, fun j hj => by rw [List.getElem?_eq_none hj]; simp, by omega, hbw⟩, rR2⟩, rR0, by omega⟩
  have helR : ∀ i, i < L.length → ∃ g off, c = some ⟨g, off, none⟩ ∧ g ≠ w.heap.size + 2 ∧ Five wR g (off + i * 5) (vs i) := fun i hi => by
    obtain ⟨g, off, e, hg, h5⟩ := hel i hi
    exact ⟨g, off, e, by omega, h5.keeps (Q := fun g => g < base) hg (Keeps.ofBelow (hbw.mono hb))⟩
  have HW0 := hid0 hw0
  rw [hfn] at hw0 r2 ⊢
  have c0 : w0.cell? ⟨w.heap.size + 1, 0, none⟩ = some (.int .i64 3) := by rw [cell_of_row _ _ _ _ _ _ r1]; rfl
  have c4 : w0.cell? ⟨w.heap.size + 1, 4, none⟩ = some (.slice c L.length cc) := by rw [cell_of_row _ _ _ _ _ _ r1]; rfl
  have hf := hw0.symm
  simp only at hf
  unfold EV.v
  have HB := hid0 hB
  have HF := hid0 hF
  have HPt := hid0 hpt
  have HEl := hid0 helR
  have HNR := hid0 hnR
  have HBR := hid0 hbR
  have HBW := hid0 hbw
  have HSR := hid0 hsR
  have HIH := hid0 IH
  have HWR := hid0 hwR
  have HS0 := hid0 hs0
  clear hw0 hx hB r0 r1 r2 hb0 hbR hbw hsq hrq hel hpt helR hnR hsR rR0 rR2 IH hF hwR hs0
  refine (callsIn_wide (n := 8)).1 ?_
  refine callsIn_of_wp_marks Tryd.func25 rfl trivial ?_ rfl
  simp only [Tryd.ntmps25, List.size_toArray, List.length_cons, List.length_nil, Nat.reduceAdd, Nat.reduceSub, Array.replicate_succ, Array.replicate_zero, List.push_toArray, List.append_toArray, List.nil_append, List.cons_append]
  gi_wp2_with (first
    | (refine ⟨trivial, ?_⟩; gi_at_call 33; refine (back_in _ _ _ _ _).mono ?_; rintro e w' ⟨rfl, rfl⟩)
    | fail)
  have HS3 := HS0.out
  rw [HS3, ← HWR.out]
  clear hf c0 c4 HS3
  have HSh : Hid (∀ x : Fin L.length, ∃ k5 t5 a5 m5 c5 b5 n5 d5 g5 l5 e5, vs x.val = ⟨.int .i64 k5, .bool t5, .slice a5 m5 c5, .slice b5 n5 d5, .slice g5 l5 e5⟩) := hid0 (fun x => by
    have h := HPt.out x.val x.isLt
    cases hL5 : L[x.val] with
    | mk k5 t5 N5 P5 L5 =>
      rw [hL5] at h
      obtain ⟨a5, c5, b5, d5, g5, e5, hv, _⟩ := h.shape
      exact ⟨k5, t5, a5, _, c5, b5, _, d5, g5, _, e5, hv⟩)
  have hOwn := hid0 (seqI_own w base R Y F G nt N P L nx wR.heap.size (by have := HSR.out; omega) hb)
  refine wpIn_rangeFunc_ownH rfl (by omega) (gf := 44) (lb := #[.pointer (some ⟨w.heap.size + 3, 0, none⟩)]) rfl trivial (enters_of Tryd.func44 (by kernel_rfl) rfl)
    (back_stops 7 (by omega) (w.heap.size + 3) (w.heap.size + 2) cc L.length c vs lL wR HNR.out (by omega) HEl.out) KX.trans (fun W l o o' _ ho hc _ => kx_putObj _ W l o o' ho hc) (Below.refl _ _) (fun _ => rfl)
    (SeqI w base R Y F G nt N P L nx) (fun _ _ _ => False) hOwn.out (fun _ _ _ _ _ hs _ _ => hs) HI0.out
    (fun (x : Fin L.length) (a' : Act) (W : World) => ∃ (pb : Nat), W.heap[pb]? = some (.cells #[(vs x.val).k, (vs x.val).t, (vs x.val).n, (vs x.val).p, (vs x.val).r] 30 (0, 0)) ∧ a' = { tmps := #[.pointer (some ⟨R, 0, none⟩), .agg #[.int .i64 3, .bool nt, .slice a N.length ca, .slice b P.length cb, .slice c L.length cc], .func fn fx fy, .pointer (some ⟨w.heap.size, 0, none⟩), .pointer (some ⟨w.heap.size + 1, 0, none⟩), .pointer (some ⟨w.heap.size + 1 + 1, 0, none⟩), .nilFunc, undef, .pointer (some ⟨pb, 0, none⟩), undef, undef, undef, undef, .pointer (some ⟨w.heap.size + 1, 0, none⟩), .int .i64 3, .bool false, .bool false, undef, undef, .bool true, .bool true, .pointer (some ⟨w.heap.size + 1, 4, none⟩), .slice c L.length cc, .func (.func 44) #[] #[.pointer (some ⟨w.heap.size + 3, 0, none⟩)], .int .i64 ((x.val : Nat) : Int), .agg #[(vs x.val).k, (vs x.val).t, (vs x.val).n, (vs x.val).p, (vs x.val).r], undef, undef, undef, undef, undef, undef, undef, undef, undef, undef, undef, undef, undef, undef, undef, undef, undef, undef, undef, undef, undef, undef, undef, undef, undef, undef, undef, undef, undef, undef, undef, undef, undef, undef, undef, undef, undef, undef, undef, undef, undef, undef, undef, undef, undef, undef, undef, undef, undef, undef, undef], defers := [] })
    (fun x a' _ W W' row' ⟨pb, hpb, e⟩ hg hr => ⟨pb, (hg.block pb (lt_of_row hpb) (fun q => by
      obtain ⟨_, o, ho, hc⟩ := hr pb q.symm
      rw [hpb] at ho
      cases ho
      simp [Obj.isCells] at hc)).trans hpb, e⟩) ?assign ?body ?done ?stop
  case assign =>
    rintro l pre x W K hI hK
    have HIp := hid0 hI
    have HKp := hid0 hK
    obtain ⟨k5, t5, a5, m5, c5, b5, n5, d5, g5, l5, e5, hv5⟩ := HSh.out x
    rw [hv5] at HKp ⊢
    simp only at HKp ⊢
    clear hI hK hv5
    gi_wp2
    refine HKp.out _ _ ⟨by simp, fun k o _ hk _ => (Below.heap_alloc _ _ k (lt_of_row hk)).trans hk⟩ (KX.ofBelow ((Below.refl _ _).alloc (Nat.le_refl _) _)) (hOwn.out pre W _ none HIp.out (World.grownBy_alloc W _ none) (fun _ e => by cases e)) ⟨W.heap.size, heap_alloc_new W _, rfl⟩
  case body =>
    rintro l pre x a' W hl' ⟨r', hr'⟩ hI ⟨pb, hpb, rfl⟩ hlt
    have HIp := hid0 hI
    obtain ⟨⟨Y1, G1, i1, hW1, hn1⟩, hr1, hz1⟩ := hI
    obtain ⟨fn1, fx1, fy1, hfn1⟩ := (hW1.bd.g.node i1 _ (List.getElem?_eq_getElem hW1.lt)).func
    have hbW : Below base w W := hW1.bel.mono hb
    have hbase : base ≤ W.heap.size := Nat.le_trans hb hW1.bel.size
    have HC := hid0 (HIH.out _ (List.getElem_mem x.isLt) W base R Y1 (fun i b => F i b ∧ b ≠ w.heap.size + 2) G1 i1 (vs x.val) (fun i b h1 h2 => ⟨HF.out i b (Nat.le_trans hW1.ext.len h1) (Nat.le_trans hW1.bel.size h2), by omega⟩) hW1.bd hW1.lt ((HPt.out x.val x.isLt).keeps (Keeps.ofBelow hbW)) hbase)
    unfold EV.v at HC
    rw [hfn1] at HC hn1
    obtain ⟨k5, t5, a5, m5, c5, b5, n5, d5, g5, l5, e5, hv5⟩ := HSh.out x
    rw [hv5] at HC hpb ⊢
    simp only at HC hpb ⊢
    have y0 := row_cell hr1
    unfold ptr at y0
    have y1 := row_cell hn1
    have z0 : W.cell? ⟨pb, 0, none⟩ = some (.int .i64 k5) := by rw [cell_of_row _ _ _ _ _ _ hpb]; rfl
    have z1 : W.cell? ⟨pb, 1, none⟩ = some (.bool t5) := by rw [cell_of_row _ _ _ _ _ _ hpb]; rfl
    have z2 : W.cell? ⟨pb, 2, none⟩ = some (.slice a5 m5 c5) := by rw [cell_of_row _ _ _ _ _ _ hpb]; rfl
    have z3 : W.cell? ⟨pb, 3, none⟩ = some (.slice b5 n5 d5) := by rw [cell_of_row _ _ _ _ _ _ hpb]; rfl
    have z4 : W.cell? ⟨pb, 4, none⟩ = some (.slice g5 l5 e5) := by rw [cell_of_row _ _ _ _ _ _ hpb]; rfl
    have HW1 := hid0 hW1
    have HN1 := hid0 hn1
    have HR1 := hid0 hr1
    have hf1 : Fence.wide.fn 25 := trivial
    clear hW1 hn1 hr1 hpb hv5 hbW hr'
    gi_wp2_with (first
      | (gi_at_call 25; refine (CallsIn.inRound l (callsIn_wide.2 HC.out)).mono ?_; rintro e w3 ⟨Y2, G2, i2, he2, hW2⟩
         obtain ⟨fn2, fx2, fy2, hfn2⟩ := (hW2.bd.g.node i2 _ (List.getElem?_eq_getElem hW2.lt)).func
         rw [hfn2] at he2
         subst he2
         have hn2 : row w3 (w.heap.size + 2) (.func fn1 fx1 fy1) 63 := (hW2.bel.block _ (lt_of_row HN1.out)).trans HN1.out
         have q1 := row_cell hn2
         have q2 : w3.frozen? ⟨w.heap.size + 2, 0, none⟩ = false := frozen_of_row _ _ _ _ _ hn2
         have HN2 := hid0 hn2
         have HW2 := hid0 hW2
         clear hW2 hn2)
      | fail)
    exact seq_step HW1.out x HW2.out HN2.out HR1.out hfn2 hb hz1
  case done =>
    rintro D ys W hD hS hI hK
    obtain ⟨⟨Y1, G1, i1, hW1, hn1⟩, hr1, hz1⟩ := hI
    have hys : ys.reverse.map (fun q => L[q.val]) = L := by
      have h : ys.reverse.map (·.val) = List.range L.length := by rw [List.map_reverse, hS, List.reverse_reverse]
      have h2 : (ys.reverse.map (·.val)).map (fun k => (L[k]?).getD (.mk 0 false [] [] [])) = ys.reverse.map (fun q => L[q.val]) := by
        rw [List.map_map]
        exact List.map_congr_left (fun q _ => by simp)
      rw [← h2, h]
      apply List.ext_getElem
      · simp
      · intro i h1 h3
        simp [h3]
    rw [hys] at hW1
    have key : ∀ (b : Nat) c t z, W.heap[b]? = some (.cells c t z) → (W.putObj D (.deferred none)).heap[b]? = some (.cells c t z) := fun b c t z e => by
      rw [World.putObj_heap_other (fun q => by
        subst q
        rw [hK] at e
        cases e)]
      exact e
    have hDw : w.heap.size ≤ D := by have := HSR.out; omega
    have HE : Hid (Wayed w base R Y F G (.mk 3 nt N P L) nx (W.putObj D (.deferred none)) Y1 G1 i1) := hid0 ⟨hW1.lt, hW1.ext, (hW1.bd.mono (fun i b _ _ h => h.1)).keep ⟨rfl, rfl, rfl, by simp, fun k hk => World.putObj_heap_other (by omega)⟩ key, hW1.built, hW1.holes, hW1.size, ⟨hW1.bel.os, hW1.bel.tape, hW1.bel.output, by simp; exact hW1.bel.size, fun k hk => (World.putObj_heap_other (by omega)).trans (hW1.bel.block k hk)⟩⟩
    obtain ⟨fn1, fx1, fy1, hfn1⟩ := (hW1.bd.g.node i1 _ (List.getElem?_eq_getElem hW1.lt)).func
    rw [hfn1] at hn1
    have y1 := row_cell hn1
    have HKD := hid0 hK
    have HFN := hid0 hfn1
    clear hW1 hn1 hr1 hK hS key hys hfn1
    gi_wp2
    refine ⟨by simp, .inl ⟨_, _, rfl, run_takeDeferred HKD.out, ?_⟩⟩
    refine ⟨.func fn1 fx1 fy1, by simp [results, Tryd.results25, go_sem], Y1, G1, i1, by rw [HFN.out], HE.out⟩
  case stop =>
    rintro D c pre W _ _ h _
    exact h.elim
end Go.Proofs.YthfnaalbgjeaeaaDoor
namespace Go.Proofs.YthfnaalbgjeaeaaDoor
open Go.RowKit Go.Shelf
theorem vis_len (G : List Nd) (p : Int) : ∀ (f : Nat), (∀ x s s', vis G p f x s = some s' → s'.wait.length + left G p s' ≤ s.wait.length + left G p s) ∧ (∀ ys s s', visL G p f ys s = some s' → s'.wait.length + left G p s' ≤ s.wait.length + left G p s) := by
  have lift : ∀ f, (∀ x s s', vis G p f x s = some s' → s'.wait.length + left G p s' ≤ s.wait.length + left G p s) → ∀ ys s s', visL G p f ys s = some s' → s'.wait.length + left G p s' ≤ s.wait.length + left G p s := by
    intro f hf ys
    induction ys with
    | nil => intro s s' h; simp only [visL, Option.some.injEq] at h; subst h; exact Nat.le_refl _
    | cons y ys ih =>
      intro s s' h
      simp only [visL] at h
      cases hv : vis G p f y s with
      | none => rw [hv] at h; cases h
      | some s1 => rw [hv] at h; exact Nat.le_trans (ih s1 s' h) (hf y s s1 hv)
  intro f
  induction f with
  | zero => exact ⟨fun x s s' h => by simp [vis] at h, lift 0 (fun x s s' h => by simp [vis] at h)⟩
  | succ f ih =>
    have h1 : ∀ x s s', vis G p (f + 1) x s = some s' → s'.wait.length + left G p s' ≤ s.wait.length + left G p s := by
      intro x s s' h
      simp only [vis] at h
      cases hx : G[x]? with
      | none => rw [hx] at h; cases h
      | some d =>
        rw [hx] at h
        have hxl := (List.getElem?_eq_some_iff.1 hx).1
        cases d with
        | hole => cases h
        | fin => cases h; exact Nat.le_refl _
        | tramp y => exact ih.1 _ _ _ h
        | set nt N P nx =>
          simp only at h
          by_cases hp : s.last x = p
          · rw [if_pos hp] at h; cases h; exact Nat.le_refl _
          · rw [if_neg hp] at h
            cases h
            have := left_mark G p s x hxl hp
            have e : left G p ((s.mark x p).push x) = left G p (s.mark x p) := rfl
            rw [e]
            simp only [St.push, List.length_append, List.length_singleton]
            simp only [St.mark] at this ⊢
            omega
        | fork ys =>
          simp only at h
          by_cases hp : s.last x = p
          · rw [if_pos hp] at h; cases h; exact Nat.le_refl _
          · rw [if_neg hp] at h
            have := left_mark G p s x hxl hp
            have h2 := ih.2 _ _ _ h
            have e : (s.mark x p).wait.length = s.wait.length := rfl
            omega
    exact ⟨h1, lift (f + 1) h1⟩
theorem takeF_len {G : List Nd} {p : Int} {u : Kd} {ys : List Nat} {s s' : St} (hy : ∀ y, y ∈ ys → isSet G y) (hs : s.wait = []) (h : takeF G p u ys s = some s') : s'.wait.length ≤ G.length := by
  rw [takeF_eq p u ys hy] at h
  have h1 := (vis_len G p _).2 _ _ _ h
  have h2 := left_le G p s
  rw [hs] at h1
  simp only [List.length_nil] at h1
  omega
/-- A word in memory. -/
structure KA (w : World) (B : Nat) (a : Option Addr) (l : List Kd) : Prop where
  at' : ∀ k (h : k < l.length), ∃ b off, a = some ⟨b, off, none⟩ ∧ b < B ∧ w.cell? ⟨b, off + k * 2, none⟩ = some (.string l[k].1) ∧ w.cell? ⟨b, off + k * 2 + 1, none⟩ = some (.int .i64 l[k].2)
theorem KA.below {w w' : World} {B : Nat} {a : Option Addr} {l : List Kd} (h : KA w B a l) (k : Below B w w') : KA w' B a l := ⟨fun i hi => by
  obtain ⟨b, off, e, hb, h1, h2⟩ := h.at' i hi
  exact ⟨b, off, e, hb, (k.cell (p := ⟨b, off + i * 2, none⟩) hb).trans h1, (k.cell (p := ⟨b, off + i * 2 + 1, none⟩) hb).trans h2⟩⟩
/-- The state that a reading begins with. -/
def St.zero : St := ⟨fun _ => -1, [], -1⟩
theorem Bd.wf {w : World} {base R : Nat} {Y : Lay} {F : Nat → Nat → Prop} {G : List Nd} (h : Bd w base R Y F G) (hh : ∀ (j : Nat), G[j]? ≠ some .hole) : WF G ∧ SetsOk G ∧ ∀ (x : Nat) (ys : List Nat), G[x]? = some (Nd.fork ys) → ys.length ≤ 1000000 :=
  ⟨⟨fun x _ hx y hy => (h.ok x _ hx).2 y hy, fun x _ _ _ _ hx => (h.ok x _ hx).1, fun x _ hx => h.ok x _ hx, hh⟩, fun i _ _ _ _ hx => (h.ok i _ hx).2, fun x _ hx => (h.ok x _ hx).1⟩
theorem Bd.sin {w : World} {base R : Nat} {Y : Lay} {F : Nat → Nat → Prop} {G : List Nd} (h : Bd w base R Y F G) (hb : base ≤ R) (hR : w.heap[R]? = some (.cells #[.slice none 0 0, .slice none 0 0, .int .i64 (-1)] 61 (0, 0))) : SIn w base R Y G [] (.slice none 0 0) St.zero :=
  ⟨(h.mono (F' := fun _ _ => True) (fun _ _ _ _ _ => trivial)).g, ⟨⟨.slice none 0 0, hR, World.ownsRow_nil _ _ _ _, World.ownsRow_nil _ _ _ _, fun g e => by cases e⟩, hb⟩⟩
/-- The nodes that making begins with: the end alone. -/
theorem Bd.first {w : World} {base R : Nat} {Y : Lay} (hY : Y.val 0 = finV R) : Bd w base R Y (fun _ _ => True) [.fin] := by
  have hat : ∀ (i : Nat) (d : Nd), [Nd.fin][i]? = some d → i = 0 ∧ d = .fin := fun i d hi => by
    cases i with
    | zero => simp at hi; exact ⟨rfl, hi.symm⟩
    | succ i => simp at hi
  refine ⟨⟨fun i d hi => ?_, fun i j d e hi hj hd => ?_, fun i nt N P nx hi => ?_⟩, fun i d hi => ?_⟩
  · obtain ⟨rfl, rfl⟩ := hat i d hi; exact .fin hY
  · obtain ⟨_, rfl⟩ := hat i d hi; cases hd
  · obtain ⟨_, e⟩ := hat i _ hi; cases e
  · obtain ⟨_, rfl⟩ := hat i d hi; trivial
theorem CallV.gen {v : Value} {p : Int} {w : World} {Q : Ending → World → Prop} (h : CallV v p w Q) : ∃ k cap, v = .func (.func k) #[] cap ∧ (∀ args w, (callFunc k args).run Tryd.prog w = .ok (.enter k args) w) ∧ Calls Tryd.prog k (#[.int .i64 p] ++ cap) w Q := by
  rcases h with ⟨b, e, h⟩ | ⟨l, o, e, h⟩ | ⟨b, e, h⟩
  · exact ⟨_, _, e, enters_of Tryd.func26 (by kernel_rfl) rfl, h⟩
  · exact ⟨_, _, e, enters_of Tryd.func43 (by kernel_rfl) rfl, h⟩
  · exact ⟨_, _, e, enters_of Tryd.func46 (by kernel_rfl) rfl, h⟩
/-- An answer whether a word is met. -/
def MatchR (e : Ex) (l : List Kd) (r : Ending) : Prop := ∃ b, r = .returned (.bool b) ∧ (b = true ↔ Mt e l)
set_option maxRecDepth 10000 in
set_option maxHeartbeats 3200000 in
theorem matches_any (e : Ex) (hW : WayP e) (hsz : e.size ≤ 100000) (x : EV) (Q : Nat → Prop) (l : List Kd) (a : Option Addr) (ca : Nat) (w : World) (hl : l.length ≤ 1000000000) (hx : ExIs w Q e x) (ha : KA w w.heap.size a l) :
    Calls Tryd.prog 19 #[x.v, .slice a l.length ca] w fun r w' => MatchR e l r ∧ Below w.heap.size w w' := by
  obtain ⟨k5, t5, a5, m5, c5, b5, n5, d5, g5, l5, e5, rfl⟩ : ∃ k5 t5 a5 m5 c5 b5 n5 d5 g5 l5 e5, x = ⟨.int .i64 k5, .bool t5, .slice a5 m5 c5, .slice b5 n5 d5, .slice g5 l5 e5⟩ := by
    cases hx with
    | mk k nt N P L a ca b cb c cc vs => exact ⟨k, nt, a, _, ca, b, _, cb, c, _, cc, rfl⟩
  obtain ⟨B, hB⟩ : ∃ B, B = w.heap.size := ⟨_, rfl⟩
  obtain ⟨w0, hw0⟩ : ∃ w0, w0 = (w.alloc (.cells #[.int .i64 k5, .bool t5, .slice a5 m5 c5, .slice b5 n5 d5, .slice g5 l5 e5] 30)).alloc (.cells #[.slice none 0 0, .slice none 0 0, .int .i64 (-1)] 61) := ⟨_, rfl⟩
  have hb0 : Below w.heap.size w w0 := by rw [hw0]; exact ((Below.refl _ _).alloc (Nat.le_refl _) _).alloc (by simp) _
  have hs0 : w0.heap.size = w.heap.size + 2 := by rw [hw0]; simp
  have hX0 : w0.heap[w.heap.size]? = some (.cells #[.int .i64 k5, .bool t5, .slice a5 m5 c5, .slice b5 n5 d5, .slice g5 l5 e5] 30 (0, 0)) := by
    rw [hw0]
    exact (Below.heap_alloc _ _ _ (by simp)).trans (heap_alloc_new w _)
  have hR0 : w0.heap[w.heap.size + 1]? = some (.cells #[.slice none 0 0, .slice none 0 0, .int .i64 (-1)] 61 (0, 0)) := by
    rw [hw0]
    have h := heap_alloc_new (w.alloc (.cells #[.int .i64 k5, .bool t5, .slice a5 m5 c5, .slice b5 n5 d5, .slice g5 l5 e5] 30)) (.cells #[.slice none 0 0, .slice none 0 0, .int .i64 (-1)] 61)
    rw [show (w.alloc (.cells #[.int .i64 k5, .bool t5, .slice a5 m5 c5, .slice b5 n5 d5, .slice g5 l5 e5] 30)).heap.size = w.heap.size + 1 by simp] at h
    exact h
  have c0 : w0.cell? ⟨w.heap.size, 0, none⟩ = some (.int .i64 k5) := by rw [cell_of_row _ _ _ _ _ _ hX0]; rfl
  have c1 : w0.cell? ⟨w.heap.size, 1, none⟩ = some (.bool t5) := by rw [cell_of_row _ _ _ _ _ _ hX0]; rfl
  have c2 : w0.cell? ⟨w.heap.size, 2, none⟩ = some (.slice a5 m5 c5) := by rw [cell_of_row _ _ _ _ _ _ hX0]; rfl
  have c3 : w0.cell? ⟨w.heap.size, 3, none⟩ = some (.slice b5 n5 d5) := by rw [cell_of_row _ _ _ _ _ _ hX0]; rfl
  have c4 : w0.cell? ⟨w.heap.size, 4, none⟩ = some (.slice g5 l5 e5) := by rw [cell_of_row _ _ _ _ _ _ hX0]; rfl
  have HWy := hid0 (hW w0 w.heap.size (w.heap.size + 1) ⟨fun _ => finV (w.heap.size + 1), fun _ => 0, fun _ => .nilFunc, fun _ => .nilFunc⟩ (fun _ _ => True) [.fin] 0 _ (fun _ _ _ _ => trivial) (Bd.first rfl) (by simp) ((hx.mono (Q' := fun g => g < w.heap.size) (fun g hg _ => hg)).keeps (Keeps.ofBelow hb0)) hb0.size)
  unfold EV.v finV ptr at HWy
  simp only at HWy
  have hmf : ∀ (fn : Fn) (first cap : Array Value) (w : World), (Instr.makeFunc fn first cap).run Tryd.prog w = .ok (.func fn first cap) w := fun _ _ _ _ => rfl
  have HA := hid0 ha
  have HB0 := hid0 hb0
  have HR0 := hid0 hR0
  have HS0 := hid0 hs0
  have hfold := hw0.symm
  unfold EV.v
  clear hx ha hw0 hX0 hb0 hR0 hs0 hW hB
  have M0 : Hid True := trivial
  go_enter Tryd.func19, Tryd.ntmps19
  go_wp2_with (first
    | (clear M0; go_at_call 25; refine HWy.out.mono ?_; rintro e' w1 ⟨Y1, G1, i1, he1, hW1⟩
       obtain ⟨fn1, fx1, fy1, hfn1⟩ := (hW1.bd.g.node i1 _ (List.getElem?_eq_getElem hW1.lt)).func
       rw [hfn1] at he1
       subst he1
       obtain ⟨hwf, hso, hf6⟩ := hW1.bd.wf (fun j hj => by
         rcases Nat.lt_or_ge j 1 with h | h
         · have : j = 0 := by omega
           subst this
           rw [hW1.ext.nodes 0 (by simp)] at hj
           cases hj
         · exact hW1.holes j h hj)
       have hfin : G1[0]? = some .fin := hW1.ext.nodes 0 (by simp)
       have hR1 : w1.heap[w.heap.size + 1]? = some (.cells #[.slice none 0 0, .slice none 0 0, .int .i64 (-1)] 61 (0, 0)) := (hW1.bel.block _ (lt_of_row HR0.out)).trans HR0.out
       have hS1 := hW1.bd.sin (by omega) hR1
       obtain ⟨s1, hs1⟩ := vis_total hwf 0 St.zero i1 hW1.lt
       have hlen : G1.length ≤ 1000000 := by have := hW1.size; simp only [List.length_singleton] at this; omega
       have hw8 : s1.wait.length ≤ 1000000 := by
         have h1 := (vis_len G1 0 _).1 _ _ _ hs1
         have h2 := left_le G1 0 St.zero
         have h3 : St.zero.wait.length = 0 := rfl
         omega
       have hbh : Behind G1 0 s1 (fun W => ∃ x, x ∈ [i1] ∧ Acc G1 x W) := behind_of hwf (i := 0) (fun y _ => by show (-1 : Int) < _; omega) rfl (by show (-1 : Int) < _; omega) ((vis_seen hwf _ _).1 _ _ _ hs1)
       have hCV := visit_any hwf hf6 0 _ i1 St.zero s1 w1 hs1 hw8 hS1
       rw [hfn1] at hCV
       obtain ⟨kf, cap, hkf, ekf, hcf⟩ := hCV.gen
       cases hkf
       have HWF := hid0 hwf
       have HSO := hid0 hso
       have HF6 := hid0 hf6
       have HLN := hid0 hlen
       have HBH := hid0 hbh
       have HCF := hid0 hcf
       have HBU := hid0 hW1.built
       have HFI := hid0 hfin
       have HB1 := hid0 (Below.later HB0.out hW1.bel)
       have HS18 := hid0 hw8
       have M1 : Hid True := trivial
       clear hW1 hfn1 hwf hso hf6 hlen hbh hcf hfin hR1 hS1 hs1 hw8 hCV)
    | (clear M1; go_at_fn kf; refine HCF.out.mono ?_; rintro e' w2 ⟨rfl, hs2, hk2⟩; have HS2 := hid0 hs2; have HK2 := hid0 hk2; clear hs2 hk2)
    | fail)
  obtain ⟨res, hres, hiff⟩ := runF_acc HWF.out l 0 s1 _ HBH.out
  have HIF : Hid (res = true ↔ Mt e l) := hid0 (by
    rw [hiff, ← HBU.out.whole HFI.out]
    constructor
    · rintro ⟨x, hx, h⟩
      simp only [List.mem_singleton] at hx
      subst hx
      exact h
    · exact fun h => ⟨i1, by simp, h⟩)
  have HRS := hid0 hres
  have hbw1 : w.heap.size ≤ w1.heap.size := HB1.out.size
  clear hres hiff HBU HFI HWy hmf HCF ekf c0 c1 c2 c3 c4
  go_loopw [7, 8, 17] (fun _ _ i wr => ∃ (k : Nat) (s : St) (u : Value) (wtd : List Nat), k ≤ l.length ∧ i = .int .i64 (k : Int) ∧ Hid (runF G1 k (l.drop k) s = some res) ∧ Hid (∃ A, Behind G1 k s A) ∧ Hid (SIn wr w.heap.size (w.heap.size + 1) Y1 G1 wtd u s) ∧ Hid (s.wait.length ≤ 1000000) ∧ Hid (Kp w.heap.size w1 wr)) (fun _ _ i _ => l.length - (intOf i).toNat)
  case atStart => exact ⟨0, s1, _, _, Nat.zero_le _, rfl, HRS, hid0 ⟨_, HBH.out⟩, HS2, HS18, HK2⟩
  case round =>
    clear HRS HBH HS2 HS18 HK2
    obtain ⟨k, s, u, wtd, hk, rfl, HR, HBe, HS, HL, HK⟩ := hrel
    have hbr : w.heap.size ≤ wr.heap.size := Nat.le_trans hbw1 HK.out.bel.size
    obtain ⟨v, hRr, hv, hu, hd⟩ := HS.out.r.is
    obtain ⟨av, cv, rfl, _⟩ := own_none hv
    by_cases hlt : k < l.length
    · have hkI : (k : Int) < (l.length : Int) := by omega
      have hkI0 : (0 : Int) ≤ (k : Int) := by omega
      obtain ⟨b1, off, rfl, _, d0, d1⟩ := ((HA.out.below HB1.out).below HK.out.bel).at' k hlt
      obtain ⟨wA, hwA⟩ : ∃ wA, wA = wr.alloc (.cells #[.string l[k].1, .int .i64 l[k].2] 37) := ⟨_, rfl⟩
      have hBA : Below wr.heap.size wr wA := by rw [hwA]; exact (Below.refl _ _).alloc (Nat.le_refl _) _
      have hYA : wA.heap[wr.heap.size]? = some (.cells #[.string l[k].1, .int .i64 l[k].2] 37 (0, 0)) := by rw [hwA]; exact heap_alloc_new wr _
      have y0 : wA.cell? ⟨wr.heap.size, 0, none⟩ = some (.string l[k].1) := by rw [cell_of_row _ _ _ _ _ _ hYA]; rfl
      have y1 : wA.cell? ⟨wr.heap.size, 1, none⟩ = some (.int .i64 l[k].2) := by rw [cell_of_row _ _ _ _ _ _ hYA]; rfl
      have r0 : wA.cell? ⟨w.heap.size + 1, 0, none⟩ = some (.slice av s.wait.length cv) := by rw [cell_of_row _ _ _ _ _ _ ((hBA.block _ (lt_of_row hRr)).trans hRr)]; rfl
      have hrun := HR.out
      rw [List.drop_eq_getElem_cons hlt, runF] at hrun
      have HSA := hid0 (HS.out.later hbr hBA)
      have HBA := hid0 hBA
      have hfA := hwA.symm
      by_cases hw : s.wait = []
      · rw [if_pos hw] at hrun
        cases hrun
        have hn0 : s.wait.length = 0 := by rw [hw]; rfl
        rw [hn0] at r0
        generalize l[k].1 = cK at *
        generalize l[k].2 = pK at *
        clear hwA hYA hRr hv hu hd HS HR hBA
        go_wp2
        go_ret
        exact ⟨⟨false, rfl, HIF.out⟩, HB1.out.trans (HK.out.bel.trans (HBA.out.mono hbr))⟩
      · rw [if_neg hw] at hrun
        have hnz : ¬ (s.wait.length : Int) = 0 := by
          intro e
          exact hw (List.length_eq_zero_iff.1 (by omega))
        obtain ⟨A, hbe⟩ := HBe.out
        obtain ⟨s', htk, hbe'⟩ := behind_step HWF.out hbe l[k]
        rw [htk] at hrun
        have hl' : s'.wait.length ≤ 1000000 := Nat.le_trans (takeF_len hbe.sets rfl htk) HLN.out
        have HRn : Hid (runF G1 (k + 1) (l.drop (k + 1)) s' = some res) := hid0 hrun
        have hwk : IntKind.i64.wrap ((k : Int) + 1) = (k : Int) + 1 := by simp [IntKind.wrap, IntKind.bits, IntKind.signed]; omega
        have HT := hid0 (take_any HWF.out HSO.out HF6.out l[k].1 l[k].2 ((k : Int) + 1) s s' wA hbe.sets htk hl' HL.out (Nat.le_trans hbr HBA.out.size) HSA.out)
        have HBn := hid0 hbe'
        generalize l[k].1 = cK at *
        generalize l[k].2 = pK at *
        clear hwA hYA hRr hv hu hd HS HR hBA hrun htk hbe hbe' HBe HSA
        go_wp2_with (go_at_call 27; refine HT.out.mono ?_; rintro e' w3 ⟨rfl, ⟨u3, hs3⟩, hk3⟩; have HS3 := hid0 hs3; have HK3 := hid0 ((HK.out.trans (Kp.ofBelow HBA.out hbr)).trans hk3); clear hs3 hk3)
        go_roundw
        case rel => exact ⟨k + 1, s', _, _, by omega, by go_num, HRn, hid0 ⟨_, HBn.out⟩, HS3, hid0 hl', HK3⟩
        case measure => simp [intOf]; omega
    · have hkI : ¬ (k : Int) < (l.length : Int) := by omega
      have hkn : k = l.length := by omega
      have hrun := HR.out
      rw [List.drop_of_length_le (by omega), runF] at hrun
      have r2 : wr.cell? ⟨w.heap.size + 1, 2, none⟩ = some (.int .i64 s.ended) := by rw [cell_of_row _ _ _ _ _ _ hRr]; rfl
      have HRE : Hid (res = decide (s.ended = (l.length : Int))) := hid0 (by cases hrun; rw [hkn])
      clear hrun hRr hv hu hd HS HR
      generalize s.ended = en at *
      go_wp2
      go_ret
      exact ⟨⟨res, by rw [HRE.out]; by_cases h : en = (l.length : Int) <;> simp [h], HIF.out⟩, HB1.out.trans HK.out.bel⟩
end Go.Proofs.YthfnaalbgjeaeaaDoor
namespace Go.Proofs.YthfnaalbgjeaeaaDoor
open Go.RowKit Go.Shelf
def CR.okB : CR → Bool | .ok _ _ => true | .bad _ => false
/-- An answer whether a word is met by an expression that may be. -/
def MatchC (res : CR) (e : Ex) (l : List Kd) (r : Ending) : Prop := ∃ b, r = .returned (.bool b) ∧ (b = true ↔ CR.okB res = true ∧ Mt e l)
set_option maxRecDepth 10000 in
set_option maxHeartbeats 1600000 in
theorem match_any (may : List ByteArray → List (Int × Int) → Bool) (e : Ex) (res : CR) (hres : chkE may e 1 0 0 = res) (hW : CR.okB res = true → WayP e ∧ e.size ≤ 100000) (x : EV) (Q : Nat → Prop) (l : List Kd) (a : Option Addr) (ca : Nat) (A : Nat → Addr) (w : World) (hl : l.length ≤ 1000000000) (hx : ExIs w Q e x) (hA : AllM may e) (hE : E3 w A) (ha : KA w w.heap.size a l) :
    Calls Tryd.prog 11 #[x.v, .slice a l.length ca] w fun r w' => MatchC res e l r ∧ Below w.heap.size w w' := by
  obtain ⟨k5, t5, a5, m5, c5, b5, n5, d5, g5, l5, z5, rfl⟩ : ∃ k5 t5 a5 m5 c5 b5 n5 d5 g5 l5 z5, x = ⟨.int .i64 k5, .bool t5, .slice a5 m5 c5, .slice b5 n5 d5, .slice g5 l5 z5⟩ := by
    cases hx with
    | mk k nt N P L a ca b cb c cc vs => exact ⟨k, nt, a, _, ca, b, _, cb, c, _, cc, rfl⟩
  obtain ⟨w0, hw0, hb0, _, hxc⟩ := box1 w (.int .i64 k5) (.bool t5) (.slice a5 m5 c5) (.slice b5 n5 d5) (.slice g5 l5 z5)
  obtain ⟨x0, x1, x2, x3, x4⟩ := hxc w0 (Below.refl _ _)
  have HXC := hid0 hxc
  have hck := check_any may e _ Q A w0 (hx.past hb0) hA (hE.below hb0)
  rw [hres] at hck
  unfold EV.v at hck
  simp only at hck
  have HCk := hid0 hck
  have HM : Hid (∀ W, Below w0.heap.size w0 W → CR.okB res = true → Calls Tryd.prog 19 #[.agg #[.int .i64 k5, .bool t5, .slice a5 m5 c5, .slice b5 n5 d5, .slice g5 l5 z5], .slice a l.length ca] W fun r w' => MatchR e l r ∧ Below W.heap.size W w') := hid0 (fun W hWb hok => by
    obtain ⟨h1, h2⟩ := hW hok
    have hbw := Below.later hb0 hWb
    have hKA : KA W W.heap.size a l := ⟨fun i hi => by
      obtain ⟨b, off, e1, hb, h3, h4⟩ := (ha.below hbw).at' i hi
      exact ⟨b, off, e1, Nat.lt_of_lt_of_le hb hbw.size, h3, h4⟩⟩
    have hm := matches_any e h1 h2 ⟨.int .i64 k5, .bool t5, .slice a5 m5 c5, .slice b5 n5 d5, .slice g5 l5 z5⟩ Q l a ca W hl ((hx.past hb0).past hWb) hKA
    unfold EV.v at hm
    simp only at hm
    exact hm)
  have HB0 := hid0 hb0
  have hf := hw0.symm
  unfold EV.v
  clear hx hA hE ha hw0 hb0 hxc hck hW hres
  cases res with
  | bad f =>
    unfold errC at HCk
    clear HM
    go_enter Tryd.func11, Tryd.ntmps11
    go_wp2_with (go_at_call 10; refine HCk.out.mono ?_; rintro r w1 ⟨rfl, hb1⟩; have HB1 := hid0 hb1; clear hb1)
    go_ret
    exact ⟨⟨false, rfl, by simp [CR.okB]⟩, Below.later HB0.out HB1.out⟩
  | ok n s =>
    unfold errC at HCk
    have HM2 := hid0 (fun W hW => HM.out W hW rfl)
    clear HM
    go_enter Tryd.func11, Tryd.ntmps11
    go_wp2_with (first
      | (go_at_call 10; refine HCk.out.mono ?_; rintro r w1 ⟨rfl, hb1⟩; obtain ⟨y0, y1, y2, y3, y4⟩ := HXC.out w1 hb1; have HB1 := hid0 hb1; clear hb1)
      | (go_at_call 19; refine (HM2.out w1 HB1.out).mono ?_; rintro r w2 ⟨⟨bb, rfl, hbb⟩, hb2⟩; have HB2 := hid0 (Below.later HB1.out hb2); have HBB := hid0 hbb; clear hb2 hbb)
      | fail)
    go_ret
    exact ⟨⟨bb, rfl, by rw [HBB.out]; simp [CR.okB]⟩, Below.later HB0.out HB2.out⟩
end Go.Proofs.YthfnaalbgjeaeaaDoor
namespace Go.Proofs.YthfnaalbgjeaeaaDoor
open Go.RowKit Go.Shelf
def markB : ByteArray := ⟨#[109, 97, 114, 107]⟩
set_option maxRecDepth 10000 in
set_option maxHeartbeats 800000 in
theorem sameS (l : List ByteArray) (a b : Option Addr) (ca cb : Nat) (w : World) (hl : l.length ≤ 8796093022208) (ha : SA w a l) (hb : SA w b l) :
    Calls Tryd.prog 20 #[.slice a l.length ca, .slice b l.length cb] w fun e w' => e = .returned (.bool true) ∧ ∃ n, w' = w.drewN n := by
  have HA := hid0 ha
  have HB := hid0 hb
  clear ha hb
  go_enter Tryd.func20, Tryd.ntmps20
  go_wp2
  go_loopw [5] (fun i wr => ∃ k : Nat, k ≤ l.length ∧ i = .int .i64 (k : Int) ∧ ∃ n, wr = w.drewN n) (fun i _ => l.length - (intOf i).toNat)
  case atStart => exact ⟨0, Nat.zero_le _, rfl, 0, rfl⟩
  case round =>
    obtain ⟨k, hk, rfl, nd, rfl⟩ := hrel
    by_cases hlt : k < l.length
    · obtain ⟨b1, o1, rfl, _, d1⟩ := HA.out.at' k hlt
      obtain ⟨b2, o2, rfl, _, d2⟩ := HB.out.at' k hlt
      have hkI : (k : Int) < (l.length : Int) := by omega
      have hkI0 : (0 : Int) ≤ (k : Int) := by omega
      generalize l[k] = s at *
      have hself : (s.toList == s.toList) = true := by simp
      go_wp2
      go_quiet ((fail))
      go_wp2
      go_roundw
      case rel => exact ⟨k + 1, by omega, by go_num, _, rfl⟩
      case measure => simp [intOf]; omega
    · have hkI : ¬ (k : Int) < (l.length : Int) := by omega
      go_wp2
      go_ret
      exact ⟨rfl, nd, rfl⟩
set_option maxRecDepth 10000 in
set_option maxHeartbeats 400000 in
theorem sameSet (nt : Bool) (L : List ByteArray) (l : List (Int × Int)) (a b c d : Option Addr) (ca cb cc cd : Nat) (w : World) (hL : L.length ≤ 8796093022208) (hl : l.length ≤ 8796093022208) (ha : SA w a L) (hb : RA w b l) (hc : SA w c L) (hd : RA w d l) :
    Calls Tryd.prog 15 #[.agg #[.bool nt, .slice a L.length ca, .slice b l.length cb], .agg #[.bool nt, .slice c L.length cc, .slice d l.length cd]] w fun e w' => e = .returned (.bool true) ∧ Below w.heap.size w w' := by
  obtain ⟨w0, hw0⟩ : ∃ w0, w0 = (w.alloc (.cells #[.bool nt, .slice a L.length ca, .slice b l.length cb] 27)).alloc (.cells #[.bool nt, .slice c L.length cc, .slice d l.length cd] 27) := ⟨_, rfl⟩
  have hs0 : w0.heap.size = w.heap.size + 2 := by rw [hw0]; simp
  have hB0 : Below w.heap.size w w0 := by rw [hw0]; exact ((Below.refl _ _).alloc (Nat.le_refl _) _).alloc (by simp) _
  have hX0 : w0.heap[w.heap.size]? = some (.cells #[.bool nt, .slice a L.length ca, .slice b l.length cb] 27 (0, 0)) := by
    rw [hw0]
    exact (Below.heap_alloc _ _ _ (by simp)).trans (heap_alloc_new w _)
  have hX1 : w0.heap[w.heap.size + 1]? = some (.cells #[.bool nt, .slice c L.length cc, .slice d l.length cd] 27 (0, 0)) := by
    rw [hw0]
    have h := heap_alloc_new (w.alloc (.cells #[.bool nt, .slice a L.length ca, .slice b l.length cb] 27)) (.cells #[.bool nt, .slice c L.length cc, .slice d l.length cd] 27)
    rw [show (w.alloc (.cells #[.bool nt, .slice a L.length ca, .slice b l.length cb] 27)).heap.size = w.heap.size + 1 by simp] at h
    exact h
  have x0 : w0.cell? ⟨w.heap.size, 1, none⟩ = some (.slice a L.length ca) := by rw [cell_of_row _ _ _ _ _ _ hX0]; rfl
  have x1 : w0.cell? ⟨w.heap.size, 2, none⟩ = some (.slice b l.length cb) := by rw [cell_of_row _ _ _ _ _ _ hX0]; rfl
  have x2 : w0.cell? ⟨w.heap.size + 1, 1, none⟩ = some (.slice c L.length cc) := by rw [cell_of_row _ _ _ _ _ _ hX1]; rfl
  have x3 : w0.cell? ⟨w.heap.size + 1, 2, none⟩ = some (.slice d l.length cd) := by rw [cell_of_row _ _ _ _ _ _ hX1]; rfl
  have x4 : w0.cell? ⟨w.heap.size, 0, none⟩ = some (.bool nt) := by rw [cell_of_row _ _ _ _ _ _ hX0]; rfl
  have x5 : w0.cell? ⟨w.heap.size + 1, 0, none⟩ = some (.bool nt) := by rw [cell_of_row _ _ _ _ _ _ hX1]; rfl
  have H1 := hid0 (sameS L a c ca cc w0 hL (ha.below hB0) (hc.below hB0))
  have HD : Hid (∀ n, Below w0.heap.size w0 (w0.drewN n)) := hid0 (fun n => ⟨rfl, rfl, rfl, Nat.le_refl _, fun _ _ => rfl⟩)
  have H2 : Hid (∀ n, Calls Tryd.prog 21 #[.slice b l.length cb, .slice d l.length cd] (w0.drewN n) fun e w' => e = .returned (.bool true) ∧ ∃ q, w' = (w0.drewN n).drewN q) := hid0 (fun n => sameR_eq l b d cb cd _ (by omega) ((hb.below hB0).below (HD.out n)) ((hd.below hB0).below (HD.out n)))
  have HB0 := hid0 hB0
  have hfold := hw0.symm
  have hnn : (nt == nt) = true := by simp
  clear ha hb hc hd hw0 hX0 hX1 hs0 hB0
  go_enter Tryd.func15, Tryd.ntmps15
  go_wp2_with (first
    | (go_at_call 20; refine H1.out.mono ?_; rintro e w1 ⟨rfl, n1, rfl⟩)
    | (go_at_call 21; refine (H2.out n1).mono ?_; rintro e w2 ⟨rfl, n2, rfl⟩))
  go_ret
  exact ⟨by simp, ⟨HB0.out.os, HB0.out.tape, HB0.out.output, HB0.out.size, HB0.out.block⟩⟩
end Go.Proofs.YthfnaalbgjeaeaaDoor
