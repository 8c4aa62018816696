/-
  The walks of caesuraref3.Normal, Union, Inter, Minus, Not, Count.
-/
import Derived.Test.YtnkllhihdjjmnaaDoorBothW
import Derived.Test.YtnkllhihdjjmnaaDoorRef3aW
import Derived.Test.YtnkllhihdjjmnaaDoorCountW
namespace Go.Proofs.YtnkllhihdjjmnaaDoor
open Go.RowKit
def errNo (ok : Bool) : Int := if ok then 0 else 1
/-- What the document's own answer is of a set. -/
def AnsweredI (w w' : World) (ok : Bool) (W : Int → Bool) (e : Ending) : Prop :=
  ∃ a cap l, e = .returned (.tuple #[.slice a l.length cap, .int .i64 (errNo ok)]) ∧ RA w' a l ∧ NormF 0 l ∧ (ok = true → ∀ p, pts l p = W p) ∧ (ok = false → l = []) ∧ Below w.heap.size w w'
theorem chain3 {w W w' : World} (hb : Below W.heap.size W w') (h1 : Below w.heap.size w W) : Below w.heap.size w w' := h1.trans (hb.mono h1.size)
theorem own_cap {w : World} {base : Nat} {a : Option Addr} {n cap : Nat} {l : List (Int × Int)} (h : OwnR w base (.slice a n cap) l) : a = none → cap = 0 := by
  rintro rfl
  rcases h.2 with ⟨h', _⟩ | ⟨g, c, cur, h', _⟩
  · simp only [Value.slice.injEq] at h'; exact h'.2.2
  · simp at h'
theorem drewB (w : World) (q : Nat) : Below w.heap.size w (w.drewN q) := below_drewN (Below.refl _ _) q
theorem refMay_b (l : List (Int × Int)) (a : Option Addr) (cap : Nat) (hl : l.length ≤ 140737488355328) (w : World) (ha : RA w a l) (x : Bool) (hx : mayL l = x) :
    Calls Tryd.prog 46 #[.slice a l.length cap] w fun e w' => e = .returned (.bool x) ∧ Below w.heap.size w w' :=
  (refMay_any l a cap hl w ha).mono fun e w' ⟨h1, q, h2⟩ => ⟨by rw [h1, hx], by rw [h2]; exact drewB _ _⟩
theorem AnsweredI.no {w w' : World} {W : Int → Bool} (hb : Below w.heap.size w w') : AnsweredI w w' false W (.returned (.tuple #[.slice none 0 0, .int .i64 1])) :=
  ⟨none, 0, [], rfl, RA.nil _ _, trivial, fun h => (by cases h), fun _ => rfl, hb⟩
theorem AnsweredI.yes {w w' : World} {W : Int → Bool} {v : Value} {l : List (Int × Int)} {base : Nat} (ho : OwnR w' base v l) (hn : NormF 0 l) (hp : ∀ p, pts l p = W p) (hb : Below w.heap.size w w') : AnsweredI w w' true W (.returned (.tuple #[v, .int .i64 0])) := by
  obtain ⟨a, cap, rfl, hra⟩ := ho.ra
  exact ⟨a, cap, l, rfl, hra, hn, fun _ => hp, fun h => (by cases h), hb⟩
theorem may_app {l m : List (Int × Int)} (h1 : mayL l = true) (h2 : mayL m = true) : mayL (l ++ m) = true := by unfold mayL at *; rw [List.all_append, h1, h2]; rfl
theorem b_inter (a b i : Bool) (h : a = true → i = true) : (i && !((i && !a) || (i && !b))) = (a && b) := by cases a <;> cases b <;> cases i <;> simp_all
theorem b_minus (a b i : Bool) (h : a = true → i = true) : (i && !((i && !a) || b)) = (a && !b) := by cases a <;> cases b <;> cases i <;> simp_all
theorem in_all3 {l : List (Int × Int)} (h : mayL l = true) (p : Int) : pts l p = true → inAll p = true := fun hp => by
  have := may_pts h hp
  simp [inAll]
  omega
set_option maxRecDepth 10000 in
set_option maxHeartbeats 400000 in
theorem refNormalF_any (la : List (Int × Int)) (hl1 : la.length ≤ 10000000) (a1 : Option Addr) (c1 : Nat) (w : World) (hr1 : RA w a1 la) :
    Calls Tryd.prog 33 #[.slice a1 la.length c1] w fun e w' => AnsweredI w w' (mayL la) (pts la) e := by
  have HR1 := hidE hr1
  have HB0 := hidE (Below.refl w.heap.size w)
  have M1 : Hid True := trivial
  have M2 : Hid True := trivial
  clear hr1
  cases hma : mayL la with
  | false =>
    go_enter Tryd.func33, Tryd.ntmps33
    go_wp2_with (first
      | (go_at_call 46; refine (refMay_b la _ _ (by omega) _ (HR1.out.later HB0.out) _ hma).mono ?_; rintro e w1 ⟨rfl, hb⟩; have HB1 := hidE (chain3 hb HB0.out); clear hb)
      | fail)
    go_returns
    exact AnsweredI.no HB1.out
  | true =>
    go_enter Tryd.func33, Tryd.ntmps33
    go_wp2_with (first
      | (go_at_call 46; clear M1; refine (refMay_b la _ _ (by omega) _ (HR1.out.later HB0.out) _ hma).mono ?_; rintro e w1 ⟨rfl, hb⟩; have HB1 := hidE (chain3 hb HB0.out); clear hb)
      | (go_at_call 47; refine (refNormal_any la _ _ (by omega) hma _ (HR1.out.later HB1.out)).mono ?_; rintro e wn ⟨v, o, rfl, ho, hn, hp, hb⟩; have HBn := hidE (chain3 hb HB1.out))
      | fail)
    go_returns
    exact AnsweredI.yes ho hn hp HBn.out
set_option maxRecDepth 10000 in
set_option maxHeartbeats 400000 in
theorem refNotF_any (la : List (Int × Int)) (hl1 : la.length ≤ 10000000) (a1 : Option Addr) (c1 : Nat) (w : World) (hr1 : RA w a1 la) :
    Calls Tryd.prog 39 #[.slice a1 la.length c1] w fun e w' => AnsweredI w w' (mayL la) (fun p => inAll p && !pts la p) e := by
  have HR1 := hidE hr1
  have HB0 := hidE (Below.refl w.heap.size w)
  have M1 : Hid True := trivial
  have M2 : Hid True := trivial
  clear hr1
  cases hma : mayL la with
  | false =>
    go_enter Tryd.func39, Tryd.ntmps39
    go_wp2_with (first
      | (go_at_call 46; refine (refMay_b la _ _ (by omega) _ (HR1.out.later HB0.out) _ hma).mono ?_; rintro e w1 ⟨rfl, hb⟩; have HB1 := hidE (chain3 hb HB0.out); clear hb)
      | fail)
    go_returns
    exact AnsweredI.no HB1.out
  | true =>
    go_enter Tryd.func39, Tryd.ntmps39
    go_wp2_with (first
      | (go_at_call 46; clear M1; refine (refMay_b la _ _ (by omega) _ (HR1.out.later HB0.out) _ hma).mono ?_; rintro e w1 ⟨rfl, hb⟩; have HB1 := hidE (chain3 hb HB0.out); clear hb)
      | (go_at_call 49; refine (refNot_any la _ _ (by omega) hma _ (HR1.out.later HB1.out)).mono ?_; rintro e wn ⟨v, o, rfl, ho, hn, hp, hb⟩; have HBn := hidE (chain3 hb HB1.out))
      | fail)
    go_returns
    exact AnsweredI.yes ho hn hp HBn.out
set_option maxRecDepth 10000 in
set_option maxHeartbeats 400000 in
theorem refUnionF_any (la lb : List (Int × Int)) (hl1 : la.length ≤ 10000000) (hl2 : lb.length ≤ 10000000) (a1 a2 : Option Addr) (c1 c2 : Nat) (hc1 : a1 = none → c1 = 0) (hc2 : a2 = none → c2 = 0) (w : World) (hr1 : RA w a1 la) (hr2 : RA w a2 lb) :
    Calls Tryd.prog 36 #[.slice a1 la.length c1, .slice a2 lb.length c2] w fun e w' => AnsweredI w w' (mayL la && mayL lb) (fun p => pts la p || pts lb p) e := by
  have HR1 := hidE hr1
  have HB0 := hidE (Below.refl w.heap.size w)
  have M1 : Hid True := trivial
  have M2 : Hid True := trivial
  have HR2 := hidE hr2
  clear hr1 hr2
  cases hma : mayL la with
  | false =>
    go_enter Tryd.func36, Tryd.ntmps36
    go_wp2_with (first
      | (go_at_call 46; refine (refMay_b la _ _ (by omega) _ (HR1.out.later HB0.out) _ hma).mono ?_; rintro e w1 ⟨rfl, hb⟩; have HB1 := hidE (chain3 hb HB0.out); clear hb)
      | fail)
    go_returns
    exact AnsweredI.no HB1.out
  | true =>
    cases hmb : mayL lb with
    | false =>
      go_enter Tryd.func36, Tryd.ntmps36
      go_wp2_with (first
        | (go_at_call 46; clear M1; refine (refMay_b la _ _ (by omega) _ (HR1.out.later HB0.out) _ hma).mono ?_; rintro e w1 ⟨rfl, hb⟩; have HB1 := hidE (chain3 hb HB0.out); clear hb)
        | (go_at_call 46; refine (refMay_b lb _ _ (by omega) _ (HR2.out.later HB1.out) _ hmb).mono ?_; rintro e w2 ⟨rfl, hb⟩; have HB2 := hidE (chain3 hb HB1.out); clear hb)
        | fail)
      go_returns
      exact AnsweredI.no HB2.out
    | true =>
      go_enter Tryd.func36, Tryd.ntmps36
      go_wp2_with (first
        | (go_at_call 46; clear M1; refine (refMay_b la _ _ (by omega) _ (HR1.out.later HB0.out) _ hma).mono ?_; rintro e w1 ⟨rfl, hb⟩; have HB1 := hidE (chain3 hb HB0.out); clear hb)
        | (go_at_call 46; clear M2; refine (refMay_b lb _ _ (by omega) _ (HR2.out.later HB1.out) _ hmb).mono ?_; rintro e w2 ⟨rfl, hb⟩; have HB2 := hidE (chain3 hb HB1.out); clear hb)
        | (go_at_call 48; refine (refBoth_any la lb _ _ _ _ (by omega) (by omega) hc1 hc2 _ (HR1.out.later HB2.out) (HR2.out.later HB2.out)).mono ?_; rintro e wb ⟨vb, rfl, hob, hb⟩; obtain ⟨mm, hmm⟩ : ∃ m, m = la ++ lb := ⟨_, rfl⟩; rw [← hmm] at hob; have hml : mm.length ≤ 50000000 := (by rw [hmm, List.length_append]; omega); have hmay : mayL mm = true := (by rw [hmm]; exact may_app hma hmb); have HMM := hidE hmm; clear hmm; obtain ⟨ab, cb, rfl, hrb⟩ := hob.ra; have HBb := hidE (chain3 hb HB2.out); have HRb := hidE hrb; clear hb hob hrb)
        | (go_at_call 47; refine (refNormal_any mm _ _ hml hmay _ HRb.out).mono ?_; rintro e wn ⟨v, o, rfl, ho, hn, hp, hb⟩; have HBn := hidE (chain3 hb HBb.out))
        | fail)
      go_returns
      have hpp : ∀ p, pts o p = (pts la p || pts lb p) := fun p => by { rw [hp p, HMM.out]; exact pts_append la lb p }
      clear hp
      exact AnsweredI.yes ho hn hpp HBn.out
set_option maxRecDepth 10000 in
set_option maxHeartbeats 400000 in
theorem refInterF_any (la lb : List (Int × Int)) (hl1 : la.length ≤ 10000000) (hl2 : lb.length ≤ 10000000) (a1 a2 : Option Addr) (c1 c2 : Nat) (w : World) (hr1 : RA w a1 la) (hr2 : RA w a2 lb) :
    Calls Tryd.prog 37 #[.slice a1 la.length c1, .slice a2 lb.length c2] w fun e w' => AnsweredI w w' (mayL la && mayL lb) (fun p => pts la p && pts lb p) e := by
  have HR1 := hidE hr1
  have HB0 := hidE (Below.refl w.heap.size w)
  have M1 : Hid True := trivial
  have M2 : Hid True := trivial
  have HR2 := hidE hr2
  clear hr1 hr2
  cases hma : mayL la with
  | false =>
    go_enter Tryd.func37, Tryd.ntmps37
    go_wp2_with (first
      | (go_at_call 46; refine (refMay_b la _ _ (by omega) _ (HR1.out.later HB0.out) _ hma).mono ?_; rintro e w1 ⟨rfl, hb⟩; have HB1 := hidE (chain3 hb HB0.out); clear hb)
      | fail)
    go_returns
    exact AnsweredI.no HB1.out
  | true =>
    cases hmb : mayL lb with
    | false =>
      go_enter Tryd.func37, Tryd.ntmps37
      go_wp2_with (first
        | (go_at_call 46; clear M1; refine (refMay_b la _ _ (by omega) _ (HR1.out.later HB0.out) _ hma).mono ?_; rintro e w1 ⟨rfl, hb⟩; have HB1 := hidE (chain3 hb HB0.out); clear hb)
        | (go_at_call 46; refine (refMay_b lb _ _ (by omega) _ (HR2.out.later HB1.out) _ hmb).mono ?_; rintro e w2 ⟨rfl, hb⟩; have HB2 := hidE (chain3 hb HB1.out); clear hb)
        | fail)
      go_returns
      exact AnsweredI.no HB2.out
    | true =>
      have M3 : Hid True := trivial
      have M4 : Hid True := trivial
      go_enter Tryd.func37, Tryd.ntmps37
      go_wp2_with (first
        | (go_at_call 46; clear M1; refine (refMay_b la _ _ (by omega) _ (HR1.out.later HB0.out) _ hma).mono ?_; rintro e w1 ⟨rfl, hb⟩; have HB1 := hidE (chain3 hb HB0.out); clear hb)
        | (go_at_call 46; clear M2; refine (refMay_b lb _ _ (by omega) _ (HR2.out.later HB1.out) _ hmb).mono ?_; rintro e w2 ⟨rfl, hb⟩; have HB2 := hidE (chain3 hb HB1.out); clear hb)
        | (go_at_call 49; clear M3; refine (refNot_any la _ _ (by omega) hma _ (HR1.out.later HB2.out)).mono ?_; rintro e wx ⟨vx, ox, rfl, ho, hn, hp, hb⟩; obtain ⟨ax, cx, rfl, hra⟩ := ho.ra; have hcapx := own_cap ho; have HBx := hidE (chain3 hb HB2.out); have HRx := hidE hra; have HPx := hidE hp; have hlx := (norm_len hn (Int.le_refl 0)).1; have hmx := norm_may (Int.le_refl 0) hn;  clear hb ho hn hp hra)
        | (go_at_call 49; clear M4; refine (refNot_any lb _ _ (by omega) hmb _ (HR2.out.later HBx.out)).mono ?_; rintro e wy ⟨vy, oy, rfl, ho, hn, hp, hb⟩; obtain ⟨ay, cy, rfl, hra⟩ := ho.ra; have hcapy := own_cap ho; have HBy := hidE (chain3 hb HBx.out); have HRy := hidE hra; have HPy := hidE hp; have hly := (norm_len hn (Int.le_refl 0)).1; have hmy := norm_may (Int.le_refl 0) hn; have HRx2 := hidE (HRx.out.later hb); clear hb ho hn hp hra)
        | (go_at_call 48; refine (refBoth_any ox oy _ _ _ _ (by omega) (by omega) hcapx hcapy _ HRx2.out HRy.out).mono ?_; rintro e wb ⟨vb, rfl, hob, hb⟩; obtain ⟨mm, hmm⟩ : ∃ m, m = ox ++ oy := ⟨_, rfl⟩; rw [← hmm] at hob; have hml : mm.length ≤ 50000000 := (by rw [hmm, List.length_append]; omega); have hmay : mayL mm = true := (by rw [hmm]; exact may_app hmx hmy); have HMM := hidE hmm; clear hmm; obtain ⟨ab, cb, rfl, hrb⟩ := hob.ra; have HBb := hidE (chain3 hb HBy.out); have HRb := hidE hrb; clear hb hob hrb)
        | (go_at_call 49; refine (refNot_any mm _ _ hml hmay _ HRb.out).mono ?_; rintro e wn ⟨v, o, rfl, ho, hn, hp, hb⟩; have HBn := hidE (chain3 hb HBb.out))
        | fail)
      go_returns
      have hpp : ∀ p, pts o p = (pts la p && pts lb p) := fun p => by { rw [hp p, HMM.out, pts_append, HPx.out p, HPy.out p]; exact b_inter _ _ _ (in_all3 hma p) }
      clear hp
      exact AnsweredI.yes ho hn hpp HBn.out
set_option maxRecDepth 10000 in
set_option maxHeartbeats 400000 in
theorem refMinusF_any (la lb : List (Int × Int)) (hl1 : la.length ≤ 10000000) (hl2 : lb.length ≤ 10000000) (a1 a2 : Option Addr) (c1 c2 : Nat) (hc2 : a2 = none → c2 = 0) (w : World) (hr1 : RA w a1 la) (hr2 : RA w a2 lb) :
    Calls Tryd.prog 38 #[.slice a1 la.length c1, .slice a2 lb.length c2] w fun e w' => AnsweredI w w' (mayL la && mayL lb) (fun p => pts la p && !pts lb p) e := by
  have HR1 := hidE hr1
  have HB0 := hidE (Below.refl w.heap.size w)
  have M1 : Hid True := trivial
  have M2 : Hid True := trivial
  have HR2 := hidE hr2
  clear hr1 hr2
  cases hma : mayL la with
  | false =>
    go_enter Tryd.func38, Tryd.ntmps38
    go_wp2_with (first
      | (go_at_call 46; refine (refMay_b la _ _ (by omega) _ (HR1.out.later HB0.out) _ hma).mono ?_; rintro e w1 ⟨rfl, hb⟩; have HB1 := hidE (chain3 hb HB0.out); clear hb)
      | fail)
    go_returns
    exact AnsweredI.no HB1.out
  | true =>
    cases hmb : mayL lb with
    | false =>
      go_enter Tryd.func38, Tryd.ntmps38
      go_wp2_with (first
        | (go_at_call 46; clear M1; refine (refMay_b la _ _ (by omega) _ (HR1.out.later HB0.out) _ hma).mono ?_; rintro e w1 ⟨rfl, hb⟩; have HB1 := hidE (chain3 hb HB0.out); clear hb)
        | (go_at_call 46; refine (refMay_b lb _ _ (by omega) _ (HR2.out.later HB1.out) _ hmb).mono ?_; rintro e w2 ⟨rfl, hb⟩; have HB2 := hidE (chain3 hb HB1.out); clear hb)
        | fail)
      go_returns
      exact AnsweredI.no HB2.out
    | true =>
      have M3 : Hid True := trivial
      go_enter Tryd.func38, Tryd.ntmps38
      go_wp2_with (first
        | (go_at_call 46; clear M1; refine (refMay_b la _ _ (by omega) _ (HR1.out.later HB0.out) _ hma).mono ?_; rintro e w1 ⟨rfl, hb⟩; have HB1 := hidE (chain3 hb HB0.out); clear hb)
        | (go_at_call 46; clear M2; refine (refMay_b lb _ _ (by omega) _ (HR2.out.later HB1.out) _ hmb).mono ?_; rintro e w2 ⟨rfl, hb⟩; have HB2 := hidE (chain3 hb HB1.out); clear hb)
        | (go_at_call 49; clear M3; refine (refNot_any la _ _ (by omega) hma _ (HR1.out.later HB2.out)).mono ?_; rintro e wx ⟨vx, ox, rfl, ho, hn, hp, hb⟩; obtain ⟨ax, cx, rfl, hra⟩ := ho.ra; have hcapx := own_cap ho; have HBx := hidE (chain3 hb HB2.out); have HRx := hidE hra; have HPx := hidE hp; have hlx := (norm_len hn (Int.le_refl 0)).1; have hmx := norm_may (Int.le_refl 0) hn;  clear hb ho hn hp hra)
        | (go_at_call 48; refine (refBoth_any ox lb _ _ _ _ (by omega) (by omega) hcapx hc2 _ HRx.out (HR2.out.later HBx.out)).mono ?_; rintro e wb ⟨vb, rfl, hob, hb⟩; obtain ⟨mm, hmm⟩ : ∃ m, m = ox ++ lb := ⟨_, rfl⟩; rw [← hmm] at hob; have hml : mm.length ≤ 50000000 := (by rw [hmm, List.length_append]; omega); have hmay : mayL mm = true := (by rw [hmm]; exact may_app hmx hmb); have HMM := hidE hmm; clear hmm; obtain ⟨ab, cb, rfl, hrb⟩ := hob.ra; have HBb := hidE (chain3 hb HBx.out); have HRb := hidE hrb; clear hb hob hrb)
        | (go_at_call 49; refine (refNot_any mm _ _ hml hmay _ HRb.out).mono ?_; rintro e wn ⟨v, o, rfl, ho, hn, hp, hb⟩; have HBn := hidE (chain3 hb HBb.out))
        | fail)
      go_returns
      have hpp : ∀ p, pts o p = (pts la p && !pts lb p) := fun p => by { rw [hp p, HMM.out, pts_append, HPx.out p]; exact b_minus _ _ _ (in_all3 hma p) }
      clear hp
      exact AnsweredI.yes ho hn hpp HBn.out
end Go.Proofs.YtnkllhihdjjmnaaDoor
