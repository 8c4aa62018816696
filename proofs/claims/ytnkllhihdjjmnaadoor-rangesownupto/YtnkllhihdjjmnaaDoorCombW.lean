/-
  The walks of ranges.combine and the faces over it.
-/
import Derived.Test.YtnkllhihdjjmnaaDoorEdgesW
import Derived.Test.YtnkllhihdjjmnaaDoorWalkW
namespace Go.Proofs.YtnkllhihdjjmnaaDoor
open Go.RowKit
/-- What is answered of a set: the list, or none and a refusal. -/
def errArg (A0 : Addr) : Value := .iface 99 (.pointer (some A0))
def errVal (A0 : Addr) (ok : Bool) : Value := if ok then .nilIface else errArg A0
def Answered (w w' : World) (A0 : Addr) (ok : Bool) (W : Int → Bool) (e : Ending) : Prop :=
  ∃ v l, e = .returned (.tuple #[v, errVal A0 ok]) ∧ OwnR w' w.heap.size v l ∧ NormF 0 l ∧ (ok = true → ∀ p, pts l p = W p) ∧ (ok = false → l = []) ∧ Below w.heap.size w w'
set_option maxRecDepth 10000 in
set_option maxHeartbeats 800000 in
theorem combine_any (g : Nat) (f : Bool → Bool → Bool) (hg : Chooses g f) (hf : f false false = false) (la lb : List (Int × Int)) (hl1 : la.length ≤ 50000000) (hl2 : lb.length ≤ 50000000)
    (a1 a2 : Option Addr) (cap1 cap2 : Nat) (A0 : Addr) (w : World) (hr1 : RA w a1 la) (hr2 : RA w a2 lb) (hE : w.cell? ⟨0, 0, none⟩ = some (errArg A0)) :
    Calls Tryd.prog 27 #[.slice a1 la.length cap1, .slice a2 lb.length cap2, .func (.func g) #[] #[]] w fun e w' => Answered w w' A0 (mayL la && mayL lb) (fun p => f (pts la p) (pts lb p)) e := by
  have HM1 := hidE (mayBe_any la a1 cap1 (by omega) w hr1)
  have HM2 := hidE (fun w' (h : Below w.heap.size w w') => mayBe_any lb a2 cap2 (by omega) w' (hr2.later h))
  have HE := hidE hE
  cases hm1 : mayL la with
  | false =>
    rw [hm1] at HM1
    clear hr1 hr2 HM2 hE
    go_enter Tryd.func27, Tryd.ntmps27
    go_wp2_with (go_at_call 42; refine HM1.out.mono ?_; rintro e w1 ⟨rfl, hb1⟩; have d := (hb1.cell (p := ⟨0, 0, none⟩) (World.block_lt_of_cell? w _ HE.out)).trans HE.out; unfold errArg at d)
    go_quiet ((fail))
    go_wp2
    go_returns
    exact ⟨_, [], rfl, OwnR.nil _ _, trivial, fun h => (by cases h), fun _ => rfl, below_drewN hb1 _⟩
  | true =>
    rw [hm1] at HM1
    cases hm2 : mayL lb with
    | false =>
      rw [hm2] at HM2
      clear hr1 hr2 hE
      go_enter Tryd.func27, Tryd.ntmps27
      go_wp2_with (first
        | (go_at_call 42; have hq := HM1.out; clear HM1; refine hq.mono ?_; rintro e w1 ⟨rfl, hb1⟩; clear hq; have HB1 := hidE hb1; clear hb1)
        | (go_at_call 42; refine (HM2.out _ HB1.out).mono ?_; rintro e w2 ⟨rfl, hb2⟩; have HB2 := hidE (HB1.out.trans (hb2.mono HB1.out.size)); clear hb2; have d := (HB2.out.cell (p := ⟨0, 0, none⟩) (World.block_lt_of_cell? w _ HE.out)).trans HE.out; unfold errArg at d)
        | fail)
      go_quiet ((fail))
      go_wp2
      go_returns
      exact ⟨_, [], rfl, OwnR.nil _ _, trivial, fun h => (by cases h), fun _ => rfl, below_drewN HB2.out _⟩
    | true =>
      rw [hm2] at HM2
      have HE1 := hidE (fun w' (h : Below w.heap.size w w') => edges_any la a1 cap1 hl1 w' (hr1.later h) hm1)
      have HE2 := hidE (fun w' (h : Below w.heap.size w w') => edges_any lb a2 cap2 hl2 w' (hr2.later h) hm2)
      have HW := hidE (fun E1 E2 (h1 : E1.Perm (edgesOf la) ∧ E1.Pairwise (fun x y => x.1 ≤ y.1)) (h2 : E2.Perm (edgesOf lb) ∧ E2.Pairwise (fun x y => x.1 ≤ y.1)) a1 a2 cap1 cap2 hc1 hc2 w hr1 hr2 hb1 hb2 => walk_any g f hg hf la lb E1 E2 (SideAt.start hm1 h1.1 h1.2) (SideAt.start hm2 h2.1 h2.2) hl1 hl2 a1 a2 cap1 cap2 hc1 hc2 w hr1 hr2 hb1 hb2)
      clear hr1 hr2 hE hg
      go_enter Tryd.func27, Tryd.ntmps27
      go_wp2_with (first
        | (go_at_call 42; have hq := HM1.out; clear HM1; refine hq.mono ?_; rintro e w1 ⟨rfl, hb1⟩; clear hq; have HB1 := hidE hb1; clear hb1)
        | (go_at_call 42; have hq := HM2.out; clear HM2; refine (hq _ HB1.out).mono ?_; rintro e w2 ⟨rfl, hb2⟩; clear hq; have HB2 := hidE (HB1.out.trans (hb2.mono HB1.out.size)); clear hb2)
        | (go_at_call 44; have hq := HE1.out; clear HE1; refine (hq _ HB2.out).mono ?_; rintro e w3 ⟨g3, c3, E3, rfl, p3, s3, r3, l3, z3, hb3⟩; clear hq; have HB3 := hidE (HB2.out.trans (hb3.mono HB2.out.size)); have HP3 := hidE (And.intro p3 s3); have HR3 := hidE r3; clear hb3 p3 s3 r3)
        | (go_at_call 44; have hq := HE2.out; clear HE2; refine (hq _ HB3.out).mono ?_; rintro e w4 ⟨g4, c4, E4, rfl, p4, s4, r4, l4, z4, hb4⟩; clear hq; have HB4 := hidE (HB3.out.trans (hb4.mono HB3.out.size)); have HP4 := hidE (And.intro p4 s4); have HR4 := hidE r4; have HR3' := hidE (HR3.out.later hb4); have z3' := Nat.lt_of_lt_of_le z3 hb4.size; clear hb4 p4 s4 r4)
        | (go_at_call 43; refine (HW.out E3 E4 HP3.out HP4.out _ _ _ _ l3 l4 _ HR3'.out HR4.out (fun p hp => by cases hp; exact z3') (fun p hp => by cases hp; exact z4)).mono ?_; rintro e w5 ⟨v, l, rfl, ho, hn, hp, hb5⟩)
        | fail)
      go_returns
      exact ⟨_, l, rfl, ho.base HB4.out.size, hn, fun _ => hp, fun h => (by cases h), HB4.out.trans (hb5.mono HB4.out.size)⟩
end Go.Proofs.YtnkllhihdjjmnaaDoor
