/-
  EdgesW, CombW, FaceW, PfSoW, PfAd4W, PfTkW, PfPyW, PfLiW, PfPaM, PfPaW, PfLwW.
-/
import Derived.Test.YthdmhelgmejicaaGreatDoorEdgeLW
import Derived.Shelf.SlSortCmp.WholeK
import Derived.Shelf.SlicesG.Cmp
import Derived.Test.YthdmhelgmejicaaGreatDoorShelfS
import Derived.Ground.SlsfProg
import Derived.Ground.SlgcProg
import Derived.Test.YthdmhelgmejicaaGreatDoorWalkW
import Derived.Test.YthdmhelgmejicaaGreatDoorPfPtW
import Derived.Lib.OwnBridge
import Derived.Test.YthdmhelgmejicaaGreatDoorPfAd2W
import Derived.Test.YthdmhelgmejicaaGreatDoorPfAd3W
import Derived.Test.YthdmhelgmejicaaGreatDoorPfRc4W
import Derived.Test.YthdmhelgmejicaaGreatDoorPfCtW
import Derived.Test.YthdmhelgmejicaaGreatDoorPfPrXW
import Derived.Test.YthdmhelgmejicaaGreatDoorPfLsM
import Derived.Test.YthdmhelgmejicaaGreatDoorPfSmW
import Derived.RangeFuncNested
import Derived.RangeFuncBound
import Derived.RangeFuncCalls
import Derived.RangeFuncLeaves
import Derived.RangeFuncBox
import Derived.Shelf.Abstract
import Derived.OwnWalkIn
import Derived.TacticsInMore
import Derived.LoopNIn
import Derived.LoopIn
import Derived.Deep.OwnRows
import Derived.Maps.OwnIn
namespace Go.Proofs.YthdmhelgmejicaaGreatDoor
open Go.Shelf Go.RowKit Go.Lib Go.Sort


def encE (x : Int × Int) : List Value := [.int .i64 x.1, .int .i64 x.2]
theorem ltE (x y : Int × Int) : ltOf (fun x y : Int × Int => Lib.compareInt x.1 y.1) x y = decide (x.1 < y.1) := by
  unfold ltOf Lib.compareInt
  by_cases h1 : x.1 < y.1
  · simp [h1]
  · by_cases h2 : y.1 < x.1 <;> simp [h1, h2]
theorem swoE : SWO (ltOf fun x y : Int × Int => Lib.compareInt x.1 y.1) where
  irrefl x := by rw [ltE]; simp
  trans x y z h1 h2 := by rw [ltE] at *; simp at *; omega
  ntrans x y z h1 h2 := by rw [ltE] at *; simp at *; omega
set_option maxHeartbeats 1000000 in
theorem closureE (x y : Int × Int) (W : World) : Calls Tryz.prog 148 #[.agg #[.int .i64 x.1, .int .i64 x.2], .agg #[.int .i64 y.1, .int .i64 y.2]] W fun e w' => e = .returned (.int .i64 (Lib.compareInt x.1 y.1)) ∧ ∃ q os', w' = grow (W.drewN q) os' := by
  have hcon := fun W' => AnyG.cmp_Compare_int Tryz.cmpInt x.1 y.1 W'
  change ∀ W', Calls Tryz.prog 52 _ _ _ at hcon
  generalize Lib.compareInt x.1 y.1 = r at hcon ⊢
  go_enter Tryz.func148, Tryz.ntmps148
  go_wp2_with (go_at_call 52; refine (hcon _).mono ?_; rintro e w' ⟨rfl, rfl⟩)
  go_ret
  exact ⟨rfl, 0, _, by rw [alloc_eq_grow, alloc_eq_grow, grow_grow]; rfl⟩
theorem cmpLaysE (blk off size : Nat) (w : World) : CmpLays Tryz.prog 148 #[] encE 2 (fun x y => Lib.compareInt x.1 y.1) blk off size w :=
  fun _ _ _ _ x y => closureE x y _
theorem sortE_any (blk off cap : Nat) (d : Array (Int × Int)) (w : World) (hH : HoldsK encE 2 w blk off d) (hblk : blk < w.heap.size) (hsz : d.size < 4611686018427387904) :
    Calls Tryz.prog 147 #[.slice (some ⟨blk, off, none⟩) d.size cap, .func (.func 148) #[] #[]] w fun e w' => e = .returned (.tuple #[]) ∧ ∃ d' n os, PermIn 0 d.size d d' ∧ SortedIn (ltOf fun x y : Int × Int => Lib.compareInt x.1 y.1) 0 d.size d' ∧ w' = sortWorldK encE 2 w blk off n d' os := by
  have eg : ∀ args w, (callFunc 148 args).run Tryz.prog w = .ok (.enter 148 args) w := enters_of Tryz.func148 (by kernel_rfl) rfl
  exact AnyQ.slices_SortFunc Tryz.sortE 2 Tryz.isAgg181 Tryz.sizeOf181 encE (fun _ => rfl) (fun x v hv => by simp [encE] at hv; rcases hv with rfl | rfl <;> rfl) (fun x y => Lib.compareInt x.1 y.1) swoE 148 #[] blk off cap d w eg (cmpLaysE blk off d.size w) hH hblk hsz
theorem flat_cells (E : List (Int × Int)) (j : Nat) (hj : j < E.length * 2) : (cellsR E)[j]? = some ((encE E.toArray[j / 2]!)[j % 2]!) := by
  obtain ⟨k, hk⟩ : ∃ k, j = k * 2 ∨ j = k * 2 + 1 := ⟨j / 2, by omega⟩
  rcases hk with rfl | rfl
  · have h2 : k < E.length := by omega
    have e : E.toArray[k]! = E[k] := by simp [h2]
    rw [(cellsR_at E k h2).1, show k * 2 / 2 = k by omega, show k * 2 % 2 = 0 by omega, e]
    rfl
  · have h2 : k < E.length := by omega
    have e : E.toArray[k]! = E[k] := by simp [h2]
    rw [(cellsR_at E k h2).2, show (k * 2 + 1) / 2 = k by omega, show (k * 2 + 1) % 2 = 1 by omega, e]
    rfl
theorem holds_of {w : World} {base g c : Nat} {E : List (Int × Int)} (h : OwnE w base (.slice (some ⟨g, 0, none⟩) E.length c) E) : HoldsK encE 2 w g 0 E.toArray := by
  intro j hj
  rw [size_flatK] at hj
  rw [get_flatK _ _ _ _ hj, Nat.zero_add]
  have h0 := h
  rcases h.2 with ⟨h', _⟩ | ⟨g', cap', cur, h', _⟩
  · simp at h'
  · simp only [Value.slice.injEq, Option.some.injEq, Addr.mk.injEq, and_true] at h'
    obtain ⟨rfl, _⟩ := h'
    simp only [List.size_toArray] at hj
    refine ⟨?_, World.ownsRow.frozenAt h0 j⟩
    rw [World.ownsRow.cellAt h0 j hj]
    exact flat_cells E j hj
theorem ra_of {w : World} {g : Nat} {d : Array (Int × Int)} (h : HoldsK encE 2 w g 0 d) : RA w (some ⟨g, 0, none⟩) d.toList := ⟨fun k hk => by
  have hk' : k < d.size := by simpa using hk
  have h0 := (HoldsK.cell h hk' (c := 0) (by omega))
  have h1 := (HoldsK.cell h hk' (c := 1) (by omega))
  have e : d[k]! = d.toList[k] := by simp [hk']
  rw [e] at h0 h1
  exact ⟨g, 0, rfl, h0.1, h1.1⟩⟩
theorem sorts : Sorts := by
  intro base g c E w hl hown
  have hlt := World.ownsRow.lt hown g rfl
  have h := sortE_any g 0 c E.toArray w (holds_of hown) hlt.2 (by simp; omega)
  rw [List.size_toArray] at h
  refine h.mono ?_
  rintro e w' ⟨rfl, d', n, os, hp, hs, rfl⟩
  have hsz : d'.size = E.length := by rw [hp.1]; simp
  refine ⟨rfl, d'.toList, ?_, ?_, ?_, ?_⟩
  · have := hp.2.2
    have e1 : (d'.extract 0 E.length) = d' := by rw [← hsz]; simp
    rw [e1] at this
    simpa using this
  · rw [List.pairwise_iff_getElem]
    intro i j hi hj hij
    simp only [Array.length_toList] at hi hj
    have := hs i j (Nat.zero_le _) hij (by omega)
    rw [ltE] at this
    simp only [decide_eq_false_iff_not] at this
    rw [getElem!_pos d' i hi, getElem!_pos d' j hj] at this
    simp only [Array.getElem_toList]
    omega
  · exact ra_of (holdsK_sortWorldK_c encE 2 w g 0 E.toArray d' n os (holds_of hown) hlt.2 (by simpa using hsz))
  · refine ⟨rfl, rfl, rfl, size_sortWorldK_c encE 2 w g 0 n d' os, fun k hk hne => ?_⟩
    have hne' : ¬ g = k := fun e => hne e.symm
    show ((w.heap.modify g _) ++ os)[k]? = w.heap[k]?
    rw [Array.getElem?_append_left (by rw [Array.size_modify]; exact hk), Array.getElem?_modify, if_neg hne']
theorem edges_any (l : List (Int × Int)) (a : Option Addr) (cap : Nat) (hl : l.length ≤ 50000000) (w : World) (ha : RA w a l) (hm : mayL l = true) :
    Calls Tryz.prog 114 #[.slice a l.length cap] w fun e w' => ∃ g c E, e = .returned (.slice (some ⟨g, 0, none⟩) E.length c) ∧ E.Perm (edgesOf l) ∧ E.Pairwise (fun x y => x.1 ≤ y.1) ∧ RA w' (some ⟨g, 0, none⟩) E ∧ E.length ≤ c ∧ g < w'.heap.size ∧ Go.RowKit.Below w.heap.size w w' := edges_of sorts l a cap hl w ha hm
end Go.Proofs.YthdmhelgmejicaaGreatDoor
namespace Go.Proofs.YthdmhelgmejicaaGreatDoor
open Go.RowKit
/-- What is answered of a set: the list, or none and a refusal. -/
def errArg (A0 : Addr) : Value := .iface 236 (.pointer (some A0))
def errVal (A0 : Addr) (ok : Bool) : Value := if ok then .nilIface else errArg A0
def Answered (w w' : World) (A0 : Addr) (ok : Bool) (W : Int → Bool) (e : Ending) : Prop :=
  ∃ v l, e = .returned (.tuple #[v, errVal A0 ok]) ∧ OwnR w' w.heap.size v l ∧ NormF 0 l ∧ (ok = true → ∀ p, pts l p = W p) ∧ (ok = false → l = []) ∧ Below w.heap.size w w'
set_option maxRecDepth 10000 in
set_option maxHeartbeats 800000 in
theorem combine_any (g : Nat) (f : Bool → Bool → Bool) (hg : Chooses g f) (hf : f false false = false) (la lb : List (Int × Int)) (hl1 : la.length ≤ 50000000) (hl2 : lb.length ≤ 50000000)
    (a1 a2 : Option Addr) (cap1 cap2 : Nat) (A0 : Addr) (w : World) (hr1 : RA w a1 la) (hr2 : RA w a2 lb) (hE : w.cell? ⟨1, 0, none⟩ = some (errArg A0)) :
    Calls Tryz.prog 87 #[.slice a1 la.length cap1, .slice a2 lb.length cap2, .func (.func g) #[] #[]] w fun e w' => Answered w w' A0 (mayL la && mayL lb) (fun p => f (pts la p) (pts lb p)) e := by
  have HM1 := hidE (mayBe_any la a1 cap1 (by omega) w hr1)
  have HM2 := hidE (fun w' (h : Below w.heap.size w w') => mayBe_any lb a2 cap2 (by omega) w' (hr2.later h))
  have HE := hidE hE
  cases hm1 : mayL la with
  | false =>
    rw [hm1] at HM1
    clear hr1 hr2 HM2 hE
    go_enter Tryz.func87, Tryz.ntmps87
    go_wp2_with (go_at_call 112; refine HM1.out.mono ?_; rintro e w1 ⟨rfl, hb1⟩; have d := (hb1.cell (p := ⟨1, 0, none⟩) (World.block_lt_of_cell? w _ HE.out)).trans HE.out; unfold errArg at d)
    go_quiet ((fail))
    go_wp2
    go_returns
    exact ⟨_, [], rfl, OwnR.nil _ _, trivial, fun h => (by cases h), fun _ => rfl, below_drewN hb1 _⟩
  | true =>
    rw [hm1] at HM1
    cases hm2 : mayL lb with
    | false =>
      rw [hm2] at HM2
      clear hr1 hr2 hE
      go_enter Tryz.func87, Tryz.ntmps87
      go_wp2_with (first
        | (go_at_call 112; have hq := HM1.out; clear HM1; refine hq.mono ?_; rintro e w1 ⟨rfl, hb1⟩; clear hq; have HB1 := hidE hb1; clear hb1)
        | (go_at_call 112; refine (HM2.out _ HB1.out).mono ?_; rintro e w2 ⟨rfl, hb2⟩; have HB2 := hidE (HB1.out.trans (hb2.mono HB1.out.size)); clear hb2; have d := (HB2.out.cell (p := ⟨1, 0, none⟩) (World.block_lt_of_cell? w _ HE.out)).trans HE.out; unfold errArg at d)
        | fail)
      go_quiet ((fail))
      go_wp2
      go_returns
      exact ⟨_, [], rfl, OwnR.nil _ _, trivial, fun h => (by cases h), fun _ => rfl, below_drewN HB2.out _⟩
    | true =>
      rw [hm2] at HM2
      have HE1 := hidE (fun w' (h : Below w.heap.size w w') => edges_any la a1 cap1 hl1 w' (hr1.later h) hm1)
      have HE2 := hidE (fun w' (h : Below w.heap.size w w') => edges_any lb a2 cap2 hl2 w' (hr2.later h) hm2)
      have HW := hidE (fun E1 E2 (h1 : E1.Perm (edgesOf la) ∧ E1.Pairwise (fun x y => x.1 ≤ y.1)) (h2 : E2.Perm (edgesOf lb) ∧ E2.Pairwise (fun x y => x.1 ≤ y.1)) a1 a2 cap1 cap2 hc1 hc2 w hr1 hr2 hb1 hb2 => walk_any g f hg hf la lb E1 E2 (SideAt.start hm1 h1.1 h1.2) (SideAt.start hm2 h2.1 h2.2) hl1 hl2 a1 a2 cap1 cap2 hc1 hc2 w hr1 hr2 hb1 hb2)
      clear hr1 hr2 hE hg
      go_enter Tryz.func87, Tryz.ntmps87
      go_wp2_with (first
        | (go_at_call 112; have hq := HM1.out; clear HM1; refine hq.mono ?_; rintro e w1 ⟨rfl, hb1⟩; clear hq; have HB1 := hidE hb1; clear hb1)
        | (go_at_call 112; have hq := HM2.out; clear HM2; refine (hq _ HB1.out).mono ?_; rintro e w2 ⟨rfl, hb2⟩; clear hq; have HB2 := hidE (HB1.out.trans (hb2.mono HB1.out.size)); clear hb2)
        | (go_at_call 114; have hq := HE1.out; clear HE1; refine (hq _ HB2.out).mono ?_; rintro e w3 ⟨g3, c3, E3, rfl, p3, s3, r3, l3, z3, hb3⟩; clear hq; have HB3 := hidE (HB2.out.trans (hb3.mono HB2.out.size)); have HP3 := hidE (And.intro p3 s3); have HR3 := hidE r3; clear hb3 p3 s3 r3)
        | (go_at_call 114; have hq := HE2.out; clear HE2; refine (hq _ HB3.out).mono ?_; rintro e w4 ⟨g4, c4, E4, rfl, p4, s4, r4, l4, z4, hb4⟩; clear hq; have HB4 := hidE (HB3.out.trans (hb4.mono HB3.out.size)); have HP4 := hidE (And.intro p4 s4); have HR4 := hidE r4; have HR3' := hidE (HR3.out.later hb4); have z3' := Nat.lt_of_lt_of_le z3 hb4.size; clear hb4 p4 s4 r4)
        | (go_at_call 113; refine (HW.out E3 E4 HP3.out HP4.out _ _ _ _ l3 l4 _ HR3'.out HR4.out (fun p hp => by cases hp; exact z3') (fun p hp => by cases hp; exact z4)).mono ?_; rintro e w5 ⟨v, l, rfl, ho, hn, hp, hb5⟩)
        | fail)
      go_returns
      exact ⟨_, l, rfl, ho.base HB4.out.size, hn, fun _ => hp, fun h => (by cases h), HB4.out.trans (hb5.mono HB4.out.size)⟩
end Go.Proofs.YthdmhelgmejicaaGreatDoor
namespace Go.Proofs.YthdmhelgmejicaaGreatDoor
open Go.RowKit
theorem Answered.trans {w w1 w2 : World} {A0 : Addr} {ok ok' : Bool} {W W' : Int → Bool} {e : Ending} (h : Answered w1 w2 A0 ok W e) (hb : Below w.heap.size w w1) (ho : ok = ok') (hW : ∀ p, W p = W' p) : Answered w w2 A0 ok' W' e := by
  obtain ⟨v, l, h1, h2, h3, h4, h5, h6⟩ := h
  subst ho
  exact ⟨v, l, h1, h2.base hb.size, h3, fun h p => (h4 h p).trans (hW p), h5, hb.trans (h6.mono hb.size)⟩
theorem cellE_later {w w' : World} {A0 : Addr} (hE : w.cell? ⟨1, 0, none⟩ = some (errArg A0)) (hb : Below w.heap.size w w') : w'.cell? ⟨1, 0, none⟩ = some (errArg A0) :=
  (hb.cell (p := ⟨1, 0, none⟩) (World.block_lt_of_cell? w _ hE)).trans hE
set_option maxRecDepth 10000 in
set_option maxHeartbeats 400000 in
theorem normal_any (l : List (Int × Int)) (hl : l.length ≤ 50000000) (a : Option Addr) (cap : Nat) (A0 : Addr) (w : World) (hr : RA w a l) (hE : w.cell? ⟨1, 0, none⟩ = some (errArg A0)) :
    Calls Tryz.prog 49 #[.slice a l.length cap] w fun e w' => Answered w w' A0 (mayL l) (pts l) e := by
  have hC := combine_any _ _ either_chooses rfl l [] hl (by simp) a none cap 0 A0 w hr (RA.nil _ _) hE
  rw [List.length_nil] at hC
  have HC := hidE hC
  clear hr hE hC
  go_enter Tryz.func49, Tryz.ntmps49
  go_wp2_with (go_at_call 87; refine HC.out.mono ?_; rintro e w1 ⟨v, m, rfl, h2⟩)
  go_returns
  exact Answered.trans ⟨v, m, rfl, h2⟩ (Below.refl _ _) (by rw [show mayL [] = true from rfl, Bool.and_true]) (fun p => by simp [pts_nil])
def inAll (p : Int) : Bool := decide (0 ≤ p) && decide (p ≤ 1114111)
end Go.Proofs.YthdmhelgmejicaaGreatDoor
namespace Go.Proofs.YthdmhelgmejicaaGreatDoor
open Go.Shelf Go.RowKit Go.Lib Go.Sort
def encP (x : Sp) : List Value := [.int .i64 x.1, .int .i64 x.2.1, .int .i64 x.2.2]
theorem ltP (x y : Sp) : ltOf (fun x y : Sp => Lib.compareInt x.1 y.1) x y = decide (x.1 < y.1) := by
  unfold ltOf Lib.compareInt
  by_cases h1 : x.1 < y.1
  · simp [h1]
  · by_cases h2 : y.1 < x.1 <;> simp [h1, h2]
theorem swoP : SWO (ltOf fun x y : Sp => Lib.compareInt x.1 y.1) where
  irrefl x := by rw [ltP]; simp
  trans x y z h1 h2 := by rw [ltP] at *; simp at *; omega
  ntrans x y z h1 h2 := by rw [ltP] at *; simp at *; omega
set_option maxHeartbeats 1000000 in
theorem closureP (x y : Sp) (W : World) : Calls Tryz.prog 51 #[.agg #[.int .i64 x.1, .int .i64 x.2.1, .int .i64 x.2.2], .agg #[.int .i64 y.1, .int .i64 y.2.1, .int .i64 y.2.2]] W fun e w' => e = .returned (.int .i64 (Lib.compareInt x.1 y.1)) ∧ ∃ q os', w' = grow (W.drewN q) os' := by
  have hcon := fun W' => AnyG.cmp_Compare_int Tryz.cmpInt x.1 y.1 W'
  change ∀ W', Calls Tryz.prog 52 _ _ _ at hcon
  generalize Lib.compareInt x.1 y.1 = r at hcon ⊢
  go_enter Tryz.func51, Tryz.ntmps51
  go_wp2_with (go_at_call 52; refine (hcon _).mono ?_; rintro e w' ⟨rfl, rfl⟩)
  go_ret
  exact ⟨rfl, 0, _, by rw [alloc_eq_grow, alloc_eq_grow, grow_grow]; rfl⟩
theorem cmpLaysP (blk off size : Nat) (w : World) : CmpLays Tryz.prog 51 #[] encP 3 (fun x y => Lib.compareInt x.1 y.1) blk off size w :=
  fun _ _ _ _ x y => closureP x y _
theorem sortP_any (blk off cap : Nat) (d : Array Sp) (w : World) (hH : HoldsK encP 3 w blk off d) (hblk : blk < w.heap.size) (hsz : d.size < 4611686018427387904) :
    Calls Tryz.prog 50 #[.slice (some ⟨blk, off, none⟩) d.size cap, .func (.func 51) #[] #[]] w fun e w' => e = .returned (.tuple #[]) ∧ ∃ d' n os, PermIn 0 d.size d d' ∧ SortedIn (ltOf fun x y : Sp => Lib.compareInt x.1 y.1) 0 d.size d' ∧ w' = sortWorldK encP 3 w blk off n d' os := by
  have eg : ∀ args w, (callFunc 51 args).run Tryz.prog w = .ok (.enter 51 args) w := enters_of Tryz.func51 (by kernel_rfl) rfl
  exact AnyQ.slices_SortFunc Tryz.sortSpan 3 Tryz.isAgg72 Tryz.sizeOf72 encP (fun _ => rfl) (fun x v hv => by simp [encP] at hv; rcases hv with rfl | rfl | rfl <;> rfl) (fun x y => Lib.compareInt x.1 y.1) swoP 51 #[] blk off cap d w eg (cmpLaysP blk off d.size w) hH hblk hsz
theorem flat_cellsP (E : List Sp) (j : Nat) (hj : j < E.length * 3) : (cellsP E)[j]? = some ((encP E.toArray[j / 3]!)[j % 3]!) := by
  obtain ⟨k, hk⟩ : ∃ k, j = k * 3 ∨ j = k * 3 + 1 ∨ j = k * 3 + 2 := ⟨j / 3, by omega⟩
  rcases hk with rfl | rfl | rfl
  · have h2 : k < E.length := by omega
    have e : E.toArray[k]! = E[k] := by simp [h2]
    rw [(cellsP_at E k h2).1, show k * 3 / 3 = k by omega, show k * 3 % 3 = 0 by omega, e]
    rfl
  · have h2 : k < E.length := by omega
    have e : E.toArray[k]! = E[k] := by simp [h2]
    rw [(cellsP_at E k h2).2.1, show (k * 3 + 1) / 3 = k by omega, show (k * 3 + 1) % 3 = 1 by omega, e]
    rfl
  · have h2 : k < E.length := by omega
    have e : E.toArray[k]! = E[k] := by simp [h2]
    rw [(cellsP_at E k h2).2.2, show (k * 3 + 2) / 3 = k by omega, show (k * 3 + 2) % 3 = 2 by omega, e]
    rfl
theorem holdsP_of {w : World} {base g c : Nat} {E : List Sp} (h : OwnP w base (.slice (some ⟨g, 0, none⟩) E.length c) E) : HoldsK encP 3 w g 0 E.toArray := by
  intro j hj
  rw [size_flatK] at hj
  rw [get_flatK _ _ _ _ hj, Nat.zero_add]
  have h0 := h
  rcases h.2 with ⟨h', _⟩ | ⟨g', cap', cur, h', _⟩
  · simp at h'
  · simp only [Value.slice.injEq, Option.some.injEq, Addr.mk.injEq, and_true] at h'
    obtain ⟨rfl, _⟩ := h'
    simp only [List.size_toArray] at hj
    refine ⟨?_, World.ownsRow.frozenAt h0 j⟩
    rw [World.ownsRow.cellAt h0 j hj]
    exact flat_cellsP E j hj
theorem own_put {w : World} {base g cap q : Nat} {E B : List Sp} (h : OwnP w base (.slice (some ⟨g, 0, none⟩) E.length cap) E) (hl : B.length = E.length) (os : Array Obj) : OwnP (sortWorldK encP 3 w g 0 q B.toArray os) base (.slice (some ⟨g, 0, none⟩) B.length cap) B := by
  rcases h.2 with ⟨e0, _⟩ | ⟨g', cap', cur, e0, hb, hg, hn, hm, hs, ht⟩
  · cases e0
  · injection e0 with e1 _ e3
    injection e1 with e1
    injection e1 with e1
    subst e1; subst e3
    refine ⟨cellsP_length B, .inr ⟨g, cap, putCells id 0 (flatK encP 3 B.toArray) cur, rfl, hb, ?_, by omega, hm, by simpa [putCells] using hs, ?_⟩⟩
    · have hlt := (Array.getElem?_eq_some_iff.1 hg).1
      show ((putRowK encP 3 (Sort.ahead w q) g 0 B.toArray).heap ++ os)[g]? = _
      rw [Array.getElem?_append_left (by simpa [putRowK, putRow, mapBlock, Sort.ahead] using hlt)]
      simp [putRowK, putRow, mapBlock, Sort.ahead, Array.getElem?_modify, hg, onCells]
    · apply List.ext_getElem?
      intro j
      rw [List.getElem?_take, Array.getElem?_toList]
      by_cases hj : j < B.length * 3
      · have hjc : j < cur.size := by omega
        simp only [if_pos hj, putCells, Array.getElem?_mapIdx, Array.getElem?_eq_getElem hjc, Option.map_some]
        rw [if_pos (by simp; omega), flat_cellsP B j hj, Nat.sub_zero, get_flatK _ _ _ _ (by simpa using hj)]
        rfl
      · rw [if_neg hj, List.getElem?_eq_none (by rw [cellsP_length]; omega)]
theorem sortSpan_any (base g c : Nat) (E : List Sp) (w : World) (hl : E.length ≤ 100000000) (hown : OwnP w base (.slice (some ⟨g, 0, none⟩) E.length c) E) :
    Calls Tryz.prog 50 #[.slice (some ⟨g, 0, none⟩) E.length c, .func (.func 51) #[] #[]] w fun e w' => e = .returned (.tuple #[]) ∧ ∃ B, B.Perm E ∧ B.Pairwise (fun x y => x.1 ≤ y.1) ∧ OwnP w' base (.slice (some ⟨g, 0, none⟩) E.length c) B ∧ w.grownBy w' (some g) := by
  have hlt := World.ownsRow.lt hown g rfl
  have h := sortP_any g 0 c E.toArray w (holdsP_of hown) hlt.2 (by simp; omega)
  rw [List.size_toArray] at h
  refine h.mono ?_
  rintro e w' ⟨rfl, d', n, os, hp, hs, rfl⟩
  have hsz : d'.size = E.length := by rw [hp.1]; simp
  refine ⟨rfl, d'.toList, ?_, ?_, ?_, ?_⟩
  · have := hp.2.2
    have e1 : (d'.extract 0 E.length) = d' := by rw [← hsz]; simp
    rw [e1] at this
    simpa using this
  · rw [List.pairwise_iff_getElem]
    intro i j hi hj hij
    simp only [Array.length_toList] at hi hj
    have := hs i j (Nat.zero_le _) hij (by omega)
    rw [ltP] at this
    simp only [decide_eq_false_iff_not] at this
    rw [getElem!_pos d' i hi, getElem!_pos d' j hj] at this
    simp only [Array.getElem_toList]
    omega
  · have := own_put (q := n) (B := d'.toList) hown (by simpa using hsz) os
    rw [show d'.toList.toArray = d' by simp, show d'.toList.length = E.length by simpa using hsz] at this
    exact this
  · refine ⟨rfl, rfl, rfl, size_sortWorldK_c encP 3 w g 0 n d' os, fun k hk hne => ?_⟩
    have hne' : ¬ g = k := fun e => hne (by rw [e])
    show ((w.heap.modify g _) ++ os)[k]? = w.heap[k]?
    rw [Array.getElem?_append_left (by rw [Array.size_modify]; exact hk), Array.getElem?_modify, if_neg hne']
end Go.Proofs.YthdmhelgmejicaaGreatDoor
namespace Go.Proofs.YthdmhelgmejicaaGreatDoor
open Go.RowKit Go.Shelf
/-- The reading in memory, as what the lines up to here have said. -/
structure RSt (w : World) (base R G N cap : Nat) (st : PS) : Prop where
  rs : ∃ vN vP vs, RS w base R G N cap st.cl.length st.names (partsOf st.cl) (saidB st.cl) vN vP vs ∧ vs.length = st.names.length
  ok : st.Ok
  nc : st.cl.length ≤ 65536
  nn : st.names.length ≤ 62
/-- What add does with a line's claim. -/
def addStep (s : PS) (lo hi : Nat) (nm : ByteArray) : LR :=
  if 65536 < s.cl.length + 1 ∨ (Lib.idxOfS s.names nm < 0 ∧ 62 ≤ s.names.length) then .stop 2
  else if s.sp.any (meets ((lo : Int), (hi : Int), atOf s.names nm)) then .stop 4
  else .go ⟨if Lib.idxOfS s.names nm < 0 then s.names ++ [nm] else s.names, s.cl ++ [((lo : Int), (hi : Int), atOf s.names nm)], putS s.sp ((lo : Int), (hi : Int), atOf s.names nm)⟩
def LineOut (A : Nat → Addr) (r : LR) (v : Value) (P : PS → Prop) : Prop := match r with
  | .go s => v = .nilIface ∧ P s
  | .stop i => v = errAt A i
theorem RSt.later {w w' : World} {base R G N cap : Nat} {st : PS} (h : RSt w base R G N cap st) (hb : Below w.heap.size w w') : RSt w' base R G N cap st := by
  obtain ⟨⟨vN, vP, vs, h1, h2⟩, h3, h4, h5⟩ := h
  exact ⟨⟨vN, vP, vs, h1.later hb, h2⟩, h3, h4, h5⟩
theorem parts_len (cl : List Sp) (k : Nat) : (partsOf cl k).length ≤ cl.length := by
  unfold partsOf
  rw [List.length_map]
  exact List.length_filter_le _ _
theorem parts_set (cl : List Sp) (lo hi : Int) (k : Nat) : partsOf (cl ++ [(lo, hi, (k : Int))]) = fun j => if j = k then partsOf cl k ++ [(lo, hi)] else partsOf cl j := by
  funext j
  rw [parts_snoc]
  by_cases h : j = k
  · subst h; simp
  · rw [if_neg (by simp; omega), if_neg h, List.append_nil]
theorem parts_none (st : PS) (hk : st.Ok) : partsOf st.cl st.names.length = [] := by
  unfold partsOf
  rw [List.map_eq_nil_iff, List.filter_eq_nil_iff]
  intro t ht
  obtain ⟨_, _, k, h1, h2⟩ := hk.bnd t ht
  simp; omega
theorem line_add (st : PS) (b : By) (hb : ¬ b = []) {lo hi : Nat} {nm : By} (hs : saidL b = some (lo, hi, nm)) (hc : chkNo lo hi nm = none) : lineStep st b = addStep st lo hi (rd nm) := by
  rw [lineStep, if_neg hb, hs]
  simp only
  rw [hc]
  rfl
theorem add_any (st : PS) (lo hi : Nat) (nm : ByteArray) (base R G N cap : Nat) (A : Nat → Addr) (w : World) (h : RSt w base R G N cap st)
    (hE2 : w.cell? ⟨0, 0, none⟩ = some (errAt A 2)) (hE4 : w.cell? ⟨4, 0, none⟩ = some (errAt A 4)) (hg2 : 0 < base) (hg4 : 4 < base)
    (hbs : base ≤ w.heap.size) (hNm : nm.size ≤ 4194400) (hlo : lo ≤ hi) (hh : hi < 64 * N) (hN : N ≤ 1000000) (hOk : ∀ s', addStep st lo hi nm = .go s' → s'.Ok) :
    Calls Tryz.prog 48 #[.pointer (some ⟨R, 0, none⟩), .agg #[.int .i64 (lo : Int), .int .i64 (hi : Int), .string nm]] w fun e w' => ∃ v, e = .returned v ∧ Frm base R G w w' ∧ LineOut A (addStep st lo hi nm) v (RSt w' base R G N cap) := by
  obtain ⟨vN, vP, vs, hrs, hvl⟩ := h.rs
  have hc := h.nc
  have hn := h.nn
  by_cases m1 : 65536 < st.cl.length + 1 ∨ (Lib.idxOfS st.names nm < 0 ∧ 62 ≤ st.names.length)
  · have e : addStep st lo hi nm = .stop 2 := by rw [addStep, if_pos m1]
    rw [e]
    refine (add_many st.names (partsOf st.cl) (saidB st.cl) st.cl.length lo hi nm base R G N cap vN vP vs A w hrs hE2 hE4 hg2 hg4 hc hn hbs hNm hlo hh hN m1).mono ?_
    rintro e' w' ⟨h1, h2⟩
    exact ⟨_, h2, h1, rfl⟩
  · by_cases m2 : st.sp.any (meets ((lo : Int), (hi : Int), atOf st.names nm)) = true
    · have e : addStep st lo hi nm = .stop 4 := by rw [addStep, if_neg m1, if_pos m2]
      rw [e]
      refine (add_twice st.names (partsOf st.cl) (saidB st.cl) st.cl.length lo hi nm base R G N cap vN vP vs A w hrs hE2 hE4 hg2 hg4 hc hn hbs hNm hlo hh hN (fun h => m1 (.inl h)) (fun h => Nat.lt_of_not_le (fun h2 => m1 (.inr ⟨h, h2⟩))) ((said_meets st h.ok lo hi hlo _).2 m2)).mono ?_
      rintro e' w' ⟨h1, h2⟩
      exact ⟨_, h2, h1, rfl⟩
    · have hq : ∀ q, lo ≤ q → q ≤ hi → saidB st.cl q = false := fun q h1 h2 => by
        cases hb : saidB st.cl q with
        | false => rfl
        | true => exact absurd ((said_meets st h.ok lo hi hlo (atOf st.names nm)).1 ⟨q, h1, h2, hb⟩) m2
      have hsa := said_snoc st.cl lo hi (atOf st.names nm)
      by_cases m3 : Lib.idxOfS st.names nm < 0
      · have ea : atOf st.names nm = (st.names.length : Int) := by rw [atOf, if_pos m3]
        have e : addStep st lo hi nm = .go ⟨st.names ++ [nm], st.cl ++ [((lo : Int), (hi : Int), atOf st.names nm)], putS st.sp ((lo : Int), (hi : Int), atOf st.names nm)⟩ := by rw [addStep, if_neg m1, if_neg m2, if_pos m3]
        have hok := hOk _ e
        rw [e]
        refine (add_new st.names (partsOf st.cl) (saidB st.cl) st.cl.length lo hi nm base R G N cap vN vP vs A w hrs hE2 hE4 hg2 hg4 hc hn hbs hNm hlo hh hN (fun h => m1 (.inl h)) (Nat.lt_of_not_le (fun h2 => m1 (.inr ⟨m3, h2⟩))) m3 hq hvl (parts_none st h.ok)).mono ?_
        rintro e' w' ⟨h1, h2, vN', vP', x', h3⟩
        refine ⟨_, h2, h1, rfl, ⟨⟨vN', vP', (vs ++ [Value.slice none 0 0]).set st.names.length x', ?_, ?_⟩, hok, ?_, ?_⟩⟩
        · rw [ea] at hsa ⊢
          rw [parts_set, ← hsa, List.length_append, List.length_singleton]
          exact h3
        · simp [hvl]
        · simp; omega
        · simp; omega
      · obtain ⟨kx, hkx, hix⟩ := idx_bound st.names nm m3
        have ea : atOf st.names nm = (kx : Int) := by rw [atOf, if_neg m3, hix]
        have e : addStep st lo hi nm = .go ⟨st.names, st.cl ++ [((lo : Int), (hi : Int), atOf st.names nm)], putS st.sp ((lo : Int), (hi : Int), atOf st.names nm)⟩ := by rw [addStep, if_neg m1, if_neg m2, if_neg m3]
        have hok := hOk _ e
        rw [e]
        refine (add_old st.names (partsOf st.cl) (saidB st.cl) st.cl.length lo hi nm base R G N cap vN vP vs A w hrs hE2 hE4 hg2 hg4 hc hn hbs hNm hlo hh hN (fun h => m1 (.inl h)) kx hkx hix hq hvl (Nat.le_trans (parts_len st.cl kx) hc)).mono ?_
        rintro e' w' ⟨h1, h2, x', h3⟩
        refine ⟨_, h2, h1, rfl, ⟨⟨vN, vP, vs.set kx x', ?_, ?_⟩, hok, ?_, hn⟩⟩
        · rw [ea] at hsa ⊢
          rw [parts_set, ← hsa, List.length_append, List.length_singleton]
          exact h3
        · simp [hvl]
        · simp; omega
end Go.Proofs.YthdmhelgmejicaaGreatDoor
namespace Go.Proofs.YthdmhelgmejicaaGreatDoor
open Go.RowKit Go.Shelf
theorem bcell {W w1 : World} (hb : Below W.heap.size W w1) : (∀ b o, b < W.heap.size → w1.cell? ⟨b, o, none⟩ = W.cell? ⟨b, o, none⟩) ∧ (∀ b o, b < W.heap.size → w1.frozen? ⟨b, o, none⟩ = W.frozen? ⟨b, o, none⟩) :=
  ⟨fun b o h => hb.cell (p := ⟨b, o, none⟩) h, fun b o h => hb.frozen (p := ⟨b, o, none⟩) h⟩
theorem drewN_below (w : World) (n : Nat) : Below w.heap.size w (w.drewN n) := ⟨rfl, rfl, rfl, Nat.le_refl _, fun _ _ => rfl⟩
theorem tail_nm {lo hi : Nat} {r : By} {x : Nat × Nat × By} (h : tailL lo hi r = some x) : x.2.2.length ≤ 32 := by
  unfold tailL at h
  split at h
  · simp at h
  · split at h
    · split at h
      · rename_i hn
        simp only [Option.some.injEq] at h
        subst h
        exact ((isNm_iff _).1 hn).2.1
      · simp at h
    · simp at h
theorem said_nm {b : By} {lo hi : Nat} {nm : By} (h : saidL b = some (lo, hi, nm)) : nm.length ≤ 32 := by
  unfold saidL at h
  split at h
  · simp only at h
    split at h
    · split at h
      · exact tail_nm h
      · simp at h
    · exact tail_nm h
  · simp at h
theorem chk_ok {lo hi : Nat} {nm : By} (h : chkNo lo hi nm = none) : lo ≤ hi ∧ hi ≤ 1114111 := by
  unfold chkNo at h
  split at h
  · simp at h
  · split at h
    · simp at h
    · omega
set_option maxRecDepth 10000 in
set_option maxHeartbeats 800000 in
theorem take_any (st : PS) (line : By) (hl : line.length ≤ 4194400) (base R G N cap : Nat) (A : Nat → Addr) (w : World) (h : RSt w base R G N cap st) (hE : Sents w A) (hg2 : 0 < base) (hg4 : 4 < base)
    (hbs : base ≤ w.heap.size) (hN2 : 1114111 < 64 * N) (hN : N ≤ 1000000) :
    Calls Tryz.prog 26 #[.pointer (some ⟨R, 0, none⟩), .string (rd line)] w fun e w' => ∃ v, e = .returned v ∧ Frm base R G w w' ∧ LineOut A (lineStep st (bareOf line)) v (RSt w' base R G N cap) := by
  have hbl := bare_len line
  have HCut : Hid (∀ W, Calls Tryz.prog 43 #[.string (rd line), .string ⟨#[35]⟩] W fun e w' => e = .returned (.tuple #[.string (rd (aheadOf 35 line)), .string (rd (behindOf 35 line)), .bool (decide ((35 : UInt8) ∈ line))]) ∧ ∃ n, w' = W.drewN n) := hid0 (fun W => cut_any (rd line) 35 (by simpa [ByteArray.size] using hl) W)
  have HTr : Hid (∀ W, Calls Tryz.prog 45 #[.string (rd (aheadOf 35 line)), .string ⟨#[32, 9]⟩] W fun e w' => e = .returned (.string (rd (bareOf line))) ∧ Below W.heap.size W w') := hid0 (fun W => trim_any (rd (aheadOf 35 line)) (by
    have : (aheadOf 35 line).length ≤ line.length := (List.takeWhile_sublist _).length_le
    simp [ByteArray.size]; omega) W)
  obtain ⟨b, hb⟩ : ∃ b, b = bareOf line := ⟨_, rfl⟩
  rw [← hb] at HTr hbl ⊢
  clear hb
  generalize rd (aheadOf 35 line) = t1 at HCut HTr
  generalize rd (behindOf 35 line) = t2 at HCut
  generalize decide ((35 : UInt8) ∈ line) = t3 at HCut
  generalize rd line = tl at HCut ⊢
  have H0 := hid0 h
  have HE := hid0 hE
  have hbl2 : b.length ≤ 4194400 := by omega
  clear h hE hl hbl
  by_cases hb0 : b = []
  · subst hb0
    have HL : Hid (lineStep st [] = .go st) := hid0 rfl
    generalize lineStep st [] = r at HL ⊢
    go_enter Tryz.func26, Tryz.ntmps26
    go_wp2_with (first
      | (go_at_call 43; refine (HCut.out _).mono ?_; rintro e w1 ⟨rfl, n1, rfl⟩)
      | (go_at_call 45; refine (HTr.out _).mono ?_; rintro e w2 ⟨rfl, hb2⟩; have HB2 := hid0 hb2; clear hb2)
      | fail)
    go_ret
    have hB := (drewN_below w n1).trans HB2.out
    exact ⟨_, rfl, Frm.ofBelow hB, by rw [HL.out]; exact ⟨rfl, H0.out.later hB⟩⟩
  · have hemp : (rd b).toList.isEmpty = false := by
      rw [← decide_eq_emptyBytes]
      exact decide_eq_false (fun h => hb0 (by have := congrArg (fun x : ByteArray => x.data.toList) h; simpa using this))
    have HRc := hid0 (fun W (hW : Sents W A) => readClaim_any b hbl2 (A 1) W hW.c1)
    have HSm := hid0 (fun lo hi nm (h : saidL b = some (lo, hi, nm)) => said_nm h)
    have hls : lineStep st b = match saidL b with
      | none => .stop 1
      | some (lo, hi, nm) => match chkNo lo hi nm with
        | some i => .stop i
        | none => addStep st lo hi (rd nm) := by rw [lineStep, if_neg hb0]; rfl
    have HOk := hid0 (fun s' (h : lineStep st b = .go s') => H0.out.ok.step h)
    rw [hls] at HOk ⊢
    clear hls hb0
    generalize rd b = tb at HTr HRc hemp
    cases hsd : saidL b with
    | none =>
      rw [hsd] at HRc
      simp only
      clear HSm HOk hsd
      unfold claimOut claimVal at HRc
      go_enter Tryz.func26, Tryz.ntmps26
      go_wp2_with (first
        | (go_at_call 43; refine (HCut.out _).mono ?_; rintro e w1 ⟨rfl, n1, rfl⟩)
        | (go_at_call 45; refine (HTr.out _).mono ?_; rintro e w2 ⟨rfl, hb2⟩; have HB2 := hid0 ((drewN_below w n1).trans hb2); clear hb2)
        | (go_at_call 46; refine (HRc.out _ (HE.out.below HB2.out)).mono ?_; rintro e w3 ⟨rfl, hb3⟩; have HB3 := hid0 (HB2.out.trans (hb3.mono HB2.out.size)); clear hb3)
        | fail)
      go_ret
      exact ⟨_, rfl, Frm.ofBelow (HB3.out.alloc HB3.out.size _), rfl⟩
    | some x =>
      obtain ⟨lo, hi, nm⟩ := x
      have hnm := HSm.out lo hi nm hsd
      rw [hsd] at HRc HOk
      simp only at HOk ⊢
      clear HSm hsd
      unfold claimOut claimVal at HRc
      have HCk := hid0 (fun W (hW : Sents W A) => check_any lo hi nm A W hW)
      unfold claimVal at HCk
      have W0 : ∀ w3 : World, (w3.alloc (.cells #[.int .i64 (lo : Int), .int .i64 (hi : Int), .string (rd nm)] 88)).heap[w3.heap.size]? = some (.cells #[.int .i64 (lo : Int), .int .i64 (hi : Int), .string (rd nm)] 88 (0, 0)) := fun w3 => heap_alloc_new w3 _
      have HW0 := hid0 W0
      clear W0
      cases hck : chkNo lo hi nm with
      | some i =>
        rw [hck] at HCk
        simp only
        unfold errOf errAt at HCk
        clear HOk hck hnm
        go_enter Tryz.func26, Tryz.ntmps26
        go_wp2_with (first
          | (go_at_call 43; refine (HCut.out _).mono ?_; rintro e w1 ⟨rfl, n1, rfl⟩)
          | (go_at_call 45; refine (HTr.out _).mono ?_; rintro e w2 ⟨rfl, hb2⟩; have HB2 := hid0 ((drewN_below w n1).trans hb2); clear hb2)
          | (go_at_call 46; refine (HRc.out _ (HE.out.below HB2.out)).mono ?_; rintro e w3 ⟨rfl, hb3⟩; have HB3 := hid0 (HB2.out.trans (hb3.mono HB2.out.size)); clear hb3)
          | (go_at_call 47; refine (HCk.out _ (HE.out.below (HB3.out.alloc HB3.out.size _))).mono ?_; rintro e w4 ⟨rfl, hb4⟩; have HB4 := hid0 ((HB3.out.alloc HB3.out.size _).trans (hb4.mono (by have := HB3.out.size; simp; omega))); clear hb4)
          | fail)
        go_ret
        exact ⟨_, rfl, Frm.ofBelow HB4.out, rfl⟩
      | none =>
        rw [hck] at HCk HOk
        simp only at HOk ⊢
        unfold errOf at HCk
        have hlh := chk_ok hck
        have HAd := hid0 (fun W (hb : Below w.heap.size w W) => add_any st lo hi (rd nm) base R G N cap A W (H0.out.later hb) (HE.out.below hb).c2 (HE.out.below hb).c4 hg2 hg4 (Nat.le_trans hbs hb.size) (by simp [ByteArray.size]; omega) hlh.1 (by omega) hN HOk.out)
        clear hck hnm HOk hlh
        go_enter Tryz.func26, Tryz.ntmps26
        go_wp2_with (first
          | (go_at_call 43; refine (HCut.out _).mono ?_; rintro e w1 ⟨rfl, n1, rfl⟩)
          | (go_at_call 45; refine (HTr.out _).mono ?_; rintro e w2 ⟨rfl, hb2⟩; have HB2 := hid0 ((drewN_below w n1).trans hb2); clear hb2)
          | (go_at_call 46; refine (HRc.out _ (HE.out.below HB2.out)).mono ?_; rintro e w3 ⟨rfl, hb3⟩; have HB3 := hid0 (HB2.out.trans (hb3.mono HB2.out.size)); clear hb3)
          | (go_at_call 47; refine (HCk.out _ (HE.out.below (HB3.out.alloc HB3.out.size _))).mono ?_; rintro e w4 ⟨rfl, hb4⟩; have hk4 := (hb4.block w3.heap.size (by simp)).trans (HW0.out w3); have k0 : w4.cell? ⟨w3.heap.size, 0, none⟩ = some (.int .i64 (lo : Int)) := (by rw [cell_of_row _ _ _ _ _ _ hk4]; rfl); have k1 : w4.cell? ⟨w3.heap.size, 1, none⟩ = some (.int .i64 (hi : Int)) := (by rw [cell_of_row _ _ _ _ _ _ hk4]; rfl); have k2 : w4.cell? ⟨w3.heap.size, 2, none⟩ = some (.string (rd nm)) := (by rw [cell_of_row _ _ _ _ _ _ hk4]; rfl); have HB4 := hid0 ((HB3.out.alloc HB3.out.size _).trans (hb4.mono (by have := HB3.out.size; simp; omega))); clear hb4 hk4)
          | (go_at_call 48; refine (HAd.out _ HB4.out).mono ?_; rintro e w5 ⟨v5, rfl, hf5, ho5⟩; have HF5 := hid0 hf5; have HO5 := hid0 ho5; clear hf5 ho5)
          | fail)
        go_ret
        exact ⟨_, rfl, (Frm.ofBelow HB4.out).trans HF5.out, HO5.out⟩
end Go.Proofs.YthdmhelgmejicaaGreatDoor
namespace Go.Proofs.YthdmhelgmejicaaGreatDoor
open Go.RowKit Go.Shelf
theorem norm_len' {l : List (Int × Int)} (h : NormF 0 l) : l.length ≤ 1114112 := by
  have := (norm_len h (by omega)).1
  omega
theorem may_parts (st : PS) (hk : st.Ok) (k : Nat) : mayL (partsOf st.cl k) = true := by
  unfold mayL
  rw [List.all_eq_true]
  intro r hr
  unfold partsOf at hr
  obtain ⟨t, ht, rfl⟩ := List.mem_map.1 hr
  have ht := (List.mem_filter.1 ht).1
  have h1 := hk.bnd t ht
  have h2 := hk.rise.1 t ((hk.mem t).2 ht)
  simp only [mayR, Bool.and_eq_true, decide_eq_true_eq]
  omega
theorem sortNil_any (w : World) : Calls Tryz.prog 50 #[.slice none 0 0, .func (.func 51) #[] #[]] w fun e w' => e = .returned (.tuple #[]) ∧ w' = w :=
  AnyF.slices_SortFunc_none Tryz.sortSpan none 0 _ w
/-- The rest behind the sort: any owned list of spans, sorted. -/
theorem sortAny_any (base : Nat) (v : Value) (E : List Sp) (w : World) (hl : E.length ≤ 100000000) (hown : OwnP w base v E) :
    Calls Tryz.prog 50 #[v, .func (.func 51) #[] #[]] w fun e w' => e = .returned (.tuple #[]) ∧ ∃ B, B.Perm E ∧ B.Pairwise (fun x y => x.1 ≤ y.1) ∧ OwnP w' base v B ∧ w.grownBy w' v.ownBlock := by
  have h0 := hown
  rcases hown.2 with ⟨rfl, hn⟩ | ⟨g, cap, cur, rfl, _⟩
  · have e : E = [] := List.length_eq_zero_iff.1 hn
    subst e
    refine (sortNil_any w).mono ?_
    rintro e w' ⟨rfl, rfl⟩
    exact ⟨rfl, [], List.Perm.refl _, List.Pairwise.nil, h0, ⟨rfl, rfl, rfl, Nat.le_refl _, fun _ _ _ => rfl⟩⟩
  · exact sortSpan_any base g cap E w hl h0
/-- The normal forms of the first k names. -/
structure Norms (st : PS) (k : Nat) (Nf : Nat → List (Int × Int)) : Prop where
  norm : ∀ j, NormF 0 (Nf j)
  pt : ∀ j, j < k → ∀ p, pts (Nf j) p = pts (partsOf st.cl j) p
  out : ∀ j, ¬ j < k → Nf j = []
theorem Norms.zero (st : PS) : Norms st 0 (fun _ => []) := ⟨fun _ => trivial, fun j h => by omega, fun _ _ => rfl⟩
theorem Norms.succ {st : PS} {k : Nat} {Nf : Nat → List (Int × Int)} (h : Norms st k Nf) {m : List (Int × Int)} (hm : NormF 0 m) (hp : ∀ p, pts m p = pts (partsOf st.cl k) p) : Norms st (k + 1) (fun j => if j = k then m else Nf j) where
  norm j := by by_cases e : j = k <;> simp [e, hm, h.norm j]
  pt j hj p := by
    by_cases e : j = k
    · subst e; simp [hp]
    · simp [e, h.pt j (by omega)]
  out j hj := by rw [if_neg (by omega), h.out j (by omega)]
theorem allT_congr (N M : Nat → List (Int × Int)) (n : Nat) (h : ∀ j, j < n → N j = M j) : allT N n = allT M n := by
  induction n with
  | zero => rfl
  | succ n ih => rw [allT, allT, ih (fun j hj => h j (by omega)), h n (by omega)]
theorem allT_succ (Nf : Nat → List (Int × Int)) (k : Nat) (m : List (Int × Int)) : allT (fun j => if j = k then m else Nf j) (k + 1) = allT Nf k ++ tagL (k : Int) m := by
  rw [allT, allT_congr _ Nf k (fun j hj => if_neg (by omega)), if_pos rfl]
theorem tag_take (k : Int) (m : List (Int × Int)) (i : Nat) (hi : i < m.length) : tagL k (m.take (i + 1)) = tagL k (m.take i) ++ [(m[i].1, m[i].2, k)] := by
  rw [List.take_add_one, List.getElem?_eq_getElem hi, Option.toList_some]
  unfold tagL
  rw [List.map_append]
  rfl
theorem cell3p_new2 (w : World) (o : Obj) (a b c : Value) (t : TypeId) : ∀ j u, [a, b, c][j]? = some u → ((w.alloc o).alloc (.cells #[a, b, c] t)).cell? ((⟨w.heap.size + 1, 0, none⟩ : Addr).add j) = some u := by
  have := cell3p_new (w.alloc o) a b c t
  rw [World.size_alloc] at this
  exact this
theorem py_snoc {W0 wq w2 : World} {B n : Nat} {v v' vm : Value} {us : List Sp} {m : List (Int × Int)} {u : Sp} {o1 o2 : Obj} (hn : n = us.length) (hP : OwnP wq B v us) (hR : OwnR wq 0 vm m) (hB : Below B W0 wq) (hb : B ≤ W0.heap.size)
    (hown' : w2.ownsRow B 72 3 v' (n + 1) (cellsP us ++ [.int .i64 u.1, .int .i64 u.2.1, .int .i64 u.2.2])) (hgrow : ((wq.alloc o1).alloc o2).grownBy w2 v.ownBlock) : OwnP w2 B v' (us ++ [u]) ∧ OwnR w2 0 vm m ∧ Below B W0 w2 := by
  have hP1 : OwnP (wq.alloc o1) B v us := World.ownsRow.alloc hP o1
  obtain ⟨r1, r2⟩ := ownP_snoc hn hP1 hown' hgrow (hB.alloc (Nat.le_trans hb hB.size) o1) hb
  refine ⟨r1, ?_, r2⟩
  have hR2 : OwnR ((wq.alloc o1).alloc o2) 0 vm m := World.ownsRow.alloc (World.ownsRow.alloc hR o1) o2
  have hP2 : OwnP ((wq.alloc o1).alloc o2) B v us := World.ownsRow.alloc hP1 o2
  exact World.ownsRow.kept hR2 hgrow (rows_ne hR2 hP2 (by decide))
theorem allT_len {st : PS} {k : Nat} {Nf : Nat → List (Int × Int)} (h : Norms st k Nf) (n : Nat) : (allT Nf n).length ≤ 1114112 * n := by
  induction n with
  | zero => simp [allT]
  | succ n ih =>
    have := norm_len' (h.norm n)
    rw [allT, List.length_append]
    simp only [tagL, List.length_map]
    omega
set_option maxRecDepth 10000 in
set_option maxHeartbeats 1000000 in
theorem property_any (st : PS) (base R G N cap : Nat) (A : Nat → Addr) (w : World) (h : RSt w base R G N cap st) (hE : w.cell? ⟨1, 0, none⟩ = some (errArg (A 0))) :
    Calls Tryz.prog 27 #[.pointer (some ⟨R, 0, none⟩)] w fun e w' => ∃ vN vS, e = .returned (.agg #[vN, vS]) ∧ OwnS w' base vN st.names ∧ OwnP w' w.heap.size vS (joinL st.sp) ∧ Below w.heap.size w w' := by
  obtain ⟨vN, vP, vs, hrs, hvl⟩ := h.rs
  have hnn := h.nn
  obtain ⟨i0, hi, hz0, hz1, hz2⟩ := info_parts infoSpan
  have HBx : Hid (Below w.heap.size w (w.alloc (.cells #[.slice none 0 0, .slice none 0 0] 25)) ∧ (w.alloc (.cells #[.slice none 0 0, .slice none 0 0] 25)).heap[w.heap.size]? = some (.cells #[.slice none 0 0, .slice none 0 0] 25 (0, 0))) := ⟨(Below.refl _ _).alloc (Nat.le_refl _) _, heap_alloc_new w _⟩
  obtain ⟨aP, cP, rfl⟩ : ∃ a c, vP = .slice a vs.length c := by
    rcases hrs.parts.outer.2 with ⟨rfl, hn⟩ | ⟨g, c, cur, rfl, _⟩
    · exact ⟨none, 0, by rw [hn]⟩
    · exact ⟨_, c, rfl⟩
  obtain ⟨aN, cN, rfl, _⟩ := hrs.names.sa
  have HRs := hid0 hrs
  have HOk := hid0 h.ok
  have HCl := hid0 h.nc
  have HE := hid0 hE
  obtain ⟨q0, q1, q2, q3, qf⟩ := (hrs.later HBx.out.1).cell
  have HVl := hid0 hvl
  have hnv : vs.length ≤ 62 := by omega
  have HNl : Hid (vs.length = st.names.length) := hid0 hvl
  clear h hrs hE hvl hnn
  go_enter Tryz.func27, Tryz.ntmps27
  go_wp2
  clear q0 q1 q2 q3 qf
  go_loopw [3, 15] (fun v i wr => ∃ (k : Nat) (Nf : Nat → List (Int × Int)), k ≤ vs.length ∧ i = .int .i64 (k : Int) ∧ Hid (Norms st k Nf) ∧ Hid (OwnP wr (w.heap.size + 1) v (allT Nf k)) ∧ (∃ a n c, v = .slice a n c) ∧ Hid (Below (w.heap.size + 1) (w.alloc (.cells #[.slice none 0 0, .slice none 0 0] 25)) wr)) (fun _ i _ => vs.length - (intOf i).toNat)
  case atStart => exact ⟨0, fun _ => [], Nat.zero_le _, rfl, Norms.zero st, OwnP.nil _ _, ⟨_, _, _, rfl⟩, Below.refl _ _⟩
  case round =>
    obtain ⟨k, Nf, hk, rfl, HNf, HO, ⟨av, nv, cv, rfl⟩, HB⟩ := hrel
    have hwr : w.heap.size + 1 ≤ wr.heap.size := by have := HB.out.size; simpa using this
    have HBw : Hid (Below w.heap.size w wr) := hid0 (HBx.out.1.trans (HB.out.mono (Nat.le_succ _)))
    have HRr := hid0 (HRs.out.later HBw.out)
    by_cases hlt : k < vs.length
    · have hkI : (k : Int) < (vs.length : Int) := by omega
      have hkI0 : (0 : Int) ≤ (k : Int) := by omega
      obtain ⟨gO, cO, e0, hg1, hg2⟩ := World.ownsRow.form HRr.out.parts.outer (by omega)
      simp only [Value.slice.injEq, true_and] at e0
      obtain ⟨rfl, rfl⟩ := e0
      obtain ⟨aK, cK, hvk, hra⟩ := (HRr.out.parts.row k hlt).ra
      have o0 : wr.cell? ⟨gO, k, none⟩ = some (.slice aK (partsOf st.cl k).length cK) := by
        rw [World.ownsRow.cellAt HRr.out.parts.outer k (by omega), List.getElem?_eq_getElem hlt, hvk]
      have hNo := normal_any (partsOf st.cl k) (by have := parts_len st.cl k; have := HCl.out; omega) aK cK (A 0) wr hra (cellE_later HE.out HBw.out)
      rw [may_parts st HOk.out k] at hNo
      have HNo := hid0 hNo
      have hpl : (partsOf st.cl k).length ≤ 65536 := by have := parts_len st.cl k; have := HCl.out; omega
      clear hNo hra hvk
      generalize (partsOf st.cl k).length = nk at o0 HNo hpl
      go_wp2_with (go_at_call 49; refine (HNo.out).mono ?_; rintro e w1 ⟨vm, m, rfl, hom, hnm, hpt, _, hb1⟩; obtain ⟨aM, cM, rfl, _⟩ := hom.ra; have HM := hid0 (OwnR.base hom (Nat.zero_le _)); have HNm := hid0 hnm; have HPt := hid0 (hpt rfl); have HB1 := hid0 hb1; clear hom hnm hpt hb1)
      have HO1 : Hid (OwnP w1 (w.heap.size + 1) (.slice av nv cv) (allT Nf k)) := hid0 (row_later HO.out HB1.out)
      have HBA : Hid (Below (w.heap.size + 1) (w.alloc (.cells #[.slice none 0 0, .slice none 0 0] 25)) w1) := hid0 (HB.out.trans (HB1.out.mono hwr))
      have hml := norm_len' HNm.out
      have hal := allT_len HNf.out k
      clear HO HB o0
      go_loopw [3, 27] (fun v i wq => ∃ j : Nat, j ≤ m.length ∧ i = .int .i64 (j : Int) ∧ Hid (OwnP wq (w.heap.size + 1) v (allT Nf k ++ tagL (k : Int) (m.take j))) ∧ (∃ a n c, v = .slice a n c) ∧ Hid (OwnR wq 0 (.slice aM m.length cM) m) ∧ Hid (Below (w.heap.size + 1) (w.alloc (.cells #[.slice none 0 0, .slice none 0 0] 25)) wq)) (fun _ i _ => m.length - (intOf i).toNat)
      case atStart => exact ⟨0, Nat.zero_le _, rfl, hid0 (by simpa [tagL] using HO1.out), ⟨_, _, _, rfl⟩, HM, HBA⟩
      case round =>
        clear HO1 HBA HM
        obtain ⟨j, hj, rfl, HOj, ⟨av2, nv2, cv2, rfl⟩, HMj, HBj⟩ := hrel
        have hwq : w.heap.size + 1 ≤ wr.heap.size := by have := HBj.out.size; simpa using this
        by_cases hjl : j < m.length
        · have hjI : (j : Int) < (m.length : Int) := by omega
          have hjI0 : (0 : Int) ≤ (j : Int) := by omega
          obtain ⟨a', c', e0, hra⟩ := HMj.out.ra
          simp only [Value.slice.injEq, true_and] at e0
          obtain ⟨rfl, rfl⟩ := e0
          obtain ⟨b1, o1, rfl, d0, d1⟩ := hra.at' j hjl
          have HT : Hid (allT Nf k ++ tagL (k : Int) (m.take (j + 1)) = (allT Nf k ++ tagL (k : Int) (m.take j)) ++ [(m[j].1, m[j].2, (k : Int))]) := hid0 (by rw [tag_take _ _ _ hjl, List.append_assoc])
          have hul : (allT Nf k ++ tagL (k : Int) (m.take j)).length ≤ 1114112 * 62 + 1114112 := by
            rw [List.length_append]
            simp only [tagL, List.length_map, List.length_take]
            have : 1114112 * k ≤ 1114112 * 62 := Nat.mul_le_mul_left _ (by omega)
            omega
          generalize m[j] = r at *
          obtain ⟨lo, hi'⟩ := r
          simp only at d0 d1 HT
          generalize hus : allT Nf k ++ tagL (k : Int) (m.take j) = us at HOj HT hul
          have hnv : nv2 = us.length := by
            rcases HOj.out.2 with ⟨e, hn⟩ | ⟨g, c, cur, e, _⟩
            · simp only [Value.slice.injEq] at e; omega
            · simp only [Value.slice.injEq] at e; exact e.2.1
          obtain ⟨nu, hnu⟩ : ∃ nu, us.length = nu := ⟨_, rfl⟩
          obtain ⟨xs, hxs⟩ : ∃ xs, cellsP us = xs := ⟨_, rfl⟩
          have HOx : Hid (wr.ownsRow (w.heap.size + 1) 72 3 (.slice av2 nv2 cv2) nu xs) := hid0 (by rw [← hnu, ← hxs]; exact HOj.out)
          rw [hnu] at hul
          have HNu := hid0 hnu
          have HXs := hid0 hxs
          clear hus hnv hra hnu hxs
          go_wp2_with (at_builtin; refine wpList_append_own _ rfl _ _ 23 rfl (w.heap.size + 1) 72 i0 (.agg #[.int .i64 0, .int .i64 0, .int .i64 0]) 3 24 Tryz.underlying23 hi hz0 hz1 hz2 rfl (by decide) (.slice av2 nv2 cv2) nu xs rfl ((HOx.out.alloc _).alloc _) ⟨wr.heap.size + 1, 0, none⟩ 1 1 [.int .i64 lo, .int .i64 hi', .int .i64 (k : Int)] rfl rfl (cell3p_new2 _ _ _ _ _ _) (by simp [Value.oneCell']) (by unfold maxLen; omega) (by omega) (by simp; omega) ?_; intro v1 w2 hown' hgrow _; have R := py_snoc (u := (lo, hi', (k : Int))) HNu.out.symm HOj.out HMj.out HBj.out (by simp) (by rw [HXs.out]; exact hown') hgrow; have HR1 := hid0 R; clear hown' hgrow R)
          go_roundw
          case rel => exact ⟨j + 1, by omega, by go_num, hid0 (by rw [HT.out]; exact HR1.out.1), (by obtain ⟨a, c, e, _⟩ := HR1.out.1.pa; exact ⟨a, _, c, e⟩), hid0 HR1.out.2.1, hid0 HR1.out.2.2⟩
          case measure => simp [intOf]; omega
        · have hjI : ¬ (j : Int) < (m.length : Int) := by omega
          have HN2 := hid0 (HNf.out.succ HNm.out HPt.out)
          have HO2 : Hid (OwnP wr (w.heap.size + 1) (.slice av2 nv2 cv2) (allT (fun x => if x = k then m else Nf x) (k + 1))) := hid0 (by
            rw [allT_succ]
            have h := HOj.out
            rw [List.take_of_length_le (by omega)] at h
            exact h)
          go_wp2
          go_roundw
          case rel => exact ⟨k + 1, _, by omega, by go_num, HN2, HO2, ⟨_, _, _, rfl⟩, HBj⟩
          case measure => simp [intOf]; omega
    · have hkI : ¬ (k : Int) < (vs.length : Int) := by omega
      have hke : k = vs.length := by omega
      have hal := allT_len HNf.out k
      have hal2 : (allT Nf k).length ≤ 100000000 := by
        have : 1114112 * k ≤ 1114112 * 62 := Nat.mul_le_mul_left _ (by omega)
        omega
      have HSo := hid0 (sortAny_any (w.heap.size + 1) (.slice av nv cv) (allT Nf k) wr hal2 HO.out)
      have HFin : Hid (∀ B : List Sp, B.Perm (allT Nf k) → B.Pairwise (fun x y => x.1 ≤ y.1) → B = joinL st.sp) := hid0 (fun B hp hs => final_eq st.cl st.sp HOk.out.rise HOk.out.mem k (fun t ht => by
        obtain ⟨_, _, x, h1, h2⟩ := HOk.out.bnd t ht
        exact ⟨x, by have := HNl.out; omega, h2⟩) Nf HNf.out.norm HNf.out.pt HNf.out.out B hp hs)
      have hwl : w.heap.size < wr.heap.size := by omega
      have HRow : Hid (∀ g, (Value.slice av nv cv).ownBlock = some g → w.heap.size + 1 ≤ g) := hid0 (fun g e => (World.ownsRow.lt HO.out g e).1)
      clear hal hal2 hke
      go_wp2_with (go_at_call 50; refine (HSo.out).mono ?_; rintro e w2 ⟨rfl, B, hp, hs, hob, hgr⟩; have hE := HFin.out B hp hs; rw [hE] at hob; have hBw2 : Below w.heap.size w w2 := HBw.out.grown hgr (by omega) (fun g e => by have := HRow.out g e; omega); have hbx2 : w2.heap[w.heap.size]? = some (.cells #[.slice none 0 0, .slice none 0 0] 25 (0, 0)) := (hgr.block _ hwl (fun e => by have := HRow.out _ e.symm; omega)).trans ((HB.out.block _ (by omega)).trans HBx.out.2); obtain ⟨_, q1, _, _, _⟩ := (HRs.out.later hBw2).cell; have x0 : w2.cell? ⟨w.heap.size, 0, none⟩ = some (.slice none 0 0) := (by rw [cell_of_row _ _ _ _ _ _ hbx2]; rfl); have x1 : w2.cell? ⟨w.heap.size, 1, none⟩ = some (.slice none 0 0) := (by rw [cell_of_row _ _ _ _ _ _ hbx2]; rfl); have xf : ∀ j, w2.frozen? ⟨w.heap.size, j, none⟩ = false := (fun j => frozen_of_row _ _ _ _ _ hbx2); have HX2 := hid0 hbx2; have HOB := hid0 hob; have HBW2 := hid0 hBw2; clear hp hs hob hgr hE hBw2 hbx2)
      have b1' := heap_setCell_same _ w.heap.size 0 _ _ (.slice aN st.names.length cN) HX2.out
      have b2' := heap_setCell_same _ w.heap.size 1 _ _ (.slice av nv cv) b1'
      have hoN : OwnS ((w2.setCell ⟨w.heap.size, 0, none⟩ (.slice aN st.names.length cN)).setCell ⟨w.heap.size, 1, none⟩ (.slice av nv cv)) base (.slice aN st.names.length cN) st.names := row_later HRs.out.names ((HBW2.out.setCell (Nat.le_refl _) _).setCell (Nat.le_refl _) _)
      have hoJ : OwnP ((w2.setCell ⟨w.heap.size, 0, none⟩ (.slice aN st.names.length cN)).setCell ⟨w.heap.size, 1, none⟩ (.slice av nv cv)) w.heap.size (.slice av nv cv) (joinL st.sp) := OwnP.base (ownsRow_setCell_below (ownsRow_setCell_below HOB.out (Nat.lt_succ_self _) _) (Nat.lt_succ_self _) _) (Nat.le_succ _)
      have hbW : Below w.heap.size w ((w2.setCell ⟨w.heap.size, 0, none⟩ (.slice aN st.names.length cN)).setCell ⟨w.heap.size, 1, none⟩ (.slice av nv cv)) := (HBW2.out.setCell (Nat.le_refl _) _).setCell (Nat.le_refl _) _
      have q0 : ((w2.setCell ⟨w.heap.size, 0, none⟩ (.slice aN st.names.length cN)).setCell ⟨w.heap.size, 1, none⟩ (.slice av nv cv)).cell? ⟨w.heap.size, 0, none⟩ = some (.slice aN st.names.length cN) := by rw [cell_of_row _ _ _ _ _ _ b2']; rfl
      have q1 : ((w2.setCell ⟨w.heap.size, 0, none⟩ (.slice aN st.names.length cN)).setCell ⟨w.heap.size, 1, none⟩ (.slice av nv cv)).cell? ⟨w.heap.size, 1, none⟩ = some (.slice av nv cv) := by rw [cell_of_row _ _ _ _ _ _ b2']; rfl
      clear b1' b2'
      generalize (w2.setCell ⟨w.heap.size, 0, none⟩ (.slice aN st.names.length cN)).setCell ⟨w.heap.size, 1, none⟩ (.slice av nv cv) = W at q0 q1 hbW hoN hoJ ⊢
      refine bodyPost_ret (by simp [results, Tryz.results27, go_sem, q0, q1]; try rfl) rfl ?_
      exact ⟨_, _, rfl, hoN, hoJ, hbW⟩
end Go.Proofs.YthdmhelgmejicaaGreatDoor
namespace Go.Proofs.YthdmhelgmejicaaGreatDoor
open Go.RowKit Go.Shelf
attribute [local go_sem] Oper.semAt_some
set_option maxRecDepth 100000 in
set_option maxHeartbeats 1000000 in
theorem lines_in' (n : Nat) (s : ByteArray) (w : World) :
    CallsIn Fence.wide n Tryz.prog 25 #[.string s] w fun e w' => e = .returned (.func (.func 42) #[] #[.pointer (some ⟨w.heap.size, 0, none⟩)]) ∧ w' = w.alloc (.cells #[.string s] 9) := by
  refine callsIn_of_wp Tryz.func25 rfl trivial ?_ rfl
  simp only [Tryz.ntmps25, List.size_toArray, List.length_cons, List.length_nil, Nat.reduceAdd, Nat.reduceSub, Array.replicate_succ, Array.replicate_zero, List.push_toArray, List.append_toArray, List.nil_append, List.cons_append]
  gi_wp2
  go_ret
  exact ⟨rfl, rfl⟩
theorem grownBy_of_below {W W' : World} (h : Below W.heap.size W W') : W.grownBy W' none := ⟨h.os, h.tape, h.output, h.size, fun i hi _ => h.block i hi⟩
theorem grownBy_drewN (W : World) (n : Nat) : W.grownBy (W.drewN n) none := ⟨rfl, rfl, rfl, Nat.le_refl _, fun _ _ _ => rfl⟩
def restL (b : Bool) (k : Nat) (rest : By) : List (Nat × By) := if b then numL k (linesOf rest) else []
theorem chop_le (l : By) : (chopR l).length ≤ l.length := by unfold chopR; split <;> simp
theorem cutW_any (l : By) (c : UInt8) (hl : l.length ≤ 4194400) (W : World) : Calls Tryz.prog 43 #[.string (rd l), .string ⟨#[c]⟩] W fun e w' => e = .returned (.tuple #[.string (rd (aheadOf c l)), .string (rd (behindOf c l)), .bool (decide (c ∈ l))]) ∧ ∃ n, w' = W.drewN n :=
  cut_any (rd l) c (by simpa [ByteArray.size] using hl) W
theorem trimW_any (l : By) (hl : l.length ≤ 4194400) (W : World) : Calls Tryz.prog 44 #[.string (rd l), .string ⟨#[13]⟩] W fun e w' => e = .returned (.string (rd (chopR l))) ∧ w' = W :=
  trimSuffix_any (rd l) (by simpa [ByteArray.size] using hl) W
set_option maxRecDepth 100000 in
set_option maxHeartbeats 2000000 in
theorem lines1_in (n : Nat) (hn : 1 ≤ n) (l Bn B : Nat) (s : By) (hs : s.length ≤ 1048576) (J Jx : List Ln → World → Prop) (hJ : AbidesFrom B J)
    (hY : ∀ pre x W, J pre W → pre.length < (linesOf s).length → YieldAt Fence.wide (n - 1) Tryz.prog l #[.int .i64 (x.num : Int), .string (rd x.body)] W fun e W' =>
      (e = .returned (.bool true) ∧ J (pre ++ [x]) W' ∧ True) ∨ (e = .returned (.bool false) ∧ Jx (pre ++ [x]) W'))
    (W : World) (hBn : W.heap[Bn]? = some (.cells #[.string (rd s)] 9 (0, 0))) (h0 : J [] W) :
    CallsIn Fence.wide n Tryz.prog 42 #[.func (.yield l) #[] #[], .pointer (some ⟨Bn, 0, none⟩)] W fun e W' => (∃ v, e = .returned v) ∧
      ((∃ ys : List Ln, ys.map lnOf = numL 1 (linesOf s) ∧ J ys W') ∨ (∃ pre : List Ln, pre.map lnOf <+: numL 1 (linesOf s) ∧ Jx pre W')) := by
  have hcell : W.cell? ⟨Bn, 0, none⟩ = some (.string (rd s)) := by rw [cell_of_row W Bn 0 _ _ _ hBn]; rfl
  refine callsIn_of_wp Tryz.func42 rfl trivial ?_ rfl
  simp only [Tryz.ntmps42, List.size_toArray, List.length_cons, List.length_nil, Nat.reduceAdd, Nat.reduceSub, Array.replicate_succ, Array.replicate_zero, List.push_toArray, List.append_toArray, List.nil_append, List.cons_append]
  gi_wp2
  have HYd := hid0 hY
  have HJd := hid0 hJ
  have H0 := hid0 h0
  clear hY hJ hBn hcell h0
  gi_loopw [3, 4, 5] (fun r en i wr => ∃ (k : Nat) (rest : By) (pre : List Ln) (b : Bool), r = .string (rd rest) ∧ en = .bool b ∧ i = .int .i64 (k : Int) ∧ 1 ≤ k ∧ k + (if b then rest.length + 1 else 0) ≤ s.length + 2 ∧ Hid (numL 1 (linesOf s) = pre.map lnOf ++ restL b k rest) ∧ Hid (J pre wr))
    (fun _ _ i _ => s.length + 3 - (intOf i).toNat)
  case atStart => exact ⟨1, s, [], true, rfl, rfl, rfl, Nat.le_refl _, by simp; omega, hid0 rfl, H0⟩
  case round =>
    clear H0
    obtain ⟨k, rest, pre, b, rfl, rfl, rfl, hk1, hk2, HE, HJs⟩ := hrel
    cases b with
    | false =>
      simp only [Bool.false_eq_true, if_false] at hk2
      gi_wp2
      go_end0
      refine ⟨⟨_, rfl⟩, .inl ⟨pre, ?_, HJs.out⟩⟩
      have := HE.out
      simp only [restL, Bool.false_eq_true, if_false, List.append_nil] at this
      exact this.symm
    | true =>
      simp only [if_true] at hk2
      have hrl : rest.length ≤ 4194400 := by omega
      have hCut := cutW_any rest 10 hrl
      have hkI : (k : Int) ≤ 4194400 := by omega
      by_cases hin : (10 : UInt8) ∈ rest
      · have hbl := behind_len 10 rest hin
        have hal := ahead_len 10 rest
        have hcl := chop_le (aheadOf 10 rest)
        obtain ⟨x, hx⟩ : ∃ x : Ln, x = ⟨k, chopR (aheadOf 10 rest), by omega⟩ := ⟨_, rfl⟩
        have HE2 : Hid (numL 1 (linesOf s) = (pre ++ [x]).map lnOf ++ restL true (k + 1) (behindOf 10 rest)) := hid0 (by
          rw [HE.out, restL, if_pos rfl, lines_in rest hin, numL, hx, restL, if_pos rfl, List.map_append, List.append_assoc]; rfl)
        have hpl : pre.length < (linesOf s).length := by
          have := congrArg List.length HE2.out
          rw [numL_length] at this
          simp at this; omega
        have HYx := hid0 (fun m => HYd.out pre x (wr.drewN m) (HJd.out _ _ _ none HJs.out (grownBy_drewN _ m) (fun r e => by cases e)) hpl)
        have hTs := trimW_any (aheadOf 10 rest) (by omega)
        rw [decide_eq_true hin] at hCut
        have e1 : x.num = k := by rw [hx]
        have e2 : x.body = chopR (aheadOf 10 rest) := by rw [hx]
        rw [e1, e2] at HYx
        generalize rd (chopR (aheadOf 10 rest)) = t3 at HYx hTs
        generalize rd (aheadOf 10 rest) = t1 at hCut hTs
        generalize hb' : behindOf 10 rest = rest' at HE2 hbl hCut
        have HCut := hid0 hCut
        have HTs := hid0 hTs
        clear hpl hx e1 e2 hal hcl hCut hTs HE hb' hin
        gi_wp2_with (first
          | (refine ⟨trivial, ?_⟩; gi_at_call 43; refine (callsIn_wide.2 (HCut.out _)).mono ?_; rintro e w2 ⟨rfl, n1, rfl⟩; obtain ⟨fn, tmps, assign, body, hy, hR⟩ := HYx.out n1; have HRd := hid0 hR; clear hR)
          | (refine ⟨trivial, ?_⟩; gi_at_call 44; refine (callsIn_wide.2 (HTs.out _)).mono ?_; rintro e w3 ⟨rfl, rfl⟩)
          | fail)
        clear hy
        refine HRd.out.mono ?_
        rintro e W3 (⟨rfl, hJ3, _⟩ | ⟨rfl, hJx3⟩)
        · have HJ3 := hid0 hJ3
          clear hJ3
          gi_wp2
          go_roundw
          case rel => exact ⟨k + 1, rest', pre ++ [x], true, rfl, rfl, by go_num, by omega, by simp; omega, HE2, HJ3⟩
          case measure => simp [intOf]; omega
        · gi_wp2
          refine bodyPost_ret (results_none rfl _ _ _) rfl ?_
          exact ⟨⟨_, rfl⟩, .inr ⟨pre ++ [x], ⟨_, HE2.out.symm⟩, hJx3⟩⟩
      · obtain ⟨x, hx⟩ : ∃ x : Ln, x = ⟨k, rest, by omega⟩ := ⟨_, rfl⟩
        have HE2 : Hid (numL 1 (linesOf s) = (pre ++ [x]).map lnOf ++ restL false (k + 1) (behindOf 10 rest)) := hid0 (by
          rw [HE.out, restL, if_pos rfl, lines_out rest hin, hx, restL, if_neg (by simp), List.map_append, List.append_nil]; rfl)
        have hpl : pre.length < (linesOf s).length := by
          have := congrArg List.length HE2.out
          rw [numL_length] at this
          simp at this; omega
        have HYx := hid0 (fun m => HYd.out pre x (wr.drewN m) (HJd.out _ _ _ none HJs.out (grownBy_drewN _ m) (fun r e => by cases e)) hpl)
        rw [decide_eq_false hin, ahead_none 10 rest hin] at hCut
        have e1 : x.num = k := by rw [hx]
        have e2 : x.body = rest := by rw [hx]
        rw [e1, e2] at HYx
        generalize hb' : behindOf 10 rest = rest' at HE2 hCut
        have HCut := hid0 hCut
        clear hpl hx e1 e2 hCut HE hb' hin
        gi_wp2_with (first
          | (refine ⟨trivial, ?_⟩; gi_at_call 43; refine (callsIn_wide.2 (HCut.out _)).mono ?_; rintro e w2 ⟨rfl, n1, rfl⟩; obtain ⟨fn, tmps, assign, body, hy, hR⟩ := HYx.out n1; have HRd := hid0 hR; clear hR)
          | fail)
        clear hy
        refine HRd.out.mono ?_
        rintro e W3 (⟨rfl, hJ3, _⟩ | ⟨rfl, hJx3⟩)
        · have HJ3 := hid0 hJ3
          clear hJ3
          gi_wp2
          go_roundw
          case rel => exact ⟨k + 1, rest', pre ++ [x], false, rfl, rfl, by go_num, by omega, by simp; omega, HE2, HJ3⟩
          case measure => simp [intOf]; omega
        · gi_wp2
          refine bodyPost_ret (results_none rfl _ _ _) rfl ?_
          exact ⟨⟨_, rfl⟩, .inr ⟨pre ++ [x], ⟨_, HE2.out.symm⟩, hJx3⟩⟩
theorem lines_stops (n : Nat) (hn : 1 ≤ n) (Bn : Nat) (s : By) (hs : s.length ≤ 1048576) (w : World) (hBn : w.heap[Bn]? = some (.cells #[.string (rd s)] 9 (0, 0))) :
    SeqStopsK Fence.wide n Tryz.prog 42 #[.pointer (some ⟨Bn, 0, none⟩)] (fun x : Ln => #[.int .i64 (x.num : Int), .string (rd x.body)]) (fun _ _ => True) (fun ys => ys.map lnOf = numL 1 (linesOf s)) (fun pre => pre.map lnOf <+: numL 1 (linesOf s)) (linesOf s).length w := fun l J Jx W hW hJ _ hY h0 =>
  lines1_in n hn l Bn W.heap.size s hs J Jx hJ hY W ((hW.block Bn (Array.getElem?_eq_some_iff.1 hBn).1).trans hBn) h0
end Go.Proofs.YthdmhelgmejicaaGreatDoor
namespace Go.Proofs.YthdmhelgmejicaaGreatDoor
open Go.RowKit Go.Shelf
def CKp (w w' : World) : Prop := ∀ (i : Nat) (c : Array Value) (t : TypeId) (z : Nat × Nat), w.heap[i]? = some (Obj.cells c t z) → w'.heap[i]? = some (Obj.cells c t z)
theorem ckp_own {W W' : World} {row : Option Nat} (hg : W.grownBy W' row) (hr : ∀ r, row = some r → ∃ o : Obj, W.heap[r]? = some o ∧ o.isCells = false) : CKp W W' := fun i c t z hi =>
  (hg.block i (Array.getElem?_eq_some_iff.1 hi).1 (fun e => by
    obtain ⟨o, ho, hc⟩ := hr i e.symm
    rw [hi] at ho
    cases ho
    simp [Obj.isCells] at hc)).trans hi
theorem row_ck {w w' : World} {base : Nat} {t : TypeId} {s n : Nat} {v : Value} {xs : List Value} (h : w.ownsRow base t s v n xs) (hk : CKp w w') : w'.ownsRow base t s v n xs := by
  obtain ⟨g1, g2⟩ := h
  refine ⟨g1, ?_⟩
  rcases g2 with g2 | ⟨g, cap, cur, hv, hg, hh, r⟩
  · exact .inl g2
  · exact .inr ⟨g, cap, cur, hv, hg, hk _ _ _ _ hh, r⟩
theorem RS.ck {w w' : World} {base R G N cap n : Nat} {names : List ByteArray} {F : Nat → List (Int × Int)} {f : Nat → Bool} {vN vP : Value} {vs : List Value} (h : RS w base R G N cap n names F f vN vP vs) (hk : CKp w w') : RS w' base R G N cap n names F f vN vP vs := by
  obtain ⟨cur, h1, h2⟩ := h.bits
  exact ⟨hk _ _ _ _ h.box, row_ck h.names hk, ⟨row_ck h.parts.outer hk, fun k h' => row_ck (h.parts.row k h') hk, h.parts.apart⟩, ⟨cur, hk _ _ _ _ h1, h2⟩, h.ltR, h.ltG, h.ne⟩
theorem RSt.ck {w w' : World} {base R G N cap : Nat} {st : PS} (h : RSt w base R G N cap st) (hk : CKp w w') : RSt w' base R G N cap st := by
  obtain ⟨⟨vN, vP, vs, h1, h2⟩, h3, h4, h5⟩ := h
  exact ⟨⟨vN, vP, vs, h1.ck hk, h2⟩, h3, h4, h5⟩
/-- What no line touches. -/
def Rest (base R G : Nat) (i : Nat) : Prop := i = R ∨ i = G ∨ base ≤ i
theorem Only.own {W0 W W' : World} {base R G B : Nat} {row : Option Nat} (h : Only W0 W (Rest base R G)) (hB : base ≤ B) (hg : W.grownBy W' row) (hr : ∀ r, row = some r → B ≤ r ∧ ∃ o : Obj, W.heap[r]? = some o ∧ o.isCells = false) : Only W0 W' (Rest base R G) :=
  ⟨hg.os.trans h.os, hg.tape.trans h.tape, hg.output.trans h.output, Nat.le_trans h.size hg.size, fun i hi hs => (hg.block i (Nat.lt_of_lt_of_le hi h.size) (fun e => by have := (hr i e.symm).1; exact hs (.inr (.inr (by omega))))).trans (h.block i hi hs)⟩
theorem Only.frm {W0 W W' : World} {base R G : Nat} (h : Only W0 W (Rest base R G)) (hf : Frm base R G W W') : Only W0 W' (Rest base R G) :=
  ⟨hf.os.trans h.os, hf.tape.trans h.tape, hf.output.trans h.output, Nat.le_trans h.size hf.size, fun i hi hs => (hf.kept i (Nat.lt_of_not_le (fun e => hs (.inr (.inr e)))) (Nat.lt_of_lt_of_le hi h.size) (fun e => hs (.inl e)) (fun e => hs (.inr (.inl e)))).trans (h.block i hi hs)⟩
theorem wordOf_none (i : Nat) : wordOf (fun _ => false) i = 0 := by
  apply Nat.eq_of_testBit_eq
  intro k
  rw [wordOf_bit]
  simp
theorem said_nil : saidB [] = fun _ => false := by funext q; rfl
theorem parts_nil : partsOf [] = fun _ => [] := by funext k; rfl
theorem infoU64 : (Tryz.prog.info? 151).map (fun i => (i.zero, i.size, i.bytes)) = some (some (.int .u64 0), 1, 8) := by kernel_rfl
theorem wpListIn_make_rowN {F : Fence} {n : Nat} {P : Program} (w : World) {ops : Array Oper} {rest : List Oper} {o : Oper} {a : Act} {Q : Exit → Act → World → Prop}
    (hg : o.guard = none) (l c : Operand) (t : TypeId) (hop : o.op = Op.makeSlice t l c)
    (e : TypeId) (i : TypeInfo) (z : Value) (ht : P.underlying t = some (.slice e)) (hi : P.info? e = some i) (hz : i.zero = some z) (hsize : i.size = 1) (hz1 : z.cells = #[z])
    (kl kc : IntKind) (C : Int) (m : Nat) (hl : a.eval l = .int kl C) (hc : a.eval c = .int kc C) (hC : C = (m : Int)) (hbytes : i.bytes * m ≤ 281474976710656) (h63 : m ≤ 9223372036854775807)
    (hK : ∀ N o', N = m → o' = Obj.cells (madeCells #[z] N) e (0, 0) → wpListIn F n P ops Q rest (a.put o.dst (.slice (some ⟨w.heap.size, 0, none⟩) N N)) (w.alloc o')) :
    wpListIn F n P ops Q (o :: rest) a w := by
  refine wpListIn_plain hg fun K hK' => ?_
  have hrun := run_make_row (P := P) t e i z ht hi hz hsize hz1 kl kc m hbytes h63 w
  subst hC
  unfold Oper.wpIn
  refine ⟨?_, ?_⟩
  · simp [Oper.about, hop]
  · rw [Oper.semAt_plain F _ _ (by rw [hop]; intro c hc'; cases hc')]
    simp [execOp, hop, hl, hc, hrun, Result.andThen]
    exact hK' _ _ (hK m _ rfl rfl)
/-- What Parse answers. -/
def GoParse (A : Nat → Addr) (w w' : World) (r : PR) (e : Ending) : Prop := match r with
  | .ok s => ∃ vN vS, e = .returned (.tuple #[.agg #[vN, vS], .int .i64 0, .nilIface]) ∧ OwnS w' w.heap.size vN s.names ∧ OwnP w' w.heap.size vS (joinL s.sp) ∧ s.Ok
  | .bad line i => e = .returned (.tuple #[.agg #[.slice none 0 0, .slice none 0 0], .int .i64 (line : Int), errAt A i])
end Go.Proofs.YthdmhelgmejicaaGreatDoor
namespace Go.Proofs.YthdmhelgmejicaaGreatDoor
open Go.RowKit Go.Shelf
attribute [local go_sem] Oper.semAt_some
/-- What the range over lines keeps. -/
def ParI (W5 : World) (base R G N : Nat) (pre : List Ln) (W : World) : Prop := ∃ st, foldL ps0 (pre.map Ln.body) = some st ∧ RSt W base R G N N st ∧ Only W5 W (Rest base R G)
/-- What is so where a line is refused. -/
def ParX (A : Nat → Addr) (w : World) (c : Code) (pre : List Ln) (W : World) : Prop := c = .ret ∧ ∃ p x i st, pre = p ++ [x] ∧ foldL ps0 (p.map Ln.body) = some st ∧ lineStep st (bareOf x.body) = .stop i ∧
  W.heap[w.heap.size]? = some (.cells #[.slice none 0 0, .slice none 0 0] 25 (0, 0)) ∧ W.heap[w.heap.size + 1]? = some (.cells #[.int .i64 (x.num : Int)] 3 (0, 0)) ∧ W.heap[w.heap.size + 2]? = some (.cells #[errAt A i] 27 (0, 0)) ∧ Below w.heap.size w W
theorem parI_own (W5 : World) (base R G N B : Nat) (hB : base ≤ B) : OwnFrom B (ParI W5 base R G N) := fun _ _ _ _ ⟨st, h1, h2, h3⟩ hg hr => ⟨st, h1, h2.ck (ckp_own hg (fun r e => (hr r e).2)), h3.own hB hg hr⟩
theorem parX_own (A : Nat → Addr) (w : World) (c : Code) (B : Nat) (hB : w.heap.size ≤ B) : OwnFrom B (ParX A w c) := fun _ _ _ _ ⟨h0, p, x, i, st, h1, h2, h3, h4, h5, h6, h7⟩ hg hr =>
  have hk := ckp_own hg (fun r e => (hr r e).2)
  ⟨h0, p, x, i, st, h1, h2, h3, hk _ _ _ _ h4, hk _ _ _ _ h5, hk _ _ _ _ h6, h7.grown hg h7.size (fun r e => by have := (hr r e).1; omega)⟩
theorem six (w : World) (o0 o1 o2 o3 o4 o5 : Obj) : ∀ W, W = ((((((w.alloc o0).alloc o1).alloc o2).alloc o3).alloc o4).alloc o5) → W.heap[w.heap.size]? = some o0 ∧ W.heap[w.heap.size + 1]? = some o1 ∧ W.heap[w.heap.size + 1 + 1]? = some o2 ∧ W.heap[w.heap.size + 1 + 1 + 1]? = some o3 ∧ W.heap[w.heap.size + 1 + 1 + 1 + 1]? = some o4 ∧ W.heap[w.heap.size + 1 + 1 + 1 + 1 + 1]? = some o5 ∧ W.heap.size = w.heap.size + 6 ∧ Below w.heap.size w W := by
  rintro W rfl
  have n0 := heap_alloc_new w o0
  have n1 := heap_alloc_new (w.alloc o0) o1
  have n2 := heap_alloc_new ((w.alloc o0).alloc o1) o2
  have n3 := heap_alloc_new (((w.alloc o0).alloc o1).alloc o2) o3
  have n4 := heap_alloc_new ((((w.alloc o0).alloc o1).alloc o2).alloc o3) o4
  have n5 := heap_alloc_new (((((w.alloc o0).alloc o1).alloc o2).alloc o3).alloc o4) o5
  simp only [World.size_alloc] at n1 n2 n3 n4 n5
  refine ⟨?_, ?_, ?_, ?_, ?_, n5, by simp only [World.size_alloc], ?_⟩
  · rw [Below.heap_alloc _ _ _ (by simp only [World.size_alloc]; omega), Below.heap_alloc _ _ _ (by simp only [World.size_alloc]; omega), Below.heap_alloc _ _ _ (by simp only [World.size_alloc]; omega), Below.heap_alloc _ _ _ (by simp only [World.size_alloc]; omega), Below.heap_alloc _ _ _ (by simp only [World.size_alloc]; omega)]; exact n0
  · rw [Below.heap_alloc _ _ _ (by simp only [World.size_alloc]; omega), Below.heap_alloc _ _ _ (by simp only [World.size_alloc]; omega), Below.heap_alloc _ _ _ (by simp only [World.size_alloc]; omega), Below.heap_alloc _ _ _ (by simp only [World.size_alloc]; omega)]; exact n1
  · rw [Below.heap_alloc _ _ _ (by simp only [World.size_alloc]; omega), Below.heap_alloc _ _ _ (by simp only [World.size_alloc]; omega), Below.heap_alloc _ _ _ (by simp only [World.size_alloc]; omega)]; exact n2
  · rw [Below.heap_alloc _ _ _ (by simp only [World.size_alloc]; omega), Below.heap_alloc _ _ _ (by simp only [World.size_alloc]; omega)]; exact n3
  · rw [Below.heap_alloc _ _ _ (by simp only [World.size_alloc]; omega)]; exact n4
  · exact (((((((Below.refl _ w).alloc (Nat.le_refl _) _).alloc (by simp only [World.size_alloc]; omega) _).alloc (by simp only [World.size_alloc]; omega) _).alloc (by simp only [World.size_alloc]; omega) _).alloc (by simp only [World.size_alloc]; omega) _).alloc (by simp only [World.size_alloc]; omega) _)
theorem four_set (w1 : World) (n : Nat) (a b c d v0 v1 v2 v3 : Value) (t0 t1 t2 : TypeId) (k0 : w1.heap[n]? = some (.cells #[a, b] t0 (0, 0))) (k1 : w1.heap[n + 1]? = some (.cells #[c] t1 (0, 0))) (k2 : w1.heap[n + 1 + 1]? = some (.cells #[d] t2 (0, 0))) :
    ∀ W, W = (((w1.setCell ⟨n, 0, none⟩ v0).setCell ⟨n, 1, none⟩ v1).setCell ⟨n + 1, 0, none⟩ v2).setCell ⟨n + 1 + 1, 0, none⟩ v3 → W.heap[n]? = some (.cells #[v0, v1] t0 (0, 0)) ∧ W.heap[n + 1]? = some (.cells #[v2] t1 (0, 0)) ∧ W.heap[n + 1 + 1]? = some (.cells #[v3] t2 (0, 0)) ∧ (∀ i, ¬ i = n → ¬ i = n + 1 → ¬ i = n + 1 + 1 → W.heap[i]? = w1.heap[i]?) ∧ KeepsOthers w1 W ∧ (∀ B w, B ≤ n → Below B w w1 → Below B w W) := by
  rintro W rfl
  have a1 := heap_setCell_same w1 n 0 _ _ v0 k0
  have a2 := heap_setCell_same _ n 1 _ _ v1 a1
  have o : ∀ (W : World) (x : Addr) (v : Value) (i : Nat), ¬ i = x.block → (W.setCell x v).heap[i]? = W.heap[i]? := fun W x v i h => Below.heap_setCell W x v i h
  have c1 : ((w1.setCell ⟨n, 0, none⟩ v0).setCell ⟨n, 1, none⟩ v1).heap[n + 1]? = some (.cells #[c] t1 (0, 0)) := by rw [o _ _ _ _ (by simp), o _ _ _ _ (by simp)]; exact k1
  have c2 := heap_setCell_same _ (n + 1) 0 _ _ v2 c1
  have d1 : (((w1.setCell ⟨n, 0, none⟩ v0).setCell ⟨n, 1, none⟩ v1).setCell ⟨n + 1, 0, none⟩ v2).heap[n + 1 + 1]? = some (.cells #[d] t2 (0, 0)) := by rw [o _ _ _ _ (by simp), o _ _ _ _ (by simp; omega), o _ _ _ _ (by simp; omega)]; exact k2
  have d2 := heap_setCell_same _ (n + 1 + 1) 0 _ _ v3 d1
  refine ⟨?_, ?_, d2, fun i h1 h2 h3 => ?_, ?_, fun B w hB h => ?_⟩
  · rw [o _ _ _ _ (by simp; omega), o _ _ _ _ (by simp)]; exact a2
  · rw [o _ _ _ _ (by simp)]; exact c2
  · rw [o _ _ _ _ h3, o _ _ _ _ h2, o _ _ _ _ h1, o _ _ _ _ h1]
  · exact (((KeepsOthers.setCell _ _ _).trans (KeepsOthers.setCell _ _ _)).trans (KeepsOthers.setCell _ _ _)).trans (KeepsOthers.setCell _ _ _)
  · exact (((h.setCell hB _).setCell hB _).setCell (by simp; omega) _).setCell (by simp; omega) _
/-- The reading at the beginning. -/
theorem rst_start (W : World) (n N : Nat) (hN : N = 17408) (h3 : W.heap[n + 1 + 1 + 1]? = some (.cells (madeCells #[.int .u64 0] N) 151 (0, 0))) (h4 : W.heap[n + 1 + 1 + 1 + 1]? = some (.cells #[.int .i64 0, .slice none 0 0, .slice none 0 0, .slice (some ⟨n + 1 + 1 + 1, 0, none⟩) N N] 58 (0, 0))) :
    RSt W (n + 5) (n + 1 + 1 + 1 + 1) (n + 1 + 1 + 1) N N ps0 := by
  refine ⟨⟨.slice none 0 0, .slice none 0 0, [], ⟨h4, World.ownsRow_nil _ _ _ _, Pl.nil _ _ _, ⟨_, h3, fun i hi => ?_⟩, by omega, by omega, by omega⟩, rfl⟩, ps0_ok, by simp [ps0], by simp [ps0]⟩
  rw [show saidB ps0.cl = fun _ => false from said_nil, wordOf_none]
  subst hN
  simp [madeCells, hi, Nat.mod_one]
/-- What the range keeps: all below the reading's own. -/
theorem rest_lt (n i : Nat) (h : Rest (n + 5) (n + 1 + 1 + 1 + 1) (n + 1 + 1 + 1) i) : n + 3 ≤ i := by
  rcases h with h | h | h <;> omega
set_option maxRecDepth 100000 in
set_option maxHeartbeats 2000000 in
theorem parse_any (s : By) (hs : s.length ≤ 1048576) (A : Nat → Addr) (w : World) (hE : Sents w A) :
    Calls Tryz.prog 8 #[.string (rd s)] w fun e w' => GoParse A w w' (parseL s) e ∧ Below w.heap.size w w' := by
  obtain ⟨i0, hi, hz0, hz1, hz2⟩ := info_parts infoU64
  have hsI : ¬ (1048576 : Int) < ((rd s).size : Int) := by simp [ByteArray.size]; omega
  have hg2 : 0 < w.heap.size := World.block_lt_of_cell? w _ hE.c2
  have hg4 : 4 < w.heap.size := World.block_lt_of_cell? w _ hE.c4
  have HE := hid0 hE
  obtain ⟨t, ht⟩ : ∃ t, t = rd s := ⟨_, rfl⟩
  rw [← ht] at hsI ⊢
  have HT := hid0 ht
  have HS := hid0 hs
  clear hE ht hs
  refine (callsIn_wide (n := 8)).1 ?_
  refine callsIn_of_wp_marks Tryz.func8 rfl trivial ?_ rfl
  simp only [Tryz.ntmps8, List.size_toArray, List.length_cons, List.length_nil, Nat.reduceAdd, Nat.reduceSub, Array.replicate_succ, Array.replicate_zero, List.push_toArray, List.append_toArray, List.nil_append, List.cons_append]
  gi_wp2_with (first
    | (gi_at_make; refine wpListIn_make_rowN _ rfl _ _ 55 rfl 151 i0 (.int .u64 0) Tryz.underlying55 hi hz0 hz1 rfl .i64 .i64 17408 17408 rfl rfl rfl (by rw [hz2]; omega) (by omega) ?_; intro N o5 hN ho5; have HN := hid0 hN; have HO5 := hid0 ho5; clear hN ho5)
    | (refine ⟨trivial, ?_⟩; gi_at_call 25; refine (lines_in' _ t _).mono ?_; rintro e w' ⟨rfl, rfl⟩)
    | fail)
  obtain ⟨W5, hW5⟩ : ∃ W5, W5 = ((((((w.alloc (.cells #[.slice none 0 0, .slice none 0 0] 25)).alloc (.cells #[.int .i64 0] 3)).alloc (.cells #[.nilIface] 27)).alloc o5).alloc (.cells #[.int .i64 0, .slice none 0 0, .slice none 0 0, .slice (some ⟨w.heap.size + 1 + 1 + 1, 0, none⟩) N N] 58)).alloc (.cells #[.string t] 9)) := ⟨_, rfl⟩
  obtain ⟨b0, b1, b2, b3, b4, b5, bs, bb⟩ := six w _ _ _ _ _ _ W5 hW5
  rw [← hW5]
  have hN := HN.out
  have HR0 := hid0 (rst_start W5 w.heap.size N hN (b3.trans (by rw [HO5.out])) b4)
  have HB5 := hid0 bb
  rw [HT.out] at b5
  have hsz : w.heap.size + 6 ≤ W5.heap.size := by omega
  have HB0 := hid0 b0
  have HB1 := hid0 b1
  have HB2 := hid0 b2
  have hN2 : 1114111 < 64 * N := by omega
  have hN3 : N ≤ 1000000 := by omega
  clear hW5 b0 b1 b2 b3 b4 bb bs hN HN HO5
  refine wpIn_rangeFunc_ownH rfl (by omega) (gf := 42) (lb := #[.pointer (some ⟨w.heap.size + 1 + 1 + 1 + 1 + 1, 0, none⟩)]) rfl trivial (enters_of Tryz.func42 (by kernel_rfl) rfl)
    (lines_stops 7 (by omega) (w.heap.size + 1 + 1 + 1 + 1 + 1) s HS.out W5 b5) (fun _ _ => trivial) (fun _ _ _ _ _ _ _ _ => trivial) (Below.refl _ _) (fun _ => rfl)
    (ParI W5 (w.heap.size + 5) (w.heap.size + 1 + 1 + 1 + 1) (w.heap.size + 1 + 1 + 1) N) (ParX A w)
    (parI_own _ _ _ _ _ _ (by omega)) (fun c => parX_own A w c _ (by omega)) ⟨ps0, rfl, HR0.out, Only.refl _ _⟩
    (fun x a' _ => a' = { tmps := #[.string t, undef, .pointer (some ⟨w.heap.size, 0, none⟩), .pointer (some ⟨w.heap.size + 1, 0, none⟩), .pointer (some ⟨w.heap.size + 1 + 1, 0, none⟩), .pointer (some ⟨w.heap.size + 1 + 1 + 1 + 1, 0, none⟩), .int .i64 (x.num : Int), .string (rd x.body), undef, .string t, .int .i64 (t.size : Int), .bool false, undef, undef, .slice (some ⟨w.heap.size + 1 + 1 + 1, 0, none⟩) N N, .agg #[.int .i64 0, .slice none 0 0, .slice none 0 0, .slice (some ⟨w.heap.size + 1 + 1 + 1, 0, none⟩) N N], .string t, .func (.func 42) #[] #[.pointer (some ⟨w.heap.size + 1 + 1 + 1 + 1 + 1, 0, none⟩)], .int .i64 (x.num : Int), .string (rd x.body), undef, undef, undef, undef, undef, undef, undef, undef], defers := [] })
    (fun x a' _ _ _ _ h _ _ => h) ?assign ?body ?done ?stop
  case assign =>
    rintro l pre x W K hI hK
    gi_wp2
    exact hK _ _ (KeepsFrom.refl _ _) trivial hI rfl
  case body =>
    rintro l pre x a' W hl ⟨r, hr⟩ ⟨st, hf, hrs, hon⟩ rfl hlt
    have hBW : Below w.heap.size w W := HB5.out.trans ((hon.below (B := w.heap.size + 3) (by omega) (rest_lt _)).mono (by omega))
    have hTk := take_any st x.body (Nat.le_trans x.short (by omega)) (w.heap.size + 5) (w.heap.size + 1 + 1 + 1 + 1) (w.heap.size + 1 + 1 + 1) N N A W hrs (HE.out.below hBW) (by omega) (by omega) (by have := hon.size; omega) hN2 hN3
    have hb0 : W.heap[w.heap.size]? = some (.cells #[.slice none 0 0, .slice none 0 0] 25 (0, 0)) := (hon.block _ (by omega) (fun h => by have := rest_lt _ _ h; omega)).trans HB0.out
    have hb1 : W.heap[w.heap.size + 1]? = some (.cells #[.int .i64 0] 3 (0, 0)) := (hon.block _ (by omega) (fun h => by have := rest_lt _ _ h; omega)).trans HB1.out
    have hb2 : W.heap[w.heap.size + 1 + 1]? = some (.cells #[.nilIface] 27 (0, 0)) := (hon.block _ (by omega) (fun h => by have := rest_lt _ _ h; omega)).trans HB2.out
    have HF := hid0 hf
    have HOn := hid0 hon
    have HBW := hid0 hBW
    cases hls : lineStep st (bareOf x.body) with
    | go s' =>
      rw [hls] at hTk
      have HLs := hid0 hls
      have HTk := hid0 hTk
      clear hTk hb0 hb1 hb2 hf hon hrs hls hBW hr
      gi_wp2_with (first
        | (refine ⟨trivial, ?_⟩; gi_at_call 26; refine (callsIn_wide.2 HTk.out).mono ?_; rintro e w1 ⟨v, rfl, hf1, rfl, hr1⟩; have HF1 := hid0 hf1; have HR1 := hid0 hr1; clear hf1 hr1)
        | fail)
      exact ⟨HF1.out.others.from _, trivial, s', by rw [List.map_append]; exact foldL_snoc _ _ _ _ HF.out HLs.out, HR1.out, HOn.out.frm HF1.out⟩
    | stop i =>
      rw [hls] at hTk
      have HLs := hid0 hls
      have HTk : Hid (Calls Tryz.prog 26 #[.pointer (some ⟨w.heap.size + 1 + 1 + 1 + 1, 0, none⟩), .string (rd x.body)] W fun e w' => e = .returned (errAt A i) ∧ Frm (w.heap.size + 5) (w.heap.size + 1 + 1 + 1 + 1) (w.heap.size + 1 + 1 + 1) W w') := hid0 (hTk.mono (by rintro e w' ⟨v, rfl, h1, rfl⟩; exact ⟨rfl, h1⟩))
      unfold errAt at HTk
      have HK0 : Hid (∀ w1, Frm (w.heap.size + 5) (w.heap.size + 1 + 1 + 1 + 1) (w.heap.size + 1 + 1 + 1) W w1 → w1.heap[w.heap.size]? = some (.cells #[.slice none 0 0, .slice none 0 0] 25 (0, 0)) ∧ w1.heap[w.heap.size + 1]? = some (.cells #[.int .i64 0] 3 (0, 0)) ∧ w1.heap[w.heap.size + 1 + 1]? = some (.cells #[.nilIface] 27 (0, 0))) := hid0 (fun w1 h => ⟨(h.kept _ (by omega) (Array.getElem?_eq_some_iff.1 hb0).1 (by omega) (by omega)).trans hb0, (h.kept _ (by omega) (Array.getElem?_eq_some_iff.1 hb1).1 (by omega) (by omega)).trans hb1, (h.kept _ (by omega) (Array.getElem?_eq_some_iff.1 hb2).1 (by omega) (by omega)).trans hb2⟩)
      have hWl := HBW.out.size
      clear hTk hb0 hb1 hb2 hf hon hrs hls hBW hr
      gi_wp2_with (first
        | (refine ⟨trivial, ?_⟩; gi_at_call 26; refine (callsIn_wide.2 HTk.out).mono ?_; rintro e w1 ⟨rfl, hf1⟩; obtain ⟨k0, k1, k2⟩ := HK0.out w1 hf1; have x0 : w1.cell? ⟨w.heap.size, 0, none⟩ = some (.slice none 0 0) := (by rw [cell_of_row _ _ _ _ _ _ k0]; rfl); have x1 : w1.cell? ⟨w.heap.size, 1, none⟩ = some (.slice none 0 0) := (by rw [cell_of_row _ _ _ _ _ _ k0]; rfl); have x2 : w1.cell? ⟨w.heap.size + 1, 0, none⟩ = some (.int .i64 0) := (by rw [cell_of_row _ _ _ _ _ _ k1]; rfl); have x3 : w1.cell? ⟨w.heap.size + 1 + 1, 0, none⟩ = some .nilIface := (by rw [cell_of_row _ _ _ _ _ _ k2]; rfl); have y0 : ∀ j, w1.frozen? ⟨w.heap.size, j, none⟩ = false := (fun j => frozen_of_row _ _ _ _ _ k0); have y1 : ∀ j, w1.frozen? ⟨w.heap.size + 1, j, none⟩ = false := (fun j => frozen_of_row _ _ _ _ _ k1); have y2 : ∀ j, w1.frozen? ⟨w.heap.size + 1 + 1, j, none⟩ = false := (fun j => frozen_of_row _ _ _ _ _ k2); have HK1 := hid0 k0; have HK2 := hid0 k1; have HK3 := hid0 k2; have HF1 := hid0 hf1; clear hf1 k0 k1 k2)
        | fail)
      obtain ⟨r0, r1, r2, _, r4, r5⟩ := four_set w1 w.heap.size _ _ _ _ (.slice none 0 0) (.slice none 0 0) (.int .i64 (x.num : Int)) (.iface 236 (.pointer (some (A i)))) _ _ _ HK1.out HK2.out HK3.out _ rfl
      exact ⟨(HF1.out.others.trans r4).from _, rfl, pre, x, i, st, rfl, HF.out, HLs.out, r0, r1, r2, r5 _ _ (Nat.le_refl _) (HBW.out.trans (HF1.out.below (by omega) (by omega) (by omega) hWl))⟩
  case done =>
    rintro D ys W hD hS ⟨st, hf, hrs, hon⟩ hK
    have hBW : Below w.heap.size w W := HB5.out.trans ((hon.below (B := w.heap.size + 3) (by omega) (rest_lt _)).mono (by omega))
    have HPr : Hid (parseL s = .ok st) := hid0 (all_fold s ys hS st hf)
    have hb0 : W.heap[w.heap.size]? = some (.cells #[.slice none 0 0, .slice none 0 0] 25 (0, 0)) := (hon.block _ (by omega) (fun h => by have := rest_lt _ _ h; omega)).trans HB0.out
    have hb1 : W.heap[w.heap.size + 1]? = some (.cells #[.int .i64 0] 3 (0, 0)) := (hon.block _ (by omega) (fun h => by have := rest_lt _ _ h; omega)).trans HB1.out
    have hb2 : W.heap[w.heap.size + 1 + 1]? = some (.cells #[.nilIface] 27 (0, 0)) := (hon.block _ (by omega) (fun h => by have := rest_lt _ _ h; omega)).trans HB2.out
    have HPy := hid0 (property_any st _ _ _ _ _ A W hrs (HE.out.below hBW).c0)
    have HOk := hid0 hrs.ok
    have HBW := hid0 hBW
    have HKD := hid0 hK
    have HBs := hid0 (And.intro hb0 (And.intro hb1 hb2))
    have hWl := hBW.size
    have hDn : w.heap.size + 6 ≤ D := by omega
    have hWl6 : w.heap.size + 6 ≤ W.heap.size := Nat.le_trans hsz hon.size
    clear hb0 hb1 hb2 hf hS hon hrs hBW hK
    gi_wp2_with (first
      | (refine ⟨trivial, ?_⟩; gi_at_call 27; refine (callsIn_wide.2 HPy.out).mono ?_; rintro e w1 ⟨vN, vS, rfl, hn1, hs1, hb1⟩; obtain ⟨aN, cN, rfl, _⟩ := hn1.sa; obtain ⟨aS, cS, rfl, _⟩ := hs1.pa; have k0 := (hb1.block _ (Array.getElem?_eq_some_iff.1 HBs.out.1).1).trans HBs.out.1; have k1 := (hb1.block _ (Array.getElem?_eq_some_iff.1 HBs.out.2.1).1).trans HBs.out.2.1; have k2 := (hb1.block _ (Array.getElem?_eq_some_iff.1 HBs.out.2.2).1).trans HBs.out.2.2; have x0 : w1.cell? ⟨w.heap.size, 0, none⟩ = some (.slice none 0 0) := (by rw [cell_of_row _ _ _ _ _ _ k0]; rfl); have x1 : w1.cell? ⟨w.heap.size, 1, none⟩ = some (.slice none 0 0) := (by rw [cell_of_row _ _ _ _ _ _ k0]; rfl); have x2 : w1.cell? ⟨w.heap.size + 1, 0, none⟩ = some (.int .i64 0) := (by rw [cell_of_row _ _ _ _ _ _ k1]; rfl); have x3 : w1.cell? ⟨w.heap.size + 1 + 1, 0, none⟩ = some .nilIface := (by rw [cell_of_row _ _ _ _ _ _ k2]; rfl); have y0 : ∀ j, w1.frozen? ⟨w.heap.size, j, none⟩ = false := (fun j => frozen_of_row _ _ _ _ _ k0); have y1 : ∀ j, w1.frozen? ⟨w.heap.size + 1, j, none⟩ = false := (fun j => frozen_of_row _ _ _ _ _ k1); have y2 : ∀ j, w1.frozen? ⟨w.heap.size + 1 + 1, j, none⟩ = false := (fun j => frozen_of_row _ _ _ _ _ k2); have HK1 := hid0 k0; have HK2 := hid0 k1; have HK3 := hid0 k2; have HN1 := hid0 hn1; have HS1 := hid0 hs1; have HB1' := hid0 hb1; clear hn1 hs1 hb1 k0 k1 k2)
      | fail)
    obtain ⟨r0, r1, r2, r3, _, r5⟩ := four_set w1 w.heap.size _ _ _ _ (.slice aN st.names.length cN) (.slice aS (joinL st.sp).length cS) (.int .i64 0) .nilIface _ _ _ HK1.out HK2.out HK3.out _ rfl
    generalize (((w1.setCell ⟨w.heap.size, 0, none⟩ (.slice aN st.names.length cN)).setCell ⟨w.heap.size, 1, none⟩ (.slice aS (joinL st.sp).length cS)).setCell ⟨w.heap.size + 1, 0, none⟩ (.int .i64 0)).setCell ⟨w.heap.size + 1 + 1, 0, none⟩ .nilIface = W6 at r0 r1 r2 r3 r5 ⊢
    have hK' : W6.heap[D]? = some (.deferred (some [])) := (r3 D (by omega) (by omega) (by omega)).trans ((HB1'.out.block D (Array.getElem?_eq_some_iff.1 HKD.out).1).trans HKD.out)
    refine ⟨by simp, .inl ⟨_, _, rfl, run_takeDeferred hK', ?_⟩⟩
    have hck := ckp_own (grownBy_putObj' W6 D (.deferred none)) (fun r e => by cases e; exact ⟨_, hK', rfl⟩)
    have k0 := hck _ _ _ _ r0
    have k1 := hck _ _ _ _ r1
    have k2 := hck _ _ _ _ r2
    have z0 : (W6.putObj D (.deferred none)).cell? ⟨w.heap.size, 0, none⟩ = some (.slice aN st.names.length cN) := by rw [cell_of_row _ _ _ _ _ _ k0]; rfl
    have z1 : (W6.putObj D (.deferred none)).cell? ⟨w.heap.size, 1, none⟩ = some (.slice aS (joinL st.sp).length cS) := by rw [cell_of_row _ _ _ _ _ _ k0]; rfl
    have z2 : (W6.putObj D (.deferred none)).cell? ⟨w.heap.size + 1, 0, none⟩ = some (.int .i64 0) := by rw [cell_of_row _ _ _ _ _ _ k1]; rfl
    have z3 : (W6.putObj D (.deferred none)).cell? ⟨w.heap.size + 1 + 1, 0, none⟩ = some .nilIface := by rw [cell_of_row _ _ _ _ _ _ k2]; rfl
    refine ⟨.tuple #[.agg #[.slice aN st.names.length cN, .slice aS (joinL st.sp).length cS], .int .i64 0, .nilIface], by simp [results, Tryz.results8, go_sem, z0, z1, z2, z3]; try rfl, ?_, ?_⟩
    · rw [HPr.out]
      have hoN : OwnS (W6.putObj D (.deferred none)) (w.heap.size + 5) (.slice aN st.names.length cN) st.names := row_ck (row_keep HN1.out (fun i hi _ => r3 i (by omega) (by omega) (by omega))) hck
      have hoS : OwnP (W6.putObj D (.deferred none)) W.heap.size (.slice aS (joinL st.sp).length cS) (joinL st.sp) := row_ck (row_keep HS1.out (fun i hi _ => r3 i (by omega) (by omega) (by omega))) hck
      exact ⟨_, _, rfl, hoN.base (by omega), hoS.base hWl, HOk.out⟩
    · exact (r5 _ _ (Nat.le_refl _) (HBW.out.trans (HB1'.out.mono hWl))).trans (belowK_b (w := w) (Nat.le_refl _) W6 D _ _ (by omega) hK' rfl rfl)
  case stop =>
    rintro D c pre W hD hsp ⟨rfl, p, x, i, st, rfl, hf, hls, h0, h1, h2, hB⟩ hK
    gi_wp2
    refine ⟨by simp, .inl ⟨_, _, rfl, run_takeDeferred hK, ?_⟩⟩
    have hck := ckp_own (grownBy_putObj' W D (.deferred none)) (fun r e => by cases e; exact ⟨_, hK, rfl⟩)
    have k0 := hck _ _ _ _ h0
    have k1 := hck _ _ _ _ h1
    have k2 := hck _ _ _ _ h2
    have x0 : (W.putObj D (.deferred none)).cell? ⟨w.heap.size, 0, none⟩ = some (.slice none 0 0) := by rw [cell_of_row _ _ _ _ _ _ k0]; rfl
    have x1 : (W.putObj D (.deferred none)).cell? ⟨w.heap.size, 1, none⟩ = some (.slice none 0 0) := by rw [cell_of_row _ _ _ _ _ _ k0]; rfl
    have x2 : (W.putObj D (.deferred none)).cell? ⟨w.heap.size + 1, 0, none⟩ = some (.int .i64 (x.num : Int)) := by rw [cell_of_row _ _ _ _ _ _ k1]; rfl
    have x3 : (W.putObj D (.deferred none)).cell? ⟨w.heap.size + 1 + 1, 0, none⟩ = some (errAt A i) := by rw [cell_of_row _ _ _ _ _ _ k2]; rfl
    refine ⟨.tuple #[.agg #[.slice none 0 0, .slice none 0 0], .int .i64 (x.num : Int), errAt A i], by simp [results, Tryz.results8, go_sem, x0, x1, x2, x3]; try rfl, ?_, ?_⟩
    · rw [stop_fold s p x hsp st hf i hls]; rfl
    · exact hB.trans (belowK_b (w := w) (Nat.le_refl _) W D _ _ (by omega) hK rfl rfl)
end Go.Proofs.YthdmhelgmejicaaGreatDoor
namespace Go.Proofs.YthdmhelgmejicaaGreatDoor
open Go.RowKit Go.Shelf
theorem SA.later {w w' : World} {a : Option Addr} {L : List ByteArray} (h : SA w a L) (hb : Below w.heap.size w w') : SA w' a L := ⟨fun k hk => by
  obtain ⟨b, off, rfl, h1⟩ := h.at' k hk
  exact ⟨b, off, rfl, (hb.cell (p := ⟨b, off + k, none⟩) (World.block_lt_of_cell? w _ h1)).trans h1⟩⟩
set_option maxRecDepth 10000 in
set_option maxHeartbeats 400000 in
theorem sameS_eq (l : List ByteArray) (a b : Option Addr) (ca cb : Nat) (w : World) (hl : l.length ≤ 140737488355328) (ha : SA w a l) (hb : SA w b l) :
    Calls Tryz.prog 34 #[.slice a l.length ca, .slice b l.length cb] w fun e w' => e = .returned (.bool true) ∧ ∃ q, w' = w.drewN q := by
  have HA := hid0 ha
  have HB := hid0 hb
  clear ha hb
  go_enter Tryz.func34, Tryz.ntmps34
  go_wp2
  go_loopw [5] (fun i wr => ∃ k q : Nat, k ≤ l.length ∧ i = .int .i64 (k : Int) ∧ wr = w.drewN q) (fun i _ => l.length - (intOf i).toNat)
  case atStart => exact ⟨0, 0, Nat.zero_le _, rfl, rfl⟩
  case round =>
    obtain ⟨k, q, hk, rfl, rfl⟩ := hrel
    by_cases hlt : k < l.length
    · obtain ⟨b1, o1, rfl, c0⟩ := HA.out.at' k hlt
      obtain ⟨b2, o2, rfl, d0⟩ := HB.out.at' k hlt
      generalize l[k] = u at *
      clear HA HB
      go_wp2
      go_quiet ((fail))
      go_wp2
      go_roundw
      case rel => exact ⟨k + 1, _, hlt, by go_num, rfl⟩
      case measure => simp [intOf]; omega
    · have hk2 : ¬ (k : Int) < (l.length : Int) := by omega
      clear HA HB
      go_wp2
      go_ret
      exact ⟨rfl, q, rfl⟩
set_option maxRecDepth 10000 in
set_option maxHeartbeats 400000 in
theorem sameP_eq (l : List Sp) (a b : Option Addr) (ca cb : Nat) (w : World) (hl : l.length ≤ 140737488355328) (ha : PA w a l) (hb : PA w b l) :
    Calls Tryz.prog 35 #[.slice a l.length ca, .slice b l.length cb] w fun e w' => e = .returned (.bool true) ∧ ∃ q, w' = w.drewN q := by
  have HA := hid0 ha
  have HB := hid0 hb
  clear ha hb
  go_enter Tryz.func35, Tryz.ntmps35
  go_wp2
  go_loopw [5] (fun i wr => ∃ k q : Nat, k ≤ l.length ∧ i = .int .i64 (k : Int) ∧ wr = w.drewN q) (fun i _ => l.length - (intOf i).toNat)
  case atStart => exact ⟨0, 0, Nat.zero_le _, rfl, rfl⟩
  case round =>
    obtain ⟨k, q, hk, rfl, rfl⟩ := hrel
    by_cases hlt : k < l.length
    · obtain ⟨b1, o1, rfl, _, c0, c1, c2⟩ := HA.out.at' k hlt
      obtain ⟨b2, o2, rfl, _, d0, d1, d2⟩ := HB.out.at' k hlt
      generalize l[k] = u at *
      clear HA HB
      go_wp2
      go_quiet ((fail))
      go_wp2
      go_roundw
      case rel => exact ⟨k + 1, _, hlt, by go_num, rfl⟩
      case measure => simp [intOf]; omega
    · have hk2 : ¬ (k : Int) < (l.length : Int) := by omega
      clear HA HB
      go_wp2
      go_ret
      exact ⟨rfl, q, rfl⟩
set_option maxRecDepth 10000 in
set_option maxHeartbeats 400000 in
theorem same_eq (names : List ByteArray) (sp : List Sp) (a b c d : Option Addr) (ca cb cc cd : Nat) (w : World) (hn : names.length ≤ 140737488355328) (hs : sp.length ≤ 140737488355328) (ha : SA w a names) (hb : PA w b sp) (hc : SA w c names) (hd : PA w d sp) :
    Calls Tryz.prog 10 #[.agg #[.slice a names.length ca, .slice b sp.length cb], .agg #[.slice c names.length cc, .slice d sp.length cd]] w fun e w' => e = .returned (.bool true) ∧ Below w.heap.size w w' := by
  have HS := hid0 (fun W (h : Below w.heap.size w W) => sameS_eq names a c ca cc W hn (ha.later h) (hc.later h))
  have HP := hid0 (fun W (h : Below w.heap.size w W) => sameP_eq sp b d cb cd W hs (hb.later h) (hd.later h))
  clear ha hb hc hd hn hs
  generalize names.length = n1 at *
  generalize sp.length = n2 at *
  have hB0 : ∀ o1 o2, Below w.heap.size w ((w.alloc o1).alloc o2) := fun o1 o2 => ((Below.refl _ _).alloc (Nat.le_refl _) _).alloc (by simp) _
  have HB0 := hid0 hB0
  clear hB0
  go_enter Tryz.func10, Tryz.ntmps10
  go_wp2_with (first
    | (go_at_call 34; refine (HS.out _ (HB0.out _ _)).mono ?_; rintro e w1 ⟨rfl, q1, rfl⟩)
    | (go_at_call 35; refine (HP.out _ (below_drewN (HB0.out _ _) _)).mono ?_; rintro e w2 ⟨rfl, q2, rfl⟩)
    | fail)
  go_ret
  exact ⟨rfl, below_drewN (HB0.out _ _) _⟩
theorem run_bad {L : List By} {st : PS} {k line i : Nat} (h : linesRun st k L = .bad line i) : i < 11 := by
  induction L generalizing st k with
  | nil => simp [linesRun] at h
  | cons b r ih =>
    rw [linesRun] at h
    cases hl : lineStep st (bareOf b) with
    | go s' => rw [hl] at h; exact ih h
    | stop j =>
      rw [hl] at h
      simp only [PR.bad.injEq] at h
      obtain ⟨_, rfl⟩ := h
      unfold lineStep at hl
      split at hl
      · simp at hl
      · split at hl
        · simp only [LR.stop.injEq] at hl; omega
        · split at hl
          · rename_i hc
            simp only [LR.stop.injEq] at hl
            unfold chkNo at hc
            split at hc
            · simp at hc; omega
            · split at hc
              · simp at hc; omega
              · simp at hc
          · split at hl
            · simp only [LR.stop.injEq] at hl; omega
            · split at hl
              · simp only [LR.stop.injEq] at hl; omega
              · simp at hl
set_option maxRecDepth 10000 in
set_option maxHeartbeats 400000 in
theorem refParse_long (s : ByteArray) (hs : 1048576 < s.size) (w : World) :
    Calls Tryz.prog 9 #[.string s] w fun e w' => e = .returned (.tuple #[.agg #[.slice none 0 0, .slice none 0 0], .int .i64 0, .int .i64 (refNo 2)]) ∧ Below w.heap.size w w' := by
  have hsI : (1048576 : Int) < (s.size : Int) := by omega
  go_enter Tryz.func9, Tryz.ntmps9
  go_wp2
  refine bodyPost_ret (by simp [results, Tryz.results9, go_sem]; try rfl) rfl ?_
  exact ⟨rfl, by go_grown⟩
set_option maxRecDepth 10000 in
set_option maxHeartbeats 400000 in
theorem parse_long (s : ByteArray) (hs : 1048576 < s.size) (A : Nat → Addr) (w : World) (hE : Sents w A) :
    Calls Tryz.prog 8 #[.string s] w fun e w' => e = .returned (.tuple #[.agg #[.slice none 0 0, .slice none 0 0], .int .i64 0, errAt A 2]) ∧ Below w.heap.size w w' := by
  have hsI : (1048576 : Int) < (s.size : Int) := by omega
  have c2 := hE.c2
  have hg2 : 0 < w.heap.size := World.block_lt_of_cell? w _ hE.c2
  clear hE
  go_enter Tryz.func8, Tryz.ntmps8
  go_wp2
  have n0 := heap_alloc_new w (.cells #[.slice none 0 0, .slice none 0 0] 25)
  have n1 := heap_alloc_new (w.alloc (.cells #[.slice none 0 0, .slice none 0 0] 25)) (.cells #[.int .i64 0] 3)
  have n2 := heap_alloc_new ((w.alloc (.cells #[.slice none 0 0, .slice none 0 0] 25)).alloc (.cells #[.int .i64 0] 3)) (.cells #[.nilIface] 27)
  simp only [World.size_alloc] at n1 n2
  have k0 : (((w.alloc (.cells #[.slice none 0 0, .slice none 0 0] 25)).alloc (.cells #[.int .i64 0] 3)).alloc (.cells #[.nilIface] 27)).heap[w.heap.size]? = some (.cells #[.slice none 0 0, .slice none 0 0] 25 (0, 0)) := by
    rw [Below.heap_alloc _ _ _ (by simp only [World.size_alloc]; omega), Below.heap_alloc _ _ _ (by simp only [World.size_alloc]; omega)]; exact n0
  have k1 : (((w.alloc (.cells #[.slice none 0 0, .slice none 0 0] 25)).alloc (.cells #[.int .i64 0] 3)).alloc (.cells #[.nilIface] 27)).heap[w.heap.size + 1]? = some (.cells #[.int .i64 0] 3 (0, 0)) := by
    rw [Below.heap_alloc _ _ _ (by simp only [World.size_alloc]; omega)]; exact n1
  have hB3 : Below w.heap.size w (((w.alloc (.cells #[.slice none 0 0, .slice none 0 0] 25)).alloc (.cells #[.int .i64 0] 3)).alloc (.cells #[.nilIface] 27)) := (((Below.refl _ w).alloc (Nat.le_refl _) _).alloc (by simp only [World.size_alloc]; omega) _).alloc (by simp only [World.size_alloc]; omega) _
  generalize ((w.alloc (.cells #[.slice none 0 0, .slice none 0 0] 25)).alloc (.cells #[.int .i64 0] 3)).alloc (.cells #[.nilIface] 27) = W3 at k0 k1 n2 hB3 ⊢
  have cE := (hB3.cell (p := ⟨0, 0, none⟩) hg2).trans c2
  have x0 : W3.cell? ⟨w.heap.size, 0, none⟩ = some (.slice none 0 0) := by rw [cell_of_row _ _ _ _ _ _ k0]; rfl
  have x1 : W3.cell? ⟨w.heap.size, 1, none⟩ = some (.slice none 0 0) := by rw [cell_of_row _ _ _ _ _ _ k0]; rfl
  have x2 : W3.cell? ⟨w.heap.size + 1, 0, none⟩ = some (.int .i64 0) := by rw [cell_of_row _ _ _ _ _ _ k1]; rfl
  have x3 : W3.cell? ⟨w.heap.size + 1 + 1, 0, none⟩ = some .nilIface := by rw [cell_of_row _ _ _ _ _ _ n2]; rfl
  have y0 : ∀ j, W3.frozen? ⟨w.heap.size, j, none⟩ = false := fun j => frozen_of_row _ _ _ _ _ k0
  have y1 : ∀ j, W3.frozen? ⟨w.heap.size + 1, j, none⟩ = false := fun j => frozen_of_row _ _ _ _ _ k1
  have y2 : ∀ j, W3.frozen? ⟨w.heap.size + 1 + 1, j, none⟩ = false := fun j => frozen_of_row _ _ _ _ _ n2
  have HK := hid0 (And.intro k0 (And.intro k1 n2))
  have HB := hid0 hB3
  have e1 : ¬ w.heap.size = 0 := by omega
  have e2 : ¬ w.heap.size + 1 = 0 := by omega
  have e3 : ¬ w.heap.size + 1 + 1 = 0 := by omega
  clear k0 k1 n2 n0 n1 hB3 c2
  go_region
  go_wp2
  obtain ⟨r0, r1, r2, _, _, r5⟩ := four_set W3 w.heap.size _ _ _ _ (.slice none 0 0) (.slice none 0 0) (.int .i64 0) (.iface 236 (.pointer (some (A 2)))) _ _ _ HK.out.1 HK.out.2.1 HK.out.2.2 _ rfl
  generalize (((W3.setCell ⟨w.heap.size, 0, none⟩ (.slice none 0 0)).setCell ⟨w.heap.size, 1, none⟩ (.slice none 0 0)).setCell ⟨w.heap.size + 1, 0, none⟩ (.int .i64 0)).setCell ⟨w.heap.size + 1 + 1, 0, none⟩ (.iface 236 (.pointer (some (A 2)))) = W6 at r0 r1 r2 r5 ⊢
  have z0 : W6.cell? ⟨w.heap.size, 0, none⟩ = some (.slice none 0 0) := by rw [cell_of_row _ _ _ _ _ _ r0]; rfl
  have z1 : W6.cell? ⟨w.heap.size, 1, none⟩ = some (.slice none 0 0) := by rw [cell_of_row _ _ _ _ _ _ r0]; rfl
  have z2 : W6.cell? ⟨w.heap.size + 1, 0, none⟩ = some (.int .i64 0) := by rw [cell_of_row _ _ _ _ _ _ r1]; rfl
  have z3 : W6.cell? ⟨w.heap.size + 1 + 1, 0, none⟩ = some (.iface 236 (.pointer (some (A 2)))) := by rw [cell_of_row _ _ _ _ _ _ r2]; rfl
  refine bodyPost_ret (by simp [results, Tryz.results8, go_sem, z0, z1, z2, z3]; try rfl) rfl ?_
  exact ⟨rfl, below_drewN (r5 _ _ (Nat.le_refl _) HB.out) 1⟩
set_option maxRecDepth 10000 in
set_option maxHeartbeats 400000 in
/-- The law over what both Parse answer. -/
theorem parses_of (s : ByteArray) (w : World) (names : List ByteArray) (sp : List Sp) (line : Nat) (ev : Value) (num : Int) (hn : names.length ≤ 140737488355328) (hs : sp.length ≤ 140737488355328)
    (hP : Calls Tryz.prog 8 #[.string s] w fun e w' => ∃ vN vS, e = .returned (.tuple #[.agg #[vN, vS], .int .i64 (line : Int), ev]) ∧ OwnS w' w.heap.size vN names ∧ OwnP w' w.heap.size vS sp ∧ Below w.heap.size w w')
    (hR : ∀ W, Below w.heap.size w W → Calls Tryz.prog 9 #[.string s] W fun e w' => ∃ vN vS, e = .returned (.tuple #[.agg #[vN, vS], .int .i64 (line : Int), .int .i64 num]) ∧ OwnS w' W.heap.size vN names ∧ OwnP w' W.heap.size vS sp ∧ Below W.heap.size W w')
    (hNum : ∀ W, Below w.heap.size w W → Calls Tryz.prog 11 #[ev] W fun e w' => e = .returned (.int .i64 num) ∧ w' = W) :
    Calls Tryz.prog 3 #[.string s] w fun e w' => e = .returned (.bool true) ∧ Below w.heap.size w w' := by
  have HP := hid0 hP
  have HR := hid0 hR
  have HNum := hid0 hNum
  have HSm := hid0 (fun a b c d ca cb cc cd W ha hb hc hd => same_eq names sp a b c d ca cb cc cd W hn hs ha hb hc hd)
  clear hP hR hNum hn hs
  have HB0 : Hid (∀ W o, Below w.heap.size w W → Below w.heap.size w (W.alloc o)) := hid0 (fun W o h => h.alloc h.size o)
  go_enter Tryz.func3, Tryz.ntmps3
  go_wp2_with (first
    | (go_at_call 8; refine HP.out.mono ?_; rintro e w1 ⟨vN, vS, rfl, hN1, hS1, hb1⟩; obtain ⟨a, ca, rfl, ha⟩ := hN1.sa; obtain ⟨b, cb, rfl, hb⟩ := hS1.pa; have HA := hid0 ha; have HB := hid0 hb; have HB1 := hid0 hb1; have HK1 := hid0 (heap_alloc_new w1 (.cells #[.slice a names.length ca, .slice b sp.length cb] 25)); clear hN1 hS1 hb1 ha hb)
    | (go_at_call 9; refine (HR.out _ (HB0.out _ _ HB1.out)).mono ?_; rintro e w2 ⟨vN, vS, rfl, hN2, hS2, hb2⟩; obtain ⟨c, cc, rfl, hc⟩ := hN2.sa; obtain ⟨d, cd, rfl, hd⟩ := hS2.pa; have HC := hid0 hc; have HD := hid0 hd; have HB2 := hid0 hb2; have hk2 := (hb2.block w1.heap.size (by simp)).trans HK1.out; have x0 : w2.cell? ⟨w1.heap.size, 0, none⟩ = some (.slice a names.length ca) := (by rw [cell_of_row _ _ _ _ _ _ hk2]; rfl); have x1 : w2.cell? ⟨w1.heap.size, 1, none⟩ = some (.slice b sp.length cb) := (by rw [cell_of_row _ _ _ _ _ _ hk2]; rfl); have hz2 : w1.heap.size < w2.heap.size := (Array.getElem?_eq_some_iff.1 hk2).1; have HBW2 := hid0 ((HB0.out _ (.cells #[.slice a names.length ca, .slice b sp.length cb] 25) HB1.out).trans (hb2.mono (by have := HB1.out.size; simp; omega))); have HLa : Hid (∀ o, Below w1.heap.size w1 (w2.alloc o)) := hid0 (fun o => (((Below.refl _ w1).alloc (Nat.le_refl _) (.cells #[.slice a names.length ca, .slice b sp.length cb] 25)).trans (hb2.mono (by simp))).alloc (Nat.le_of_lt hz2) o); clear hN2 hS2 hb2 hc hd hk2)
    | (go_at_call 10; refine (HSm.out a b c d ca cb cc cd _ (HA.out.later (HLa.out _)) (HB.out.later (HLa.out _)) (HC.out.later ((Below.refl _ _).alloc (Nat.le_refl _) _)) (HD.out.later ((Below.refl _ _).alloc (Nat.le_refl _) _))).mono ?_; rintro e w3 ⟨rfl, hb3⟩; have HB3 := hid0 ((HB0.out _ _ HBW2.out).trans (hb3.mono (HB0.out _ _ HBW2.out).size)); clear hb3)
    | (go_at_call 11; refine (HNum.out _ HB3.out).mono ?_; rintro e w4 ⟨rfl, rfl⟩)
    | fail)
  go_ret
  exact ⟨by simp, HB3.out⟩
/-- What may be said in one file. -/
structure Few (st : PS) : Prop where
  nn : st.names.length ≤ 62
  nc : st.cl.length ≤ 65536
  ns : st.sp.length = st.cl.length
theorem few_step {st s' : PS} {b : By} (h : Few st) (hl : lineStep st b = .go s') : Few s' := by
  unfold lineStep at hl
  split at hl
  · obtain rfl := LR.go.inj hl; exact h
  · split at hl
    · simp at hl
    · split at hl
      · simp at hl
      · split at hl
        · simp at hl
        · rename_i hm
          split at hl
          · simp at hl
          · obtain rfl := LR.go.inj hl
            obtain ⟨h1, h2, h3⟩ := h
            refine ⟨?_, by simp; omega, by simp only [putS_len, List.length_append, List.length_singleton]; omega⟩
            simp only
            split
            · rename_i hi
              have : ¬ 62 ≤ st.names.length := fun e => hm (.inr ⟨hi, e⟩)
              simp; omega
            · exact h1
theorem few_run {L : List By} {st s' : PS} {k : Nat} (h : Few st) (hr : linesRun st k L = .ok s') : Few s' := by
  induction L generalizing st k with
  | nil => simp only [linesRun, PR.ok.injEq] at hr; subst hr; exact h
  | cons b r ih =>
    rw [linesRun] at hr
    cases hl : lineStep st (bareOf b) with
    | go s2 => rw [hl] at hr; exact ih (few_step h hl) hr
    | stop j => rw [hl] at hr; simp at hr
theorem few_parse {l : By} {s' : PS} (hr : parseL l = .ok s') : Few s' := few_run ⟨by simp, by simp, rfl⟩ hr
theorem propParses_any (s : ByteArray) (A : Nat → Addr) (w : World) (hE : Sents w A) : Calls Tryz.prog 3 #[.string s] w fun e w' => e = .returned (.bool true) ∧ Below w.heap.size w w' := by
  by_cases hs : s.size ≤ 1048576
  · have hrd : rd s.data.toList = s := by simp [rd]
    have hsl : s.data.toList.length ≤ 1048576 := by simpa using hs
    have hP := parse_any s.data.toList hsl A w hE
    rw [hrd] at hP
    have hR := fun W => refParse_any s hs W
    cases hp : parseL s.data.toList with
    | ok st =>
      rw [hp] at hP hR
      obtain ⟨f1, f2, f3⟩ := few_parse hp
      have f4 := joinL_len st.sp
      refine parses_of s w st.names (joinL st.sp) 0 .nilIface 0 (by omega) (by omega) (hP.mono ?_) (fun W _ => (hR W).mono ?_) (fun W _ => kitNum_nil W)
      · rintro e w' ⟨⟨vN, vS, h1, h2, h3, _⟩, h5⟩
        exact ⟨vN, vS, h1, h2, h3, h5⟩
      · rintro e w' ⟨⟨vN, vS, h1, h2, h3, _⟩, h5⟩
        exact ⟨vN, vS, h1, h2, h3, h5⟩
    | bad line i =>
      rw [hp] at hP hR
      have hi := run_bad hp
      refine parses_of s w [] [] line (errAt A i) (refNo i) (by simp) (by simp) (hP.mono ?_) (fun W _ => (hR W).mono ?_) (fun W hW => kitNum_at W A (hE.below hW) i hi)
      · rintro e w' ⟨h1, h5⟩
        exact ⟨_, _, h1, World.ownsRow_nil _ _ _ _, OwnP.nil _ _, h5⟩
      · rintro e w' ⟨h1, h5⟩
        exact ⟨_, _, h1, World.ownsRow_nil _ _ _ _, OwnP.nil _ _, h5⟩
  · refine parses_of s w [] [] 0 (errAt A 2) (refNo 2) (by simp) (by simp) ((parse_long s (by omega) A w hE).mono ?_) (fun W _ => (refParse_long s (by omega) W).mono ?_) (fun W hW => kitNum_at W A (hE.below hW) 2 (by omega))
    · rintro e w' ⟨h1, h5⟩
      exact ⟨_, _, h1, World.ownsRow_nil _ _ _ _, OwnP.nil _ _, h5⟩
    · rintro e w' ⟨h1, h5⟩
      exact ⟨_, _, h1, World.ownsRow_nil _ _ _ _, OwnP.nil _ _, h5⟩
end Go.Proofs.YthdmhelgmejicaaGreatDoor
