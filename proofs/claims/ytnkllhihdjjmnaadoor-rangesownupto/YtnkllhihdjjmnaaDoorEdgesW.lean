/-
  The walk of ranges.edges.
-/
import Derived.Test.YtnkllhihdjjmnaaDoorEdgeLW
import Derived.Shelf.SlSortCmp.WholeK
import Derived.Shelf.SlicesG.Cmp
import Derived.Test.YtnkllhihdjjmnaaDoorShelfR
import Derived.Ground.SlsfProg
import Derived.Ground.SlgcProg
namespace Go.Proofs.YtnkllhihdjjmnaaDoor
open Go.Shelf Go.RowKit Go.Lib Go.Sort


def encE (x : Int × Int) : List Value := [.int .i64 x.1, .int .i64 x.2]
theorem ltE (x y : Int × Int) : ltOf (fun x y : Int × Int => Lib.compareInt x.1 y.1) x y = decide (x.1 < y.1) := by
  unfold ltOf Lib.compareInt
  by_cases h1 : x.1 < y.1
  · simp [h1]
  · by_cases h2 : y.1 < x.1 <;> simp [h1, h2]
theorem swoE : SWO (ltOf fun x y : Int × Int => Lib.compareInt x.1 y.1) where
  irrefl x := by rw [ltE]; simp
  trans x y z h1 h2 := by rw [ltE] at *; simp at *; omega
  ntrans x y z h1 h2 := by rw [ltE] at *; simp at *; omega
set_option maxHeartbeats 1000000 in
theorem closureE (x y : Int × Int) (W : World) : Calls Tryd.prog 54 #[.agg #[.int .i64 x.1, .int .i64 x.2], .agg #[.int .i64 y.1, .int .i64 y.2]] W fun e w' => e = .returned (.int .i64 (Lib.compareInt x.1 y.1)) ∧ ∃ q os', w' = grow (W.drewN q) os' := by
  have hcon := fun W' => AnyG.cmp_Compare_int Tryd.cmpInt x.1 y.1 W'
  change ∀ W', Calls Tryd.prog 55 _ _ _ at hcon
  generalize Lib.compareInt x.1 y.1 = r at hcon ⊢
  go_enter Tryd.func54, Tryd.ntmps54
  go_wp2_with (go_at_call 55; refine (hcon _).mono ?_; rintro e w' ⟨rfl, rfl⟩)
  go_ret
  exact ⟨rfl, 0, _, by rw [alloc_eq_grow, alloc_eq_grow, grow_grow]; rfl⟩
theorem cmpLaysE (blk off size : Nat) (w : World) : CmpLays Tryd.prog 54 #[] encE 2 (fun x y => Lib.compareInt x.1 y.1) blk off size w :=
  fun _ _ _ _ x y => closureE x y _
theorem sortE_any (blk off cap : Nat) (d : Array (Int × Int)) (w : World) (hH : HoldsK encE 2 w blk off d) (hblk : blk < w.heap.size) (hsz : d.size < 4611686018427387904) :
    Calls Tryd.prog 53 #[.slice (some ⟨blk, off, none⟩) d.size cap, .func (.func 54) #[] #[]] w fun e w' => e = .returned (.tuple #[]) ∧ ∃ d' n os, PermIn 0 d.size d d' ∧ SortedIn (ltOf fun x y : Int × Int => Lib.compareInt x.1 y.1) 0 d.size d' ∧ w' = sortWorldK encE 2 w blk off n d' os := by
  have eg : ∀ args w, (callFunc 54 args).run Tryd.prog w = .ok (.enter 54 args) w := enters_of Tryd.func54 (by kernel_rfl) rfl
  exact AnyQ.slices_SortFunc Tryd.sortE 2 Tryd.isAgg69 Tryd.sizeOf69 encE (fun _ => rfl) (fun x v hv => by simp [encE] at hv; rcases hv with rfl | rfl <;> rfl) (fun x y => Lib.compareInt x.1 y.1) swoE 54 #[] blk off cap d w eg (cmpLaysE blk off d.size w) hH hblk hsz
theorem flat_cells (E : List (Int × Int)) (j : Nat) (hj : j < E.length * 2) : (cellsR E)[j]? = some ((encE E.toArray[j / 2]!)[j % 2]!) := by
  obtain ⟨k, hk⟩ : ∃ k, j = k * 2 ∨ j = k * 2 + 1 := ⟨j / 2, by omega⟩
  rcases hk with rfl | rfl
  · have h2 : k < E.length := by omega
    have e : E.toArray[k]! = E[k] := by simp [h2]
    rw [(cellsR_at E k h2).1, show k * 2 / 2 = k by omega, show k * 2 % 2 = 0 by omega, e]
    rfl
  · have h2 : k < E.length := by omega
    have e : E.toArray[k]! = E[k] := by simp [h2]
    rw [(cellsR_at E k h2).2, show (k * 2 + 1) / 2 = k by omega, show (k * 2 + 1) % 2 = 1 by omega, e]
    rfl
theorem holds_of {w : World} {base g c : Nat} {E : List (Int × Int)} (h : OwnE w base (.slice (some ⟨g, 0, none⟩) E.length c) E) : HoldsK encE 2 w g 0 E.toArray := by
  intro j hj
  rw [size_flatK] at hj
  rw [get_flatK _ _ _ _ hj, Nat.zero_add]
  have h0 := h
  rcases h.2 with ⟨h', _⟩ | ⟨g', cap', cur, h', _⟩
  · simp at h'
  · simp only [Value.slice.injEq, Option.some.injEq, Addr.mk.injEq, and_true] at h'
    obtain ⟨rfl, _⟩ := h'
    simp only [List.size_toArray] at hj
    refine ⟨?_, World.ownsRow.frozenAt h0 j⟩
    rw [World.ownsRow.cellAt h0 j hj]
    exact flat_cells E j hj
theorem ra_of {w : World} {g : Nat} {d : Array (Int × Int)} (h : HoldsK encE 2 w g 0 d) : RA w (some ⟨g, 0, none⟩) d.toList := ⟨fun k hk => by
  have hk' : k < d.size := by simpa using hk
  have h0 := (HoldsK.cell h hk' (c := 0) (by omega))
  have h1 := (HoldsK.cell h hk' (c := 1) (by omega))
  have e : d[k]! = d.toList[k] := by simp [hk']
  rw [e] at h0 h1
  exact ⟨g, 0, rfl, h0.1, h1.1⟩⟩
theorem sorts : Sorts := by
  intro base g c E w hl hown
  have hlt := World.ownsRow.lt hown g rfl
  have h := sortE_any g 0 c E.toArray w (holds_of hown) hlt.2 (by simp; omega)
  rw [List.size_toArray] at h
  refine h.mono ?_
  rintro e w' ⟨rfl, d', n, os, hp, hs, rfl⟩
  have hsz : d'.size = E.length := by rw [hp.1]; simp
  refine ⟨rfl, d'.toList, ?_, ?_, ?_, ?_⟩
  · have := hp.2.2
    have e1 : (d'.extract 0 E.length) = d' := by rw [← hsz]; simp
    rw [e1] at this
    simpa using this
  · rw [List.pairwise_iff_getElem]
    intro i j hi hj hij
    simp only [Array.length_toList] at hi hj
    have := hs i j (Nat.zero_le _) hij (by omega)
    rw [ltE] at this
    simp only [decide_eq_false_iff_not] at this
    rw [getElem!_pos d' i hi, getElem!_pos d' j hj] at this
    simp only [Array.getElem_toList]
    omega
  · exact ra_of (holdsK_sortWorldK_c encE 2 w g 0 E.toArray d' n os (holds_of hown) hlt.2 (by simpa using hsz))
  · refine ⟨rfl, rfl, rfl, size_sortWorldK_c encE 2 w g 0 n d' os, fun k hk hne => ?_⟩
    have hne' : ¬ g = k := fun e => hne e.symm
    show ((w.heap.modify g _) ++ os)[k]? = w.heap[k]?
    rw [Array.getElem?_append_left (by rw [Array.size_modify]; exact hk), Array.getElem?_modify, if_neg hne']
theorem edges_any (l : List (Int × Int)) (a : Option Addr) (cap : Nat) (hl : l.length ≤ 50000000) (w : World) (ha : RA w a l) (hm : mayL l = true) :
    Calls Tryd.prog 44 #[.slice a l.length cap] w fun e w' => ∃ g c E, e = .returned (.slice (some ⟨g, 0, none⟩) E.length c) ∧ E.Perm (edgesOf l) ∧ E.Pairwise (fun x y => x.1 ≤ y.1) ∧ RA w' (some ⟨g, 0, none⟩) E ∧ E.length ≤ c ∧ g < w'.heap.size ∧ Go.RowKit.Below w.heap.size w w' := edges_of sorts l a cap hl w ha hm
end Go.Proofs.YtnkllhihdjjmnaaDoor
