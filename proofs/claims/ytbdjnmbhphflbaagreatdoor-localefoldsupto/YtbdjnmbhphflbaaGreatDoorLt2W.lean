/-
  The walks of caesuraref6's form, parts.
-/
import Derived.Test.YtbdjnmbhphflbaaGreatDoorLt1W
import Derived.Deep.RegionHeld3
namespace Go.Proofs.YtbdjnmbhphflbaaGreatDoor
open Go.RowKit Go.Shelf Go.Lib
theorem app_arr (a b : List UInt8) : (⟨a.toArray⟩ ++ ⟨b.toArray⟩ : ByteArray) = ⟨(a ++ b).toArray⟩ := by
  apply ByteArray.ext
  simp
theorem size_arr (l : List UInt8) : (⟨l.toArray⟩ : ByteArray).size = l.length := List.size_toArray
theorem ext_head (s : ByteArray) (n : Nat) : (s.extract 0 n).data.toList = s.data.toList.take n := extract_from_zero s n
theorem ext_tail (s : ByteArray) (n : Nat) : (s.extract n s.size).data.toList = s.data.toList.drop n := by
  rw [extract_data, List.take_of_length_le (by simp)]
set_option maxRecDepth 10000 in
set_option maxHeartbeats 1600000 in
theorem refForm_any (s : ByteArray) (hs : s.size ≤ 1000000) (w : World) : Calls Tryz.prog 84 #[.string s] w fun e w' => e = .returned (.string ⟨(formP s.data.toList).toArray⟩) ∧ Below w.heap.size w w' := by
  have HL := hid0 (refLetters_any s hs w)
  have HSL : Hid (s.data.toList.length = s.size) := hid0 (by simp)
  obtain ⟨Y, hY⟩ : ∃ Y, Y = formP s.data.toList := ⟨_, rfl⟩
  rw [← hY]
  have HY := hid0 hY
  clear hY
  have H0 := hid0 (refLower_any s hs w)
  have H1 := hid0 (refUpper_any s hs w)
  cases hq : s.data.toList.all isL with
  | true =>
    rw [hq] at HL
    by_cases h4 : (s.size : Int) = 4
    · have h4' : ((s.size : Int) == 4) = true := by simpa using h4
      have hg1 : (1 : Int) ≤ (s.size : Int) := by omega
      have HU : Hid (∀ W, Below w.heap.size w W → Calls Tryz.prog 120 #[.string (s.extract 0 1)] W fun e w' => e = .returned (.string ⟨((s.data.toList.take 1).map upperB).toArray⟩) ∧ Below w.heap.size w w') := hid0 (fun W hW => by
        have h := refUpper_any (s.extract 0 1) (by simp; omega) W
        rw [ext_head] at h
        exact h.mono (fun e w' hh => ⟨hh.1, Below.later hW hh.2⟩))
      have HD : Hid (∀ W, Below w.heap.size w W → Calls Tryz.prog 82 #[.string (s.extract 1 s.size)] W fun e w' => e = .returned (.string ⟨((s.data.toList.drop 1).map lowerB).toArray⟩) ∧ Below w.heap.size w w') := hid0 (fun W hW => by
        have h := refLower_any (s.extract 1 s.size) (by simp; omega) W
        rw [ext_tail] at h
        exact h.mono (fun e w' hh => ⟨hh.1, Below.later hW hh.2⟩))
      have HV : Hid (Y = (s.data.toList.take 1).map upperB ++ (s.data.toList.drop 1).map lowerB) := hid0 (by rw [HY.out, formP, if_pos ⟨hq, by rw [HSL.out]; omega⟩])
      obtain ⟨B1, hB1⟩ : ∃ B1 : ByteArray, B1 = ⟨((s.data.toList.take 1).map upperB).toArray⟩ := ⟨_, rfl⟩
      obtain ⟨B2, hB2⟩ : ∃ B2 : ByteArray, B2 = ⟨((s.data.toList.drop 1).map lowerB).toArray⟩ := ⟨_, rfl⟩
      have HE : Hid (B1 ++ B2 = ⟨Y.toArray⟩) := hid0 (by rw [hB1, hB2, app_arr, HV.out])
      have hz1 : ¬ 9223372036854775807 < B1.size + B2.size := by
        have e1 : B1.size ≤ 1 := by rw [hB1, size_arr, List.length_map, List.length_take]; omega
        have e2 : B2.size ≤ s.size := by rw [hB2, size_arr, List.length_map, List.length_drop, HSL.out]; omega
        omega
      rw [← hB1] at HU
      rw [← hB2] at HD
      have hB := Below.refl w.heap.size w
      clear hq HY H0 H1 HV hB1 hB2
      go_enter Tryz.func84, Tryz.ntmps84
      go_wp2_with (first | (go_at_call 83; refine HL.out.mono ?_; rintro e w1 ⟨rfl, hw1⟩; have hw1' := hw1.symm; subst hw1') | fail)
      go_region_held3 (fun W => Below w.heap.size w W) (first | assumption | go_grown)
        (first
          | (go_at_call 120; refine (HU.out _ (by assumption)).mono ?_; rintro e w2 ⟨rfl, hb2⟩)
          | (go_at_call 82; refine (HD.out _ (by assumption)).mono ?_; rintro e w2 ⟨rfl, hb2⟩))
      all_goals
        go_wp2
        go_ret
        exact ⟨by rw [← HE.out]; rfl, by assumption⟩
    · have h4' : ((s.size : Int) == 4) = false := by simpa using h4
      by_cases h2 : (s.size : Int) = 2
      · have h2' : ((s.size : Int) == 2) = true := by simpa using h2
        have HV : Hid (Y = s.data.toList.map upperB) := hid0 (by rw [HY.out, formP, if_neg (fun h => by have h1 := HSL.out; rw [h1] at h; omega), if_pos ⟨hq, by rw [HSL.out]; omega⟩])
        rw [← HV.out] at H1
        clear hq HY H0 h4 h2
        go_enter Tryz.func84, Tryz.ntmps84
        go_wp2_with (first
          | (go_at_call 83; refine HL.out.mono ?_; rintro e w1 ⟨rfl, hw1⟩; have hw1' := hw1.symm; subst hw1')
          | (go_at_call 120; refine H1.out.mono ?_; rintro e w2 ⟨rfl, hb2⟩))
        go_ret
        exact ⟨rfl, hb2⟩
      · have h2' : ((s.size : Int) == 2) = false := by simpa using h2
        have HV : Hid (Y = s.data.toList.map lowerB) := hid0 (by rw [HY.out, formP, if_neg (fun h => by have h1 := HSL.out; rw [h1] at h; omega), if_neg (fun h => by have h1 := HSL.out; rw [h1] at h; omega)])
        rw [← HV.out] at H0
        clear hq HY H1 h4 h2
        go_enter Tryz.func84, Tryz.ntmps84
        go_wp2_with (first
          | (go_at_call 83; refine HL.out.mono ?_; rintro e w1 ⟨rfl, hw1⟩; have hw1' := hw1.symm; subst hw1')
          | (go_at_call 82; refine H0.out.mono ?_; rintro e w2 ⟨rfl, hb2⟩))
        go_ret
        exact ⟨rfl, hb2⟩
  | false =>
    rw [hq] at HL
    have HV : Hid (Y = s.data.toList.map lowerB) := hid0 (by rw [HY.out, formP, if_neg (fun h => by rw [hq] at h; cases h.1), if_neg (fun h => by rw [hq] at h; cases h.1)])
    rw [← HV.out] at H0
    clear hq HY H1
    go_enter Tryz.func84, Tryz.ntmps84
    go_wp2_with (first
      | (go_at_call 83; refine HL.out.mono ?_; rintro e w1 ⟨rfl, hw1⟩; have hw1' := hw1.symm; subst hw1')
      | (go_at_call 82; refine H0.out.mono ?_; rintro e w2 ⟨rfl, hb2⟩))
    go_ret
    exact ⟨rfl, hb2⟩
def cellsS (L : List ByteArray) : List Value := L.map .string
def OwnS (w : World) (base : Nat) (v : Value) (L : List ByteArray) : Prop := w.ownsRow base 9 1 v L.length (cellsS L)
theorem infoStr : (Tryz.prog.info? 9).map (fun i => (i.zero, i.size, i.bytes)) = some (some (.string ⟨#[]⟩), 1, 16) := by kernel_rfl
/-- Strings in memory, each where it is asked. -/
structure SA (w : World) (a : Option Addr) (L : List ByteArray) : Prop where
  at' : ∀ k (h : k < L.length), ∃ b off, a = some ⟨b, off, none⟩ ∧ b < w.heap.size ∧ w.cell? ⟨b, off + k, none⟩ = some (.string L[k])
theorem SA.below {w w' : World} {a : Option Addr} {L : List ByteArray} (h : SA w a L) (hb : Below w.heap.size w w') : SA w' a L := ⟨fun k hk => by
  obtain ⟨b, off, rfl, h1, h2⟩ := h.at' k hk
  exact ⟨b, off, rfl, Nat.lt_of_lt_of_le h1 hb.size, (hb.cell (p := ⟨b, off + k, none⟩) h1).trans h2⟩⟩
theorem OwnS.sa {w : World} {base : Nat} {v : Value} {L : List ByteArray} (h : OwnS w base v L) : ∃ a cap, v = .slice a L.length cap ∧ SA w a L ∧ L.length ≤ cap := by
  have h0 := h
  rcases h.2 with ⟨rfl, hn⟩ | ⟨g, cap, cur, rfl, hg, hr, hc, _⟩
  · exact ⟨none, 0, by rw [hn], ⟨fun k hk => by omega⟩, by omega⟩
  · have hlt := (World.ownsRow.lt h0 g rfl).2
    refine ⟨_, cap, rfl, ⟨fun k hk => ⟨g, 0, rfl, hlt, ?_⟩⟩, hc⟩
    rw [Nat.zero_add, World.ownsRow.cellAt h0 k (by omega)]
    simp [cellsS, hk]
theorem owns_snoc {w wr w1 : World} {base : Nat} {v v' : Value} {L : List ByteArray} {c : ByteArray} {o : Obj} {n : Nat} (hn : n = L.length) (hown : OwnS wr base v L)
    (hown' : w1.ownsRow base 9 1 v' (n + 1) (cellsS L ++ [.string c])) (hgrow : (wr.alloc o).grownBy w1 v.ownBlock) (hbel : Below base w wr) (hb : base ≤ w.heap.size) :
    OwnS w1 base v' (L ++ [c]) ∧ Below base w w1 := by
  subst hn
  have hsz := hbel.size
  refine ⟨?_, (hbel.alloc (by omega) o).grown hgrow (by simp; omega) (fun k hk => (World.ownsRow.lt hown k hk).1)⟩
  have e2 : cellsS (L ++ [c]) = cellsS L ++ [.string c] := by simp [cellsS]
  unfold OwnS
  rw [List.length_append, e2]
  exact hown'
/-- The pieces ahead, while a tag is gone through. -/
structure Cut (t : List UInt8) (k fr : Nat) (D : List (List UInt8)) : Prop where
  le : fr ≤ k
  top : k ≤ t.length
  eq : pieces t = D ++ pieces (t.drop fr)
  good : D.all goodP = true
  fine : ∀ b ∈ (t.drop fr).take (k - fr), isN b = true
theorem Cut.start (t : List UInt8) : Cut t 0 0 [] := ⟨Nat.le_refl _, Nat.zero_le _, by simp, rfl, fun b hb => by simp at hb⟩
theorem take_more (t : List UInt8) (k fr : Nat) (h1 : fr ≤ k) (h2 : k < t.length) : (t.drop fr).take (k + 1 - fr) = (t.drop fr).take (k - fr) ++ [t[k]] := by
  rw [show k + 1 - fr = (k - fr) + 1 by omega, List.take_add_one, List.getElem?_drop, show fr + (k - fr) = k by omega, List.getElem?_eq_getElem h2]
  rfl
theorem Cut.step {t : List UInt8} {k fr : Nat} {D : List (List UInt8)} (h : Cut t k fr D) (hk : k < t.length) (hn : isN t[k] = true) : Cut t (k + 1) fr D :=
  ⟨by have := h.le; omega, hk, h.eq, h.good, fun b hb => by
    rw [take_more t k fr h.le hk] at hb
    rcases List.mem_append.1 hb with hb | hb
    · exact h.fine b hb
    · rw [List.mem_singleton.1 hb]; exact hn⟩
theorem Cut.nosep {t : List UInt8} {k fr : Nat} {D : List (List UInt8)} (h : Cut t k fr D) : ∀ b ∈ (t.drop fr).take (k - fr), isSep b = false := fun b hb => N_sep b (h.fine b hb)
theorem Cut.split {t : List UInt8} {k fr : Nat} {D : List (List UInt8)} (h : Cut t k fr D) (hk : k < t.length) (hs : isSep t[k] = true) : pieces (t.drop fr) = (t.drop fr).take (k - fr) :: pieces (t.drop (k + 1)) := by
  have e : t.drop fr = (t.drop fr).take (k - fr) ++ t[k] :: t.drop (k + 1) := by
    have h1 : (t.drop fr).drop (k - fr) = t[k] :: t.drop (k + 1) := by rw [List.drop_drop, show fr + (k - fr) = k by have := h.le; omega, List.drop_eq_getElem_cons hk]
    rw [← h1, List.take_append_drop]
  have hc : ∀ (p s : List UInt8) (c : UInt8), isSep c = true → (∀ b ∈ p, isSep b = false) → pieces (p ++ c :: s) = p :: pieces s := by
    intro p s c hcs hp
    induction p with
    | nil => simp [pieces, hcs]
    | cons b p ih => rw [List.cons_append, pieces, if_neg (by simp [hp b (by simp)]), ih (fun x hx => hp x (by simp [hx]))]
  have h2 := hc ((t.drop fr).take (k - fr)) (t.drop (k + 1)) t[k] hs h.nosep
  rw [← e] at h2
  exact h2
theorem Cut.last {t : List UInt8} {fr : Nat} {D : List (List UInt8)} (h : Cut t t.length fr D) : pieces (t.drop fr) = [(t.drop fr).take (t.length - fr)] := by
  have e : (t.drop fr).take (t.length - fr) = t.drop fr := List.take_of_length_le (by simp)
  have h2 := h.nosep
  rw [e] at h2 ⊢
  exact pieces_self _ h2
theorem Cut.len {t : List UInt8} {k fr : Nat} {D : List (List UInt8)} (h : Cut t k fr D) : ((t.drop fr).take (k - fr)).length = k - fr := by
  have h1 := h.le
  have h2 := h.top
  simp
  omega
theorem Cut.push {t : List UInt8} {k fr : Nat} {D : List (List UInt8)} (h : Cut t k fr D) (hk : k < t.length) (hs : isSep t[k] = true) (h1 : 1 ≤ k - fr) (h8 : k - fr ≤ 8) : Cut t (k + 1) (k + 1) (D ++ [(t.drop fr).take (k - fr)]) :=
  ⟨Nat.le_refl _, hk, by rw [h.eq, h.split hk hs]; simp, by
    rw [List.all_append, h.good]
    simp only [List.all_cons, List.all_nil, Bool.and_true, Bool.true_and, goodP, h.len, Bool.and_eq_true, decide_eq_true_eq]
    exact ⟨⟨h1, h8⟩, List.all_eq_true.2 h.fine⟩, fun b hb => by simp at hb⟩
theorem Cut.done {t : List UInt8} {fr : Nat} {D : List (List UInt8)} (h : Cut t t.length fr D) (h1 : 1 ≤ t.length - fr) (h8 : t.length - fr ≤ 8) : D ++ [(t.drop fr).take (t.length - fr)] = pieces t ∧ (pieces t).all goodP = true := by
  have e : D ++ [(t.drop fr).take (t.length - fr)] = pieces t := by rw [h.eq, h.last]
  refine ⟨e, ?_⟩
  rw [← e, List.all_append, h.good]
  simp only [List.all_cons, List.all_nil, Bool.and_true, Bool.true_and, goodP, h.len, Bool.and_eq_true, decide_eq_true_eq]
  exact ⟨⟨h1, h8⟩, List.all_eq_true.2 h.fine⟩
theorem Cut.small {t : List UInt8} {k fr : Nat} {D : List (List UInt8)} (h : Cut t k fr D) (hk : k = t.length ∨ ∃ hk : k < t.length, isSep t[k] = true) (hb : ¬ (1 ≤ k - fr ∧ k - fr ≤ 8)) : (pieces t).all goodP = false := by
  have hm : (t.drop fr).take (k - fr) ∈ pieces t := by
    rw [h.eq]
    rcases hk with rfl | ⟨hk, hs⟩
    · rw [h.last]; simp
    · rw [h.split hk hs]; simp
  rw [Bool.eq_false_iff]
  intro ha
  have := List.all_eq_true.1 ha _ hm
  simp only [goodP, h.len, Bool.and_eq_true, decide_eq_true_eq] at this
  exact hb this.1
theorem not_fine {t : List UInt8} {k : Nat} (hk : k < t.length) (hs : isSep t[k] = false) (hn : isN t[k] = false) : (pieces t).all goodP = false := by
  rw [Bool.eq_false_iff]
  intro ha
  have h1 := pieces_mem t (fun p hp => by
    have := List.all_eq_true.1 ha p hp
    simp only [goodP, Bool.and_eq_true] at this
    exact List.all_eq_true.1 this.2) t[k] (List.getElem_mem hk)
  simp [fine, hs, hn] at h1
end Go.Proofs.YtbdjnmbhphflbaaGreatDoor
