/-
  BwM, BpNW, ShelfP, BpLW, BpTW, BpUW, BpVW, BpWW, ShelfE, BpXW, BpYW, BpZW, BqAW, UEncW, UEncodeW, UBackM, BqM.
-/
import Derived.Test.YtlfeiadgahdgoaaGreatDoorMqc
import Derived.Shelf.Small.Strs
import Derived.Shelf.Small.Wraps
import Derived.Shelf.Strings.Prefix
import Derived.Shelf.Strings.SlTrimAscii
import Derived.Shelf.Strconv.Clone
import Derived.Shelf.Strings.Cut
import Derived.Shelf.Strings.Search2
import Derived.Test.YtlfeiadgahdgoaaGreatDoorProg
import Derived.Lib.ConvBytes
import Derived.Lib.Walk
import Derived.Lib.Strings
import Derived.Laws.Strings3
import Derived.Lib.AtoiErrMem
import Derived.Shelf.Strconv.ToError
import Derived.RegionDies
import Derived.Test.YtlfeiadgahdgoaaGreatDoorMqb
import Derived.Maps.AppendAt
import Derived.Laws.IdiomStrings
import Derived.Laws.BytesString
namespace Go.Proofs.YtlfeiadgahdgoaaGreatDoor
open Go.RowKit Go.Shelf Go.Lib
def hexD (n : Nat) : UInt8 := [48, 49, 50, 51, 52, 53, 54, 55, 56, 57, 97, 98, 99, 100, 101, 102].getD n 0
def hexL (n : Nat) : List UInt8 := if n < 16 then [hexD n] else [hexD (n / 16), hexD (n % 16)]
/-- A unit of an entry, as it is written. -/
def wrU (l : List UInt8) (u : Int × Nat × Nat) : List UInt8 :=
  if u.1 = 92 then [92, 92] else if u.1 = 35 then [92, 35] else if u.1 = 32 ∧ (u.2.1 = 0 ∨ u.2.2 = l.length) then [92, 115]
  else if u.1 < 32 ∨ u.1 = 127 then [92, 117, 123] ++ hexL u.1.toNat ++ [125] else (l.drop u.2.1).take (u.2.2 - u.2.1)
def wrE (l : List UInt8) : List UInt8 := (unitsOf l).flatMap (wrU l)
def wrX (e : Bool × ByteArray) : List UInt8 := (if e.1 = true then [43, 32] else [45, 32]) ++ wrE e.2.data.toList ++ [10]
def secB (s : Sec) : List UInt8 := [91] ++ s.loc.data.toList ++ [93, 10] ++ (if s.par.data.toList = [] then [] else [112, 97, 114, 101, 110, 116, 32] ++ s.par.data.toList ++ [10]) ++ s.ed.flatMap wrX
def prB (L : List Sec) : List UInt8 := L.flatMap secB
theorem hexL_len (n : Nat) : (hexL n).length ≤ 2 := by unfold hexL; split <;> simp
/-- Where the units of a text lie: one behind the other, up to its end. -/
theorem units_spans (l : List UInt8) : ∀ (d k : Nat), l.length - k ≤ d → k ≤ l.length → ∀ u ∈ unitsAt l k, k ≤ u.2.1 ∧ u.2.1 < u.2.2 ∧ u.2.2 ≤ u.2.1 + 4 ∧ u.2.2 ≤ l.length
  | 0, k, h, hk, u, hu => by rw [unitsAt_end l k (by omega)] at hu; cases hu
  | d + 1, k, h, hk, u, hu => by
    by_cases hlt : k < l.length
    · have h1 := drop_size l k hlt
      have h4 : (uniOf (l.drop k)).2 ≤ 4 := by
        rw [List.drop_eq_getElem_cons hlt]
        exact (uni_size _ _).2.2
      rw [unitsAt_step l k hlt] at hu
      rcases List.mem_cons.1 hu with rfl | hu
      · simp only
        omega
      · have := units_spans l d (k + (uniOf (l.drop k)).2) (by omega) (by omega) u hu
        omega
    · rw [unitsAt_end l k (by omega)] at hu; cases hu
theorem units_first (l : List UInt8) : ∀ (d k : Nat), l.length - k ≤ d → k ≤ l.length → ∀ (i : Nat) (h : i < (unitsAt l k).length), (((unitsAt l k)[i]).2.1 = k ↔ i = 0) ∧ (((unitsAt l k)[i]).2.2 = l.length ↔ i + 1 = (unitsAt l k).length)
  | 0, k, h, hk, i, hi => by simp only [unitsAt_end l k (by omega)] at hi; simp at hi
  | d + 1, k, h, hk, i, hi => by
    by_cases hlt : k < l.length
    · have h1 := drop_size l k hlt
      have e := unitsAt_step l k hlt
      have hsp := units_spans l l.length (k + (uniOf (l.drop k)).2) (by omega) (by omega)
      simp only [e, List.length_cons] at hi ⊢
      cases i with
      | zero =>
        simp only [List.getElem_cons_zero]
        refine ⟨by simp, ?_⟩
        constructor
        · intro h2
          rw [unitsAt_end l _ (by omega)]
          simp
        · intro h2
          by_cases h3 : k + (uniOf (l.drop k)).2 < l.length
          · rw [unitsAt_step l _ h3] at h2
            simp at h2
          · omega
      | succ i =>
        have hi2 : i < (unitsAt l (k + (uniOf (l.drop k)).2)).length := by omega
        have ih := units_first l d (k + (uniOf (l.drop k)).2) (by omega) (by omega) i hi2
        have hm := hsp _ (List.getElem_mem hi2)
        simp only [List.getElem_cons_succ]
        refine ⟨⟨fun h2 => by omega, fun h2 => by omega⟩, ?_⟩
        rw [ih.2]
        omega
    · simp only [unitsAt_end l k (by omega)] at hi; simp at hi
theorem units_at (l : List UInt8) (i : Nat) (h : i < (unitsOf l).length) : ((unitsOf l)[i].2.1 = 0 ↔ i = 0) ∧ ((unitsOf l)[i].2.2 = l.length ↔ i + 1 = (unitsOf l).length) := units_first l l.length 0 (by omega) (Nat.zero_le _) i h
theorem units_in (l : List UInt8) (u : Int × Nat × Nat) (h : u ∈ unitsOf l) : u.2.1 < u.2.2 ∧ u.2.2 ≤ u.2.1 + 4 ∧ u.2.2 ≤ l.length := (units_spans l l.length 0 (by omega) (Nat.zero_le _) u h).2
theorem units_pt (l : List UInt8) : ∀ (d k : Nat), l.length - k ≤ d → ∀ u ∈ unitsAt l k, -1 ≤ u.1 ∧ u.1 ≤ 100000000
  | 0, k, h, u, hu => by rw [unitsAt_end l k (by omega)] at hu; cases hu
  | d + 1, k, h, u, hu => by
    by_cases hlt : k < l.length
    · have h1 := drop_size l k hlt
      rw [unitsAt_step l k hlt] at hu
      rcases List.mem_cons.1 hu with rfl | hu
      · simp only
        rw [List.drop_eq_getElem_cons hlt]
        exact uni_bound _ _
      · exact units_pt l d (k + (uniOf (l.drop k)).2) (by omega) u hu
    · rw [unitsAt_end l k (by omega)] at hu; cases hu
theorem wrU_len (l : List UInt8) (u : Int × Nat × Nat) (h : u.2.2 ≤ u.2.1 + 4) : (wrU l u).length ≤ 6 := by
  unfold wrU
  have := hexL_len u.1.toNat
  repeat' split
  all_goals simp
  all_goals omega
theorem flat_len {α : Type} (f : α → List UInt8) (c : Nat) : ∀ (l : List α), (∀ x ∈ l, (f x).length ≤ c) → (l.flatMap f).length ≤ l.length * c
  | [], _ => by simp
  | x :: l, h => by
    rw [List.flatMap_cons, List.length_append, List.length_cons, Nat.succ_mul]
    have h1 := h x (.head _)
    have h2 := flat_len f c l (fun y hy => h y (.tail _ hy))
    omega
/-- Entries that may be. -/
theorem ent_ok {l : List UInt8} (h : entF l = none) : (unitsOf l).length ≤ 32 ∧ ∀ u ∈ unitsOf l, 0 ≤ u.1 ∧ u.1 ≤ 100000000 := by
  unfold entF at h
  split at h
  · cases h
  · rename_i h1
    split at h
    · cases h
    · split at h
      · cases h
      · refine ⟨by omega, fun u hu => ?_⟩
        have h2 := units_pt l l.length 0 (by omega) u hu
        have h3 : u.1 ≠ -1 := fun e => h1 (List.any_eq_true.2 ⟨u, hu, by simp [e]⟩)
        omega
theorem wrE_len {l : List UInt8} (h : entF l = none) : (wrE l).length ≤ 192 := by
  have h1 := flat_len (wrU l) 6 (unitsOf l) (fun u hu => wrU_len l u (units_in l u hu).2.1)
  have h2 := (ent_ok h).1
  unfold wrE
  omega
theorem firstN_of (f : Nat → Option Nat) : ∀ (m i : Nat), firstN f i m = none → ∀ j, i ≤ j → j < i + m → f j = none
  | 0, _, _, _, _, _ => by omega
  | m + 1, i, h, j, h1, h2 => by
    rw [firstN] at h
    cases hi : f i with
    | some x => rw [hi] at h; cases h
    | none =>
      rw [hi] at h
      by_cases e : j = i
      · subst e; exact hi
      · exact firstN_of f m (i + 1) h j (by omega) (by omega)
/-- Sections that may be. -/
structure SecOk (s : Sec) : Prop where
  loc : isTagB s.loc = true
  par : (s.par.toList == []) = false → isTagB s.par = true
  ent : ∀ e ∈ s.ed, entF e.2.data.toList = none
theorem secE_ok {E : ByteArray → Option Nat} {s : Sec} {Ah : List Sec} (hE : ∀ x, E x = entF x.data.toList) (h : secE E s Ah = none) : SecOk s := by
  unfold secE at h
  split at h
  · cases h
  · rename_i h1
    split at h
    · cases h
    · split at h
      · cases h
      · rename_i h3
        split at h
        · cases h
        · refine ⟨by simpa using h1, fun h5 => ?_, fun e he => ?_⟩
          · cases hq : isTagB s.par with
            | true => rfl
            | false => exact absurd ⟨h5, hq⟩ h3
          · obtain ⟨k, hk, rfl⟩ := List.getElem_of_mem he
            have h6 := firstN_of _ _ _ h k (Nat.zero_le _) (by omega)
            rw [fE_at _ _ _ hk] at h6
            rw [← hE]
            exact h6
theorem tag_len {s : ByteArray} (h : isTagB s = true) : s.data.toList.length ≤ 64 := (tagF_le (of_decide_eq_true h)).2.2.1
theorem wrX_len {e : Bool × ByteArray} (h : entF e.2.data.toList = none) : (wrX e).length ≤ 195 := by
  have h1 := wrE_len h
  unfold wrX
  simp only [List.length_append, List.length_cons, List.length_nil]
  split <;> simp <;> omega
theorem par_nil (s : ByteArray) : (s.toList == []) = decide (s.data.toList = []) := by
  rw [ByteArray.toList_eq]
  cases s.data.toList <;> simp
theorem secB_len {s : Sec} (h : SecOk s) : (secB s).length ≤ 139 + s.ed.length * 195 := by
  have h1 := tag_len h.loc
  have h2 := flat_len wrX 195 s.ed (fun e he => wrX_len (h.ent e he))
  have h3 : s.par.data.toList ≠ [] → s.par.data.toList.length ≤ 64 := fun hp => tag_len (h.par (by rw [par_nil]; simpa using hp))
  have h4 : (if s.par.data.toList = [] then [] else [112, 97, 114, 101, 110, 116, 32] ++ s.par.data.toList ++ [10] : List UInt8).length ≤ 72 := by
    split
    · simp only [List.length_nil]; omega
    · rename_i hp
      have := h3 hp
      simp only [List.length_append, List.length_cons, List.length_nil]
      omega
  unfold secB
  simp only [List.length_append, List.length_cons, List.length_nil]
  omega
theorem prB_len : ∀ {L : List Sec}, (∀ s ∈ L, SecOk s) → (prB L).length ≤ L.length * 139 + nEd L * 195
  | [], _ => by simp [prB]
  | s :: L, h => by
    have h1 := secB_len (h s (.head _))
    have h2 := prB_len (fun x hx => h x (.tail _ hx) : ∀ x ∈ L, SecOk x)
    have e : prB (s :: L) = secB s ++ prB L := rfl
    have e2 : nEd (s :: L) = s.ed.length + nEd L := by unfold nEd; simp
    rw [e, e2, List.length_append, List.length_cons]
    omega
theorem nEd_append (L M : List Sec) : nEd (L ++ M) = nEd L + nEd M := by unfold nEd; rw [List.map_append, List.sum_append]
theorem nEd_take (L : List Sec) (k : Nat) : nEd (L.take k) ≤ nEd L := by
  have h := nEd_append (L.take k) (L.drop k)
  rw [List.take_append_drop] at h
  omega
theorem chk_ok {E : ByteArray → Option Nat} {L : List Sec} (hE : ∀ x, E x = entF x.data.toList) (h : chkE E L = none) : L.length ≤ 500 ∧ nEd L ≤ 20000 ∧ ∀ s ∈ L, SecOk s := by
  unfold chkE at h
  split at h
  · cases h
  · rename_i h1
    refine ⟨by omega, by omega, fun s hs => ?_⟩
    obtain ⟨k, hk, rfl⟩ := List.getElem_of_mem hs
    have h6 := firstN_of _ _ _ h k (Nat.zero_le _) (by omega)
    rw [fSec_at _ _ _ hk] at h6
    exact secE_ok hE h6
theorem prB_take {L : List Sec} (h1 : L.length ≤ 500) (h2 : nEd L ≤ 20000) (h : ∀ s ∈ L, SecOk s) (k : Nat) : (prB (L.take k)).length ≤ 4000000 := by
  have h3 := prB_len (L := L.take k) (fun s hs => h s (List.mem_of_mem_take hs))
  have h4 := nEd_take L k
  have h5 : (L.take k).length ≤ 500 := by rw [List.length_take]; omega
  omega
theorem prB_more (L : List Sec) (k : Nat) (h : k < L.length) : prB (L.take (k + 1)) = prB (L.take k) ++ secB L[k] := by
  unfold prB
  rw [List.take_succ_eq_append_getElem h, List.flatMap_append]
  simp only [List.flatMap_cons, List.flatMap_nil, List.append_nil]
theorem ed_le {L : List Sec} {s : Sec} (h : s ∈ L) : s.ed.length ≤ nEd L := by
  obtain ⟨k, hk, rfl⟩ := List.getElem_of_mem h
  have h1 := nEd_more L k hk
  have h2 := nEd_take L (k + 1)
  omega
end Go.Proofs.YtlfeiadgahdgoaaGreatDoor
namespace Go.Proofs.YtlfeiadgahdgoaaGreatDoor
open Go.RowKit Go.Shelf Go.Lib
/-- What reading gives up with. -/
def faultV (e : Value) : Value := .iface 59 (.agg #[e])
set_option maxRecDepth 10000 in
theorem giveUp_any (t : TypeId) (x : Value) (w : World) : Calls Tryz.prog 66 #[.iface t x] w fun e w' => e = .panicked [{ v := faultV (.iface t x), recovered := false }] ∧ w' = w := by
  go_enter Tryz.func66, Tryz.ntmps66
  go_wp2
  exact ⟨rfl, rfl, rfl⟩
set_option maxRecDepth 10000 in
theorem need_t (v : Value) (w : World) : Calls Tryz.prog 87 #[.bool true, v] w fun e w' => e = .returned (.tuple #[]) ∧ w' = w := by
  go_enter Tryz.func87, Tryz.ntmps87
  go_wp2
  go_end0
  exact ⟨rfl, rfl⟩
set_option maxRecDepth 10000 in
theorem need_f (t : TypeId) (x : Value) (w : World) : Calls Tryz.prog 87 #[.bool false, .iface t x] w fun e w' => e = .panicked [{ v := faultV (.iface t x), recovered := false }] ∧ w' = w := by
  have HG := hid0 (giveUp_any t x w)
  go_enter Tryz.func87, Tryz.ntmps87
  go_wp2_with (go_at_call 66; refine HG.out.mono ?_; rintro e w1 ⟨rfl, rfl⟩)
  exact ⟨rfl, rfl, rfl⟩
/-- A line up to the first # that is not part of an escape. -/
def noC : List UInt8 → List UInt8
  | [] => []
  | [a] => if a = 35 then [] else [a]
  | a :: b :: r => if a = 35 then [] else if a = 92 then a :: b :: noC r else a :: noC (b :: r)
theorem noC_hash (r : List UInt8) : noC (35 :: r) = [] := by cases r <;> simp [noC]
theorem noC_esc (b : UInt8) (r : List UInt8) : noC (92 :: b :: r) = 92 :: b :: noC r := by simp [noC]
theorem noC_one : noC [92] = [92] := by simp [noC]
theorem noC_else {a : UInt8} (r : List UInt8) (h1 : a ≠ 35) (h2 : a ≠ 92) : noC (a :: r) = a :: noC r := by cases r <;> simp [noC, h1, h2]
theorem noC_at {l : List UInt8} {k : Nat} (h : k < l.length) (hk : noC l = l.take k ++ noC (l.drop k)) : (l[k] = 35 → noC l = l.take k) ∧ (l[k] = 92 → noC l = l.take (k + 2) ++ noC (l.drop (k + 2))) ∧ (l[k] ≠ 35 → l[k] ≠ 92 → noC l = l.take (k + 1) ++ noC (l.drop (k + 1))) := by
  have e := List.drop_eq_getElem_cons h
  rw [e] at hk
  refine ⟨fun h1 => ?_, fun h1 => ?_, fun h1 h2 => ?_⟩
  · rw [h1, noC_hash, List.append_nil] at hk
    exact hk
  · rw [h1] at hk
    by_cases h3 : k + 1 < l.length
    · rw [List.drop_eq_getElem_cons h3, noC_esc] at hk
      rw [hk, List.take_succ_eq_append_getElem h3, List.take_succ_eq_append_getElem h, h1]
      simp
    · have e2 : l.drop (k + 1) = [] := List.drop_eq_nil_of_le (by omega)
      have e3 : l.drop (k + 2) = [] := List.drop_eq_nil_of_le (by omega)
      rw [e2, noC_one] at hk
      have h5 : l.take (k + 1) = l := List.take_of_length_le (by omega)
      rw [List.take_succ_eq_append_getElem h, h1] at h5
      rw [hk, e3, show noC [] = [] by simp [noC], List.append_nil, List.take_of_length_le (show l.length ≤ k + 2 by omega)]
      exact h5
  · rw [noC_else _ h1 h2] at hk
    rw [hk, List.take_succ_eq_append_getElem h, List.append_assoc]
    rfl
theorem noC_pre : ∀ (l : List UInt8), noC l = l.take (noC l).length
  | [] => by simp [noC]
  | [a] => by
    by_cases h : a = 35
    · subst h; simp [noC]
    · simp [noC, h]
  | a :: b :: r => by
    by_cases h : a = 35
    · subst h; simp [noC]
    · by_cases h2 : a = 92
      · have ih := noC_pre r
        subst h2
        rw [noC_esc]
        simp only [List.length_cons, List.take_succ_cons, List.cons.injEq, true_and]
        exact ih
      · have ih := noC_pre (b :: r)
        rw [noC_else _ h h2]
        simp only [List.length_cons, List.take_succ_cons, List.cons.injEq, true_and]
        exact ih
set_option maxRecDepth 10000 in
set_option maxHeartbeats 800000 in
theorem withoutComment_any (s : ByteArray) (hs : s.size ≤ 1000000000) (w : World) : Calls Tryz.prog 41 #[.string s] w fun e w' => e = .returned (.string (strOf (noC s.data.toList))) ∧ w' = w := by
  have HSz : Hid (s.data.toList.length = s.size) := hid0 (bsize s)
  obtain ⟨Y, hY⟩ : ∃ Y, Y = strOf (noC s.data.toList) := ⟨_, rfl⟩
  rw [← hY]
  have HY := hid0 hY
  clear hY
  go_enter Tryz.func41, Tryz.ntmps41
  go_wp2
  go_loopw [3] (fun i wr => ∃ k : Nat, k ≤ s.size + 1 ∧ i = .int .i64 (k : Int) ∧ wr = w ∧ Hid (noC s.data.toList = s.data.toList.take k ++ noC (s.data.toList.drop k))) (fun i _ => s.size + 1 - (intOf i).toNat)
  case atStart => exact ⟨0, Nat.zero_le _, rfl, rfl, hid0 (by simp)⟩
  case round =>
    obtain ⟨k, hk, rfl, rfl, HK⟩ := hrel
    by_cases hlt : k < s.size
    · have hkI : (k : Int) < (s.size : Int) := by omega
      have hkI0 : (0 : Int) ≤ (k : Int) := by omega
      have hkL : k < s.data.toList.length := by rw [HSz.out]; exact hlt
      obtain ⟨n1, n2, n3⟩ := noC_at hkL HK.out
      have hg : s.data.toList[k] = s[k] := by simp; rfl
      rw [hg] at n1 n2 n3
      by_cases h1 : s[k] = 35
      · have q1 : ((s[k].toNat : Int) == 35) = true := by rw [h1]; rfl
        have HX : Hid (s.extract 0 k = Y) := hid0 (by rw [HY.out, n1 h1, ← ext_head]; rfl)
        have hk1 : (k : Int) ≤ (s.size : Int) := by omega
        clear n1 n2 n3 HK hg h1
        go_wp2
        rw [HX.out]
        go_ret
        exact ⟨rfl, rfl⟩
      · have q1 : ((s[k].toNat : Int) == 35) = false := by
          have : s[k].toNat ≠ 35 := fun h => h1 (UInt8.toNat.inj h)
          simp; omega
        by_cases h2 : s[k] = 92
        · have q2 : ((s[k].toNat : Int) == 92) = true := by rw [h2]; rfl
          have HN := hid0 (n2 h2)
          clear n1 n2 n3 HK hg h1 h2
          go_wp2
          go_roundw
          case rel => exact ⟨k + 2, by omega, by go_num, trivial, HN⟩
          case measure => simp [intOf]; omega
        · have q2 : ((s[k].toNat : Int) == 92) = false := by
            have : s[k].toNat ≠ 92 := fun h => h2 (UInt8.toNat.inj h)
            simp; omega
          have HN := hid0 (n3 h1 h2)
          clear n1 n2 n3 HK hg h1 h2
          go_wp2
          go_roundw
          case rel => exact ⟨k + 1, by omega, by go_num, trivial, HN⟩
          case measure => simp [intOf]; omega
    · have hkI : ¬ (k : Int) < (s.size : Int) := by omega
      have HX : Hid (s = Y) := hid0 (by
        have hz := HSz.out
        rw [HY.out, HK.out, List.take_of_length_le (by omega), List.drop_eq_nil_of_le (by omega), show noC [] = [] by simp [noC], List.append_nil]
        rfl)
      go_wp2
      go_ret
      exact ⟨congrArg (fun y => Ending.returned (.string y)) HX.out, rfl⟩
end Go.Proofs.YtlfeiadgahdgoaaGreatDoor
namespace Go.Proofs
open Go.Shelf
def Tryz.lays102_ren : Go.Shelf.Ren := ⟨fun | 102 => 38 | 209 => 59 | 207 => 85 | n => n, fun | 9 => 9 | 4 => 4 | 3 => 3 | n => n, fun | n => n⟩
theorem Tryz.lays102 : Go.Proofs.Lays.n102 Tryz.prog Tryz.lays102_ren := {
  mixed := by kernel_rfl
  f102 := Tryz.func38.trans (congrArg some (by kernel_rfl))
  f207 := Tryz.func85.trans (congrArg some (by kernel_rfl))
  f209 := Tryz.func59.trans (congrArg some (by kernel_rfl))
  t3 := Tryz.underlying3
  a3 := Tryz.isAgg3
  z3 := Tryz.sizeOf3
  v3 := Tryz.zeroValue3
  t4 := Tryz.underlying4
  a4 := Tryz.isAgg4
  z4 := Tryz.sizeOf4
  v4 := Tryz.zeroValue4
  t9 := Tryz.underlying9
  a9 := Tryz.isAgg9
  z9 := Tryz.sizeOf9
  v9 := Tryz.zeroValue9 }
def Tryz.lays160_ren : Go.Shelf.Ren := ⟨fun | 160 => 40 | 232 => 68 | 231 => 67 | 227 => 69 | 234 => 71 | 233 => 70 | 236 => 73 | 235 => 72 | 228 => 94 | 271 => 97 | 151 => 96 | 197 => 95 | 120 => 134 | 152 => 133 | 260 => 132 | 137 => 159 | 119 => 157 | 224 => 124 | 225 => 123 | 217 => 122 | 266 => 153 | n => n, fun | 9 => 9 | 4 => 4 | 3 => 3 | 5 => 5 | 117 => 109 | 116 => 108 | 0 => 0 | 124 => 112 | 21 => 21 | 105 => 130 | 46 => 156 | 119 => 177 | 139 => 180 | 138 => 179 | n => n, fun | 3 => 13 | 4 => 14 | n => n⟩
theorem Tryz.lays160 : Go.Proofs.Lays.n160 Tryz.prog Tryz.lays160_ren := {
  mixed := by kernel_rfl
  f119 := Tryz.func157.trans (congrArg some (by kernel_rfl))
  f120 := Tryz.func134.trans (congrArg some (by kernel_rfl))
  f137 := Tryz.func159.trans (congrArg some (by kernel_rfl))
  f151 := Tryz.func96.trans (congrArg some (by kernel_rfl))
  f152 := Tryz.func133.trans (congrArg some (by kernel_rfl))
  f160 := Tryz.func40.trans (congrArg some (by kernel_rfl))
  f197 := Tryz.func95.trans (congrArg some (by kernel_rfl))
  f217 := Tryz.func122.trans (congrArg some (by kernel_rfl))
  f224 := Tryz.func124.trans (congrArg some (by kernel_rfl))
  f225 := Tryz.func123.trans (congrArg some (by kernel_rfl))
  f227 := Tryz.func69.trans (congrArg some (by kernel_rfl))
  f228 := Tryz.func94.trans (congrArg some (by kernel_rfl))
  f231 := Tryz.func67.trans (congrArg some (by kernel_rfl))
  f232 := Tryz.func68.trans (congrArg some (by kernel_rfl))
  f233 := Tryz.func70.trans (congrArg some (by kernel_rfl))
  f234 := Tryz.func71.trans (congrArg some (by kernel_rfl))
  f235 := Tryz.func72.trans (congrArg some (by kernel_rfl))
  f236 := Tryz.func73.trans (congrArg some (by kernel_rfl))
  f260 := Tryz.func132.trans (congrArg some (by kernel_rfl))
  f266 := Tryz.func153.trans (congrArg some (by kernel_rfl))
  f271 := Tryz.func97.trans (congrArg some (by kernel_rfl))
  t0 := Tryz.underlying0
  a0 := Tryz.isAgg0
  z0 := Tryz.sizeOf0
  v0 := Tryz.zeroValue0
  t3 := Tryz.underlying3
  a3 := Tryz.isAgg3
  z3 := Tryz.sizeOf3
  v3 := Tryz.zeroValue3
  t4 := Tryz.underlying4
  a4 := Tryz.isAgg4
  z4 := Tryz.sizeOf4
  v4 := Tryz.zeroValue4
  t5 := Tryz.underlying5
  a5 := Tryz.isAgg5
  z5 := Tryz.sizeOf5
  v5 := Tryz.zeroValue5
  t9 := Tryz.underlying9
  a9 := Tryz.isAgg9
  z9 := Tryz.sizeOf9
  v9 := Tryz.zeroValue9
  t21 := Tryz.underlying21
  a21 := Tryz.isAgg21
  z21 := Tryz.sizeOf21
  v21 := Tryz.zeroValue21
  t46 := Tryz.underlying156
  a46 := Tryz.isAgg156
  z46 := Tryz.sizeOf156
  v46 := Tryz.zeroValue156
  t105 := Tryz.underlying130
  a105 := Tryz.isAgg130
  z105 := Tryz.sizeOf130
  v105 := Tryz.zeroValue130
  t116 := Tryz.underlying108
  a116 := Tryz.isAgg108
  z116 := Tryz.sizeOf108
  t117 := Tryz.underlying109
  a117 := Tryz.isAgg109
  z117 := Tryz.sizeOf109
  v117 := Tryz.zeroValue109
  t119 := Tryz.underlying177
  a119 := Tryz.isAgg177
  z119 := Tryz.sizeOf177
  t124 := Tryz.underlying112
  a124 := Tryz.isAgg112
  z124 := Tryz.sizeOf112
  v124 := Tryz.zeroValue112
  t138 := Tryz.underlying179
  a138 := Tryz.isAgg179
  z138 := Tryz.sizeOf179
  v138 := Tryz.zeroValue179
  t139 := Tryz.underlying180
  a139 := Tryz.isAgg180
  z139 := Tryz.sizeOf180
  v139 := Tryz.zeroValue180
  g3 := by kernel_rfl
  g4 := by kernel_rfl }
def Tryz.lays161_ren : Go.Shelf.Ren := ⟨fun | 161 => 89 | 231 => 67 | 227 => 69 | 233 => 70 | 235 => 72 | 228 => 94 | 197 => 95 | 151 => 96 | 260 => 132 | 152 => 133 | 137 => 159 | 119 => 157 | 224 => 124 | 225 => 123 | 217 => 122 | 266 => 153 | n => n, fun | 9 => 9 | 4 => 4 | 3 => 3 | 5 => 5 | 117 => 109 | 116 => 108 | 0 => 0 | 124 => 112 | 105 => 130 | 21 => 21 | 119 => 177 | 46 => 156 | 139 => 180 | 138 => 179 | n => n, fun | 3 => 13 | 4 => 14 | n => n⟩
theorem Tryz.lays161 : Go.Proofs.Lays.n161 Tryz.prog Tryz.lays161_ren := {
  mixed := by kernel_rfl
  f119 := Tryz.func157.trans (congrArg some (by kernel_rfl))
  f137 := Tryz.func159.trans (congrArg some (by kernel_rfl))
  f151 := Tryz.func96.trans (congrArg some (by kernel_rfl))
  f152 := Tryz.func133.trans (congrArg some (by kernel_rfl))
  f161 := Tryz.func89.trans (congrArg some (by kernel_rfl))
  f197 := Tryz.func95.trans (congrArg some (by kernel_rfl))
  f217 := Tryz.func122.trans (congrArg some (by kernel_rfl))
  f224 := Tryz.func124.trans (congrArg some (by kernel_rfl))
  f225 := Tryz.func123.trans (congrArg some (by kernel_rfl))
  f227 := Tryz.func69.trans (congrArg some (by kernel_rfl))
  f228 := Tryz.func94.trans (congrArg some (by kernel_rfl))
  f231 := Tryz.func67.trans (congrArg some (by kernel_rfl))
  f233 := Tryz.func70.trans (congrArg some (by kernel_rfl))
  f235 := Tryz.func72.trans (congrArg some (by kernel_rfl))
  f260 := Tryz.func132.trans (congrArg some (by kernel_rfl))
  f266 := Tryz.func153.trans (congrArg some (by kernel_rfl))
  t0 := Tryz.underlying0
  a0 := Tryz.isAgg0
  z0 := Tryz.sizeOf0
  v0 := Tryz.zeroValue0
  t3 := Tryz.underlying3
  a3 := Tryz.isAgg3
  z3 := Tryz.sizeOf3
  v3 := Tryz.zeroValue3
  t4 := Tryz.underlying4
  a4 := Tryz.isAgg4
  z4 := Tryz.sizeOf4
  v4 := Tryz.zeroValue4
  t5 := Tryz.underlying5
  a5 := Tryz.isAgg5
  z5 := Tryz.sizeOf5
  v5 := Tryz.zeroValue5
  t9 := Tryz.underlying9
  a9 := Tryz.isAgg9
  z9 := Tryz.sizeOf9
  v9 := Tryz.zeroValue9
  t21 := Tryz.underlying21
  a21 := Tryz.isAgg21
  z21 := Tryz.sizeOf21
  v21 := Tryz.zeroValue21
  t46 := Tryz.underlying156
  a46 := Tryz.isAgg156
  z46 := Tryz.sizeOf156
  v46 := Tryz.zeroValue156
  t105 := Tryz.underlying130
  a105 := Tryz.isAgg130
  z105 := Tryz.sizeOf130
  v105 := Tryz.zeroValue130
  t116 := Tryz.underlying108
  a116 := Tryz.isAgg108
  z116 := Tryz.sizeOf108
  t117 := Tryz.underlying109
  a117 := Tryz.isAgg109
  z117 := Tryz.sizeOf109
  v117 := Tryz.zeroValue109
  t119 := Tryz.underlying177
  a119 := Tryz.isAgg177
  z119 := Tryz.sizeOf177
  t124 := Tryz.underlying112
  a124 := Tryz.isAgg112
  z124 := Tryz.sizeOf112
  v124 := Tryz.zeroValue112
  t138 := Tryz.underlying179
  a138 := Tryz.isAgg179
  z138 := Tryz.sizeOf179
  v138 := Tryz.zeroValue179
  t139 := Tryz.underlying180
  a139 := Tryz.isAgg180
  z139 := Tryz.sizeOf180
  v139 := Tryz.zeroValue180
  g3 := by kernel_rfl
  g4 := by kernel_rfl }
def Tryz.lays210_ren : Go.Shelf.Ren := ⟨fun | 210 => 93 | 206 => 131 | n => n, fun | 9 => 9 | 4 => 4 | 3 => 3 | n => n, fun | n => n⟩
theorem Tryz.lays210 : Go.Proofs.Lays.n210 Tryz.prog Tryz.lays210_ren := {
  mixed := by kernel_rfl
  f206 := Tryz.func131.trans (congrArg some (by kernel_rfl))
  f210 := Tryz.func93.trans (congrArg some (by kernel_rfl))
  t3 := Tryz.underlying3
  a3 := Tryz.isAgg3
  z3 := Tryz.sizeOf3
  v3 := Tryz.zeroValue3
  t4 := Tryz.underlying4
  a4 := Tryz.isAgg4
  z4 := Tryz.sizeOf4
  v4 := Tryz.zeroValue4
  t9 := Tryz.underlying9
  a9 := Tryz.isAgg9
  z9 := Tryz.sizeOf9
  v9 := Tryz.zeroValue9 }
def Tryz.lays211_ren : Go.Shelf.Ren := ⟨fun | 211 => 126 | 207 => 85 | n => n, fun | 9 => 9 | 4 => 4 | 3 => 3 | n => n, fun | n => n⟩
theorem Tryz.lays211 : Go.Proofs.Lays.n211 Tryz.prog Tryz.lays211_ren := {
  mixed := by kernel_rfl
  f207 := Tryz.func85.trans (congrArg some (by kernel_rfl))
  f211 := Tryz.func126.trans (congrArg some (by kernel_rfl))
  t3 := Tryz.underlying3
  a3 := Tryz.isAgg3
  z3 := Tryz.sizeOf3
  v3 := Tryz.zeroValue3
  t4 := Tryz.underlying4
  a4 := Tryz.isAgg4
  z4 := Tryz.sizeOf4
  v4 := Tryz.zeroValue4
  t9 := Tryz.underlying9
  a9 := Tryz.isAgg9
  z9 := Tryz.sizeOf9
  v9 := Tryz.zeroValue9 }
def Tryz.laysM316_ren : Go.Shelf.Ren := ⟨fun | 316 => 155 | n => n, fun | 9 => 9 | 3 => 3 | 4 => 4 | 37 => 48 | 0 => 0 | 127 => 79 | 5 => 5 | n => n, fun | n => n⟩
theorem Tryz.laysM316 : Go.Proofs.LaysM.n316 Tryz.prog Tryz.laysM316_ren := {
  mixed := by kernel_rfl
  f316 := Tryz.func155.trans (congrArg some (by kernel_rfl))
  t0 := Tryz.underlying0
  a0 := Tryz.isAgg0
  z0 := Tryz.sizeOf0
  v0 := Tryz.zeroValue0
  t3 := Tryz.underlying3
  a3 := Tryz.isAgg3
  z3 := Tryz.sizeOf3
  v3 := Tryz.zeroValue3
  t4 := Tryz.underlying4
  a4 := Tryz.isAgg4
  z4 := Tryz.sizeOf4
  v4 := Tryz.zeroValue4
  t9 := Tryz.underlying9
  a9 := Tryz.isAgg9
  z9 := Tryz.sizeOf9
  v9 := Tryz.zeroValue9
  t37 := Tryz.underlying48
  a37 := Tryz.isAgg48
  z37 := Tryz.sizeOf48
  v37 := Tryz.zeroValue48
  t127 := Tryz.underlying79
  a127 := Tryz.isAgg79
  z127 := Tryz.sizeOf79
  v127 := Tryz.zeroValue79
  t5 := Tryz.underlying5
  a5 := Tryz.isAgg5
  z5 := Tryz.sizeOf5
  v5 := Tryz.zeroValue5
  i0 := by kernel_rfl
  i3 := by kernel_rfl
  i4 := by kernel_rfl
  i5 := by kernel_rfl
  i9 := by kernel_rfl
  i37 := by kernel_rfl
  i127 := by kernel_rfl }
def Tryz.lays219_ren : Go.Shelf.Ren := ⟨fun | 219 => 84 | 217 => 122 | 225 => 123 | 224 => 124 | 267 => 125 | 266 => 153 | 314 => 154 | n => n, fun | 9 => 9 | 3 => 3 | 4 => 4 | 5 => 5 | 46 => 156 | 146 => 174 | 51 => 171 | n => n, fun | 1 => 11 | n => n⟩
theorem Tryz.lays219 : Go.Proofs.Lays.n219 Tryz.prog Tryz.lays219_ren := {
  mixed := by kernel_rfl
  f217 := Tryz.func122.trans (congrArg some (by kernel_rfl))
  f219 := Tryz.func84.trans (congrArg some (by kernel_rfl))
  f224 := Tryz.func124.trans (congrArg some (by kernel_rfl))
  f225 := Tryz.func123.trans (congrArg some (by kernel_rfl))
  f266 := Tryz.func153.trans (congrArg some (by kernel_rfl))
  f267 := Tryz.func125.trans (congrArg some (by kernel_rfl))
  f314 := Tryz.func154.trans (congrArg some (by kernel_rfl))
  t3 := Tryz.underlying3
  a3 := Tryz.isAgg3
  z3 := Tryz.sizeOf3
  v3 := Tryz.zeroValue3
  t4 := Tryz.underlying4
  a4 := Tryz.isAgg4
  z4 := Tryz.sizeOf4
  v4 := Tryz.zeroValue4
  t5 := Tryz.underlying5
  a5 := Tryz.isAgg5
  z5 := Tryz.sizeOf5
  v5 := Tryz.zeroValue5
  t9 := Tryz.underlying9
  a9 := Tryz.isAgg9
  z9 := Tryz.sizeOf9
  v9 := Tryz.zeroValue9
  t46 := Tryz.underlying156
  a46 := Tryz.isAgg156
  z46 := Tryz.sizeOf156
  v46 := Tryz.zeroValue156
  t51 := Tryz.underlying171
  a51 := Tryz.isAgg171
  z51 := Tryz.sizeOf171
  v51 := Tryz.zeroValue171
  t146 := Tryz.underlying174
  a146 := Tryz.isAgg174
  z146 := Tryz.sizeOf174
  v146 := Tryz.zeroValue174
  g1 := by kernel_rfl }
def Tryz.lays103_ren : Go.Shelf.Ren := ⟨fun | 103 => 65 | 210 => 93 | 206 => 131 | n => n, fun | 9 => 9 | 4 => 4 | 24 => 103 | 3 => 3 | n => n, fun | n => n⟩
theorem Tryz.lays103 : Go.Proofs.Lays.n103 Tryz.prog Tryz.lays103_ren := {
  mixed := by kernel_rfl
  f103 := Tryz.func65.trans (congrArg some (by kernel_rfl))
  f206 := Tryz.func131.trans (congrArg some (by kernel_rfl))
  f210 := Tryz.func93.trans (congrArg some (by kernel_rfl))
  t3 := Tryz.underlying3
  a3 := Tryz.isAgg3
  z3 := Tryz.sizeOf3
  v3 := Tryz.zeroValue3
  t4 := Tryz.underlying4
  a4 := Tryz.isAgg4
  z4 := Tryz.sizeOf4
  v4 := Tryz.zeroValue4
  t9 := Tryz.underlying9
  a9 := Tryz.isAgg9
  z9 := Tryz.sizeOf9
  v9 := Tryz.zeroValue9
  t24 := Tryz.underlying103
  a24 := Tryz.isAgg103
  z24 := Tryz.sizeOf103
  v24 := Tryz.zeroValue103 }
def Tryz.lays145p_ren : Go.Shelf.Ren := ⟨fun | 145 => 37 | 220 => 58 | 219 => 84 | 217 => 122 | 225 => 123 | 224 => 124 | 267 => 125 | 266 => 153 | 314 => 154 | n => n, fun | 9 => 9 | 4 => 4 | 59 => 82 | 3 => 3 | 5 => 5 | 46 => 156 | 146 => 174 | 51 => 171 | n => n, fun | 1 => 11 | n => n⟩
theorem Tryz.lays145p : Go.Proofs.Lays.n145 Tryz.prog Tryz.lays145p_ren := {
  mixed := by kernel_rfl
  f145 := Tryz.func37.trans (congrArg some (by kernel_rfl))
  f217 := Tryz.func122.trans (congrArg some (by kernel_rfl))
  f219 := Tryz.func84.trans (congrArg some (by kernel_rfl))
  f220 := Tryz.func58.trans (congrArg some (by kernel_rfl))
  f224 := Tryz.func124.trans (congrArg some (by kernel_rfl))
  f225 := Tryz.func123.trans (congrArg some (by kernel_rfl))
  f266 := Tryz.func153.trans (congrArg some (by kernel_rfl))
  f267 := Tryz.func125.trans (congrArg some (by kernel_rfl))
  f314 := Tryz.func154.trans (congrArg some (by kernel_rfl))
  t3 := Tryz.underlying3
  a3 := Tryz.isAgg3
  z3 := Tryz.sizeOf3
  v3 := Tryz.zeroValue3
  t4 := Tryz.underlying4
  a4 := Tryz.isAgg4
  z4 := Tryz.sizeOf4
  v4 := Tryz.zeroValue4
  t5 := Tryz.underlying5
  a5 := Tryz.isAgg5
  z5 := Tryz.sizeOf5
  v5 := Tryz.zeroValue5
  t9 := Tryz.underlying9
  a9 := Tryz.isAgg9
  z9 := Tryz.sizeOf9
  v9 := Tryz.zeroValue9
  t46 := Tryz.underlying156
  a46 := Tryz.isAgg156
  z46 := Tryz.sizeOf156
  v46 := Tryz.zeroValue156
  t51 := Tryz.underlying171
  a51 := Tryz.isAgg171
  z51 := Tryz.sizeOf171
  v51 := Tryz.zeroValue171
  t59 := Tryz.underlying82
  a59 := Tryz.isAgg82
  z59 := Tryz.sizeOf82
  v59 := Tryz.zeroValue82
  t146 := Tryz.underlying174
  a146 := Tryz.isAgg174
  z146 := Tryz.sizeOf174
  v146 := Tryz.zeroValue174
  g1 := by kernel_rfl }
end Go.Proofs
namespace Go.Proofs.YtlfeiadgahdgoaaGreatDoor
open Go.RowKit Go.Shelf Go.Lib
set_option maxRecDepth 10000 in
theorem sclone_any (s : ByteArray) (hs : s.size ≤ 4194400) (w : World) : Calls Tryz.prog 127 #[.string s] w fun e w' => e = .returned (.string s) ∧ Below w.heap.size w w' := by
  have h := Any.stringslite_Clone Tryz.laysM316 s w (by omega)
  change Calls Tryz.prog 155 _ _ _ at h
  go_enter Tryz.func127, Tryz.ntmps127
  go_wp2_with (go_at_call 155; refine h.mono ?_; rintro e w1 ⟨rfl, hb⟩; have HB := hid0 hb; clear hb)
  go_ret
  exact ⟨rfl, HB.out⟩
theorem blanks_ascii : ∀ (j : Nat) (b : UInt8), (⟨#[32, 9]⟩ : ByteArray).data.toList[j]? = some b → b.toNat < 128 := by
  intro j b h
  match j, h with
  | 0, h => cases h; decide
  | 1, h => cases h; decide
  | j + 2, h => simp at h
theorem strim_any (s : ByteArray) (hs : s.size ≤ 4194400) (w : World) : Calls Tryz.prog 40 #[.string s, .string ⟨#[32, 9]⟩] w fun e w' => e = .returned (.string (strOf (Lib.trimS s.data.toList [32, 9]))) ∧ Below w.heap.size w w' :=
  Any.strings_Trim_laid Tryz.lays160 (by kernel_rfl) s ⟨#[32, 9]⟩ w (by omega) (by decide) blanks_ascii
theorem strimL_any (s : ByteArray) (w : World) : Calls Tryz.prog 89 #[.string s, .string ⟨#[32, 9]⟩] w fun e w' => e = .returned (.string (strOf (Lib.trimLeftS s.data.toList [32, 9]))) ∧ Below w.heap.size w w' :=
  Any.strings_TrimLeft_laid Tryz.lays161 (by kernel_rfl) s ⟨#[32, 9]⟩ w (by decide) blanks_ascii
theorem ssuf_any (s : ByteArray) (hs : s.size ≤ 4194400) (w : World) : Calls Tryz.prog 38 #[.string s, .string ⟨#[13]⟩] w fun e w' => e = .returned (.string (strOf (Lib.trimSuffix s.data.toList [13]))) ∧ w' = w :=
  Any.strings_TrimSuffix Tryz.lays102 s ⟨#[13]⟩ w (by omega)
theorem cutP_any (s p : ByteArray) (w : World) : Calls Tryz.prog 65 #[.string s, .string p] w fun e w' => e = .returned (.tuple #[.string (strOf (Lib.trimPrefix s.data.toList p.data.toList)), .bool (Lib.hasPrefix s.data.toList p.data.toList)]) ∧ w' = w :=
  Any.strings_CutPrefix Tryz.lays103 s p w
theorem scut_any (s sep : ByteArray) (hs : s.size ≤ 4194400) (w : World) (m : Int) (hm : w.cell? ⟨11, 0, none⟩ = some (.int .i64 m)) : Calls Tryz.prog 37 #[.string s, .string sep] w fun e w' => e = .returned (.tuple #[.string (strOf (Lib.cut s.data.toList sep.data.toList).1), .string (strOf (Lib.cut s.data.toList sep.data.toList).2.1), .bool (Lib.cut s.data.toList sep.data.toList).2.2]) ∧ ∃ n, w' = w.drewN n :=
  Any.strings_Cut Tryz.lays145p s sep m w (by omega) hm
/-- What readTag answers, or gives up with. -/
theorem readTag_ok (A : Nat → Addr) (s : ByteArray) (c : List UInt8) (w : World) (hm : Mx w) (he : Sents w A) (hc : tagF s.data.toList = some c) : Calls Tryz.prog 88 #[.string s] w fun e w' => e = .returned (.string (strOf c)) ∧ Below w.heap.size w w' := by
  have h1 := oneForm_any s w hm
  rw [hc] at h1
  have hl := (tagF_le hc).1
  have HO := hid0 h1
  have HE : Hid (∀ W, Below w.heap.size w W → W.cell? ⟨1, 0, none⟩ = some (.iface 216 (.pointer (some (A 1))))) := hid0 (fun W hW => (he.below hW).c1)
  have HC : Hid (∀ W, Calls Tryz.prog 127 #[.string (strOf c)] W fun e w' => e = .returned (.string (strOf c)) ∧ Below W.heap.size W w') := hid0 (fun W => sclone_any (strOf c) (by rw [strOf_size]; omega) W)
  unfold tagV at HO
  simp only at HO
  clear h1 hc hm he
  generalize strOf c = Y at *
  go_enter Tryz.func88, Tryz.ntmps88
  go_wp2_with (first
    | (go_at_call 74; refine HO.out.mono ?_; rintro e w1 ⟨rfl, hb1⟩; have e1 := HE.out w1 hb1; have HB1 := hid0 hb1; clear hb1)
    | (go_at_call 87; refine (need_t _ _).mono ?_; rintro e w2 ⟨rfl, hw2⟩; have hw2' := hw2.symm; subst hw2'; clear hw2)
    | (go_at_call 127; refine (HC.out _).mono ?_; rintro e w3 ⟨rfl, hb3⟩; have HB3 := hid0 (Below.later HB1.out hb3); clear hb3)
    | fail)
  go_ret
  exact ⟨rfl, HB3.out⟩
end Go.Proofs.YtlfeiadgahdgoaaGreatDoor
namespace Go.Proofs.YtlfeiadgahdgoaaGreatDoor
open Go.RowKit Go.Shelf Go.Lib
/-- A call that gives up with the i-th refusal. -/
def Gives (A : Nat → Addr) (i : Nat) (e : Ending) : Prop := e = .panicked [{ v := faultV (.iface 216 (.pointer (some (A i)))), recovered := false }]
set_option maxRecDepth 10000 in
theorem readTag_bad (A : Nat → Addr) (s : ByteArray) (w : World) (hm : Mx w) (he : Sents w A) (hc : tagF s.data.toList = none) : Calls Tryz.prog 88 #[.string s] w fun e w' => Gives A 1 e ∧ Below w.heap.size w w' := by
  have h1 := oneForm_any s w hm
  rw [hc] at h1
  have HO := hid0 h1
  have HE : Hid (∀ W, Below w.heap.size w W → W.cell? ⟨1, 0, none⟩ = some (.iface 216 (.pointer (some (A 1))))) := hid0 (fun W hW => (he.below hW).c1)
  unfold tagV at HO
  simp only at HO
  unfold Gives
  clear h1 hc hm he
  go_enter Tryz.func88, Tryz.ntmps88
  go_wp2_with (first
    | (go_at_call 74; refine HO.out.mono ?_; rintro e w1 ⟨rfl, hb1⟩; have e1 := HE.out w1 hb1; have HB1 := hid0 hb1; clear hb1)
    | (go_at_call 87; refine (need_f _ _ _).mono ?_; rintro e w2 ⟨rfl, hw2⟩; have hw2' := hw2.symm; subst hw2'; clear hw2)
    | fail)
  exact ⟨rfl, rfl, HB1.out⟩
end Go.Proofs.YtlfeiadgahdgoaaGreatDoor
namespace Go.Proofs.YtlfeiadgahdgoaaGreatDoor
open Go.RowKit Go.Shelf
set_option maxRecDepth 10000 in
theorem lower_up (x : Int) (h1 : 65 ≤ x) (h2 : x ≤ 70) (w : World) : Calls Tryz.prog 184 #[.int .u8 x] w fun e w' => e = .returned (.int .u8 (x + 32)) ∧ w' = w := by
  have h : x = 65 ∨ x = 66 ∨ x = 67 ∨ x = 68 ∨ x = 69 ∨ x = 70 := by omega
  rcases h with rfl | rfl | rfl | rfl | rfl | rfl <;>
    (go_enter Tryz.func184, Tryz.ntmps184
     go_wp2
     go_ret
     exact ⟨rfl, rfl⟩)
set_option maxRecDepth 10000 in
theorem lower_lo (x : Int) (h1 : 97 ≤ x) (h2 : x ≤ 102) (w : World) : Calls Tryz.prog 184 #[.int .u8 x] w fun e w' => e = .returned (.int .u8 x) ∧ w' = w := by
  have h : x = 97 ∨ x = 98 ∨ x = 99 ∨ x = 100 ∨ x = 101 ∨ x = 102 := by omega
  rcases h with rfl | rfl | rfl | rfl | rfl | rfl <;>
    (go_enter Tryz.func184, Tryz.ntmps184
     go_wp2
     go_ret
     exact ⟨rfl, rfl⟩)
theorem hxv_int (c : UInt8) (x : Int) (hx : (c.toNat : Int) = x) (h : isHx c = true) : (48 ≤ x ∧ x ≤ 57 ∧ (hxv c : Int) = x - 48) ∨ (65 ≤ x ∧ x ≤ 70 ∧ (hxv c : Int) = x - 55) ∨ (97 ≤ x ∧ x ≤ 102 ∧ (hxv c : Int) = x - 87) := by
  subst hx
  simp only [isHx, isDg, Bool.or_eq_true, Bool.and_eq_true, decide_eq_true_eq] at h
  unfold hxv
  (repeat' split) <;> omega
set_option maxRecDepth 100000 in
set_option maxHeartbeats 3200000 in
theorem parseUint16 (t : ByteArray) (h4 : 1 ≤ t.size) (h6 : t.size ≤ 6) (hx : ∀ c ∈ t.data.toList, isHx c = true) (w : World) :
    Calls Tryz.prog 180 #[.string t, .int .i64 16, .int .i64 64] w fun e w' => e = .returned (.tuple #[.int .u64 (hexN t.data.toList : Int), .nilIface]) ∧ w' = Lib.bytesWorld w 5 t := by
  have hemp : t.toList.isEmpty = false := by
    rw [← decide_eq_emptyBytes]
    exact decide_eq_false (fun h => by rw [h] at h4; simp at h4)
  have hcv := Lib.run_convert_string_bytes (P := Tryz.prog) w 9 48 5 t (u := .string) Tryz.underlying9 Tryz.underlying48 Tryz.underlying5
  have hB : ∀ j, j < t.size → (Lib.bytesWorld w 5 t).cell? ⟨w.heap.size, j, none⟩ = some (.int .u8 (t.data.toList.getD j 0).toNat) := fun j hj => Lib.bytesWorld_cell w 5 t j hj
  obtain ⟨W1, hW1⟩ : ∃ W1, W1 = Lib.bytesWorld w 5 t := ⟨_, rfl⟩
  rw [← hW1] at hcv hB ⊢
  clear hW1
  have hmv : IntKind.u64.wrap (IntKind.u64.wrap 18446744073709551616 - 1) = 18446744073709551615 := by
    rw [IntKind.wrap_u64, IntKind.wrap_u64]
    decide
  have HX := hid0 hx
  have HB := hid0 hB
  clear hx hB
  go_enter Tryz.func180, Tryz.ntmps180
  go_wp2
  go_loopw [12, 13, 101] (fun vu vn vi wr => ∃ (k : Nat) (a : Int), vu = .bool false ∧ vn = .int .u64 a ∧ vi = .int .i64 (k : Int) ∧ k ≤ t.size ∧ Hid (a = (hexN (t.data.toList.take k) : Int)) ∧ wr = W1) (fun _ _ vi _ => t.size - (intOf vi).toNat)
  case atStart => exact ⟨0, 0, rfl, rfl, rfl, by omega, rfl, rfl⟩
  case round =>
    obtain ⟨k, a, rfl, rfl, rfl, hk, hh, rfl⟩ := hrel
    have hlt : hexN (t.data.toList.take k) < 16 ^ 6 := by
      have h1 := hexN_lt (t.data.toList.take k) (fun c hc => HX.out c (List.mem_of_mem_take hc))
      have h2 : 16 ^ (t.data.toList.take k).length ≤ 16 ^ 6 := Nat.pow_le_pow_right (by omega) (by simp; omega)
      omega
    have a0 : 0 ≤ a := by rw [hh.out]; omega
    have a1 : a < 16777216 := by rw [hh.out]; omega
    clear hlt
    by_cases hkn : k < t.size
    · have hc := HB.out k hkn
      have hget : t.data.toList.getD k 0 = t[k] := by rw [List.getD, bget t k hkn]; rfl
      rw [hget] at hc
      have hxc := HX.out t[k] (List.mem_of_getElem? (bget t k hkn))
      have HE : Hid (hexN (t.data.toList.take (k + 1)) = 16 * hexN (t.data.toList.take k) + hxv t[k]) := hid0 (by rw [List.take_add_one, bget t k hkn]; exact hexN_snoc _ _)
      obtain ⟨x, hxx⟩ : ∃ x : Int, (t[k].toNat : Int) = x := ⟨_, rfl⟩
      have hcl := hxv_int t[k] x hxx hxc
      rw [hxx] at hc
      clear HB HX hget hxc hxx
      have HV : ∀ z : Int, (hxv t[k] : Int) = z → Hid (a * 16 + z = (hexN (t.data.toList.take (k + 1)) : Int)) := fun z hz => hid0 (by rw [HE.out, hh.out, ← hz]; omega)
      clear HE
      rcases hcl with ⟨b1, b2, b3⟩ | ⟨b1, b2, b3⟩ | ⟨b1, b2, b3⟩
      · have HV' := HV _ b3
        clear HV b3
        go_wp2
        exact ⟨⟨k + 1, _, rfl, (by first | rfl | (congr 1; omega)), (by first | rfl | go_num), by omega, HV', trivial⟩, by simp [intOf]; omega⟩
      · have HV' := HV _ b3
        have HLo := hid0 (lower_up x b1 b2)
        clear HV b3
        go_wp2_with (go_at_call 184; refine (HLo.out _).mono ?_; rintro e w1 ⟨rfl, rfl⟩)
        exact ⟨⟨k + 1, _, rfl, (by first | rfl | (congr 1; omega)), (by first | rfl | go_num), by omega, HV', trivial⟩, by simp [intOf]; omega⟩
      · have HV' := HV _ b3
        have HLo := hid0 (lower_lo x b1 b2)
        clear HV b3
        go_wp2_with (go_at_call 184; refine (HLo.out _).mono ?_; rintro e w1 ⟨rfl, rfl⟩)
        exact ⟨⟨k + 1, _, rfl, (by first | rfl | (congr 1; omega)), (by first | rfl | go_num), by omega, HV', trivial⟩, by simp [intOf]; omega⟩
    · have hkI : ¬ (k : Int) < (t.size : Int) := by omega
      have HA : Hid (a = (hexN t.data.toList : Int)) := hid0 (by rw [hh.out, List.take_of_length_le (by simp; omega)])
      go_wp2
      go_ret2
      exact ⟨by rw [← HA.out]; rfl, rfl⟩
end Go.Proofs.YtlfeiadgahdgoaaGreatDoor
namespace Go.Proofs.YtlfeiadgahdgoaaGreatDoor
open Go.RowKit Go.Shelf
def loN (x : Nat) : Nat := x ||| 32
theorem lo_bits : ((List.range 256).all fun x => decide (bits .or .u8 (x : Int) 32 = ((loN x : Nat) : Int))) = true := by kernel_rfl
theorem lo_tab : ((List.range 256).all fun x => decide (loN x < 256) && (isHx (UInt8.ofNat x) || (decide (¬ (48 ≤ x ∧ x ≤ 57)) && decide (¬ (97 ≤ loN x ∧ loN x ≤ 102))))) = true := by kernel_rfl
theorem loN_lt (x : Nat) (h : x < 256) : loN x < 256 := by
  have := List.all_eq_true.1 lo_tab x (List.mem_range.2 h)
  simp only [Bool.and_eq_true, decide_eq_true_eq] at this
  exact this.1
theorem not_hx (c : UInt8) (h : isHx c = false) : ¬ (48 ≤ c.toNat ∧ c.toNat ≤ 57) ∧ ¬ (97 ≤ loN c.toNat ∧ loN c.toNat ≤ 102) := by
  have := List.all_eq_true.1 lo_tab c.toNat (List.mem_range.2 c.toNat_lt)
  rw [UInt8.ofNat_toNat, h] at this
  simp only [Bool.false_or, Bool.and_eq_true, decide_eq_true_eq] at this
  exact this.2
set_option maxRecDepth 10000 in
theorem lower_all (x : Nat) (h : x < 256) (w : World) : Calls Tryz.prog 184 #[.int .u8 (x : Int)] w fun e w' => e = .returned (.int .u8 ((loN x : Nat) : Int)) ∧ w' = w := by
  have hb := of_decide_eq_true (List.all_eq_true.1 lo_bits x (List.mem_range.2 h))
  go_enter Tryz.func184, Tryz.ntmps184
  go_wp2
  go_ret
  exact ⟨by rw [← hb]; rfl, rfl⟩
set_option maxRecDepth 100000 in
set_option maxHeartbeats 3200000 in
theorem parseUint16_bad (t : ByteArray) (kb : Nat) (h4 : kb < t.size) (h6 : t.size ≤ 6) (hx : ∀ j (h : j < t.size), j < kb → isHx t[j] = true) (hbad : isHx t[kb] = false) (w : World) :
    Calls Tryz.prog 180 #[.string t, .int .i64 16, .int .i64 64] w fun e w' => e = .returned (.tuple #[.int .u64 0, .iface 205 (.int .i64 2)]) ∧ w' = Lib.bytesWorld w 5 t := by
  have hemp : t.toList.isEmpty = false := by
    rw [← decide_eq_emptyBytes]
    exact decide_eq_false (fun h => by rw [h] at h4; simp at h4)
  have hcv := Lib.run_convert_string_bytes (P := Tryz.prog) w 9 48 5 t (u := .string) Tryz.underlying9 Tryz.underlying48 Tryz.underlying5
  have hB : ∀ j, j < t.size → (Lib.bytesWorld w 5 t).cell? ⟨w.heap.size, j, none⟩ = some (.int .u8 (t.data.toList.getD j 0).toNat) := fun j hj => Lib.bytesWorld_cell w 5 t j hj
  obtain ⟨W1, hW1⟩ : ∃ W1, W1 = Lib.bytesWorld w 5 t := ⟨_, rfl⟩
  rw [← hW1] at hcv hB ⊢
  clear hW1
  have hmv : IntKind.u64.wrap (IntKind.u64.wrap 18446744073709551616 - 1) = 18446744073709551615 := by
    rw [IntKind.wrap_u64, IntKind.wrap_u64]
    decide
  have HX := hid0 hx
  have HB := hid0 hB
  clear hx hB
  go_enter Tryz.func180, Tryz.ntmps180
  go_wp2
  go_loopw [12, 13, 101] (fun vu vn vi wr => ∃ (k : Nat) (a : Int), vu = .bool false ∧ vn = .int .u64 a ∧ vi = .int .i64 (k : Int) ∧ k ≤ kb ∧ Hid (a = (hexN (t.data.toList.take k) : Int)) ∧ wr = W1) (fun _ _ vi _ => t.size - (intOf vi).toNat)
  case atStart => exact ⟨0, 0, rfl, rfl, rfl, by omega, rfl, rfl⟩
  case round =>
    obtain ⟨k, a, rfl, rfl, rfl, hk, hh, rfl⟩ := hrel
    have hlt : hexN (t.data.toList.take k) < 16 ^ 6 := by
      have h1 := hexN_lt (t.data.toList.take k) (fun c hc => by
        obtain ⟨j, hj, rfl⟩ := List.getElem_of_mem hc
        have hj2 : j < k ∧ j < t.size := by simp at hj; omega
        have h9 := HX.out j hj2.2 (by omega)
        rw [List.getElem_take]
        have e : t.data.toList[j]'(by simp; exact hj2.2) = t[j]'hj2.2 := by simp; rfl
        rw [e]
        exact h9)
      have h2 : 16 ^ (t.data.toList.take k).length ≤ 16 ^ 6 := Nat.pow_le_pow_right (by omega) (by simp; omega)
      omega
    have a0 : 0 ≤ a := by rw [hh.out]; omega
    have a1 : a < 16777216 := by rw [hh.out]; omega
    clear hlt
    have hkn : k < t.size := by omega
    by_cases hkb : k < kb
    · have hc := HB.out k hkn
      have hget : t.data.toList.getD k 0 = t[k] := by rw [List.getD, bget t k hkn]; rfl
      rw [hget] at hc
      have hxc := HX.out k hkn hkb
      have HE : Hid (hexN (t.data.toList.take (k + 1)) = 16 * hexN (t.data.toList.take k) + hxv t[k]) := hid0 (by rw [List.take_add_one, bget t k hkn]; exact hexN_snoc _ _)
      obtain ⟨x, hxx⟩ : ∃ x : Int, (t[k].toNat : Int) = x := ⟨_, rfl⟩
      have hcl := hxv_int t[k] x hxx hxc
      rw [hxx] at hc
      clear HB HX hget hxc hxx
      have HV : ∀ z : Int, (hxv t[k] : Int) = z → Hid (a * 16 + z = (hexN (t.data.toList.take (k + 1)) : Int)) := fun z hz => hid0 (by rw [HE.out, hh.out, ← hz]; omega)
      clear HE
      rcases hcl with ⟨b1, b2, b3⟩ | ⟨b1, b2, b3⟩ | ⟨b1, b2, b3⟩
      · have HV' := HV _ b3
        clear HV b3
        go_wp2
        exact ⟨⟨k + 1, _, rfl, (by first | rfl | (congr 1; omega)), (by first | rfl | go_num), by omega, HV', trivial⟩, by simp [intOf]; omega⟩
      · have HV' := HV _ b3
        have HLo := hid0 (lower_up x b1 b2)
        clear HV b3
        go_wp2_with (go_at_call 184; refine (HLo.out _).mono ?_; rintro e w1 ⟨rfl, rfl⟩)
        exact ⟨⟨k + 1, _, rfl, (by first | rfl | (congr 1; omega)), (by first | rfl | go_num), by omega, HV', trivial⟩, by simp [intOf]; omega⟩
      · have HV' := HV _ b3
        have HLo := hid0 (lower_lo x b1 b2)
        clear HV b3
        go_wp2_with (go_at_call 184; refine (HLo.out _).mono ?_; rintro e w1 ⟨rfl, rfl⟩)
        exact ⟨⟨k + 1, _, rfl, (by first | rfl | (congr 1; omega)), (by first | rfl | go_num), by omega, HV', trivial⟩, by simp [intOf]; omega⟩
    · obtain rfl : k = kb := by omega
      have hkI : (k : Int) < (t.size : Int) := by omega
      have hc := HB.out k hkn
      have hget : t.data.toList.getD k 0 = t[k] := by rw [List.getD, bget t k hkn]; rfl
      rw [hget] at hc
      have hnb := not_hx t[k] hbad
      have hx8 : t[k].toNat < 256 := t[k].toNat_lt
      obtain ⟨x, hxx⟩ : ∃ x : Nat, t[k].toNat = x := ⟨_, rfl⟩
      rw [hxx] at hc hnb hx8
      clear HB HX hget hbad hxx hh
      have HLo := hid0 (lower_all x hx8)
      obtain ⟨y, hy⟩ : ∃ y : Nat, loN x = y := ⟨_, rfl⟩
      rw [hy] at HLo
      obtain ⟨d1, d2⟩ := hnb
      rw [hy] at d2
      have hd1 : ¬ (48 ≤ (x : Int) ∧ (x : Int) ≤ 57) := by omega
      have hy8 : y < 256 := by rw [← hy]; exact loN_lt x hx8
      clear hy
      have q95 : ((x : Int) == 95) = decide (x = 95) := by by_cases h : x = 95 <;> simp [h] <;> omega
      rcases (show x = 95 ∨ x ≠ 95 by omega) with hu | hu
      · have q5 : ((x : Int) == 95) = true := by rw [q95]; simp [hu]
        clear q95 hu
        rcases (show x < 48 ∨ 57 < x by omega) with hv | hv
        · have v1 : ¬ (48 : Int) ≤ (x : Int) := by omega
          rcases (show y < 97 ∨ (103 ≤ y ∧ y ≤ 122) ∨ 122 < y by omega) with h | h | h
          · have u1 : ¬ (97 : Int) ≤ (y : Int) := by omega
            go_wp2_with (go_at_call 184; refine (HLo.out _).mono ?_; rintro e w1 ⟨rfl, rfl⟩)
            go_ret2
            exact ⟨rfl, rfl⟩
          · have u1 : (97 : Int) ≤ (y : Int) := by omega
            have u2 : (y : Int) ≤ 122 := by omega
            have u3 : (16 : Int) ≤ (y : Int) - 97 + 10 := by omega
            have u4 : (y : Int) - 97 + 10 < 256 := by omega
            go_wp2_with (go_at_call 184; refine (HLo.out _).mono ?_; rintro e w1 ⟨rfl, rfl⟩)
            go_ret2
            exact ⟨rfl, rfl⟩
          · have u1 : (97 : Int) ≤ (y : Int) := by omega
            have u2 : ¬ (y : Int) ≤ 122 := by omega
            go_wp2_with (go_at_call 184; refine (HLo.out _).mono ?_; rintro e w1 ⟨rfl, rfl⟩)
            go_ret2
            exact ⟨rfl, rfl⟩
        · have v1 : (48 : Int) ≤ (x : Int) := by omega
          have v2 : ¬ (x : Int) ≤ 57 := by omega
          rcases (show y < 97 ∨ (103 ≤ y ∧ y ≤ 122) ∨ 122 < y by omega) with h | h | h
          · have u1 : ¬ (97 : Int) ≤ (y : Int) := by omega
            go_wp2_with (go_at_call 184; refine (HLo.out _).mono ?_; rintro e w1 ⟨rfl, rfl⟩)
            go_ret2
            exact ⟨rfl, rfl⟩
          · have u1 : (97 : Int) ≤ (y : Int) := by omega
            have u2 : (y : Int) ≤ 122 := by omega
            have u3 : (16 : Int) ≤ (y : Int) - 97 + 10 := by omega
            have u4 : (y : Int) - 97 + 10 < 256 := by omega
            go_wp2_with (go_at_call 184; refine (HLo.out _).mono ?_; rintro e w1 ⟨rfl, rfl⟩)
            go_ret2
            exact ⟨rfl, rfl⟩
          · have u1 : (97 : Int) ≤ (y : Int) := by omega
            have u2 : ¬ (y : Int) ≤ 122 := by omega
            go_wp2_with (go_at_call 184; refine (HLo.out _).mono ?_; rintro e w1 ⟨rfl, rfl⟩)
            go_ret2
            exact ⟨rfl, rfl⟩
      · have q5 : ((x : Int) == 95) = false := by rw [q95]; simp [hu]
        clear q95 hu
        rcases (show x < 48 ∨ 57 < x by omega) with hv | hv
        · have v1 : ¬ (48 : Int) ≤ (x : Int) := by omega
          rcases (show y < 97 ∨ (103 ≤ y ∧ y ≤ 122) ∨ 122 < y by omega) with h | h | h
          · have u1 : ¬ (97 : Int) ≤ (y : Int) := by omega
            go_wp2_with (go_at_call 184; refine (HLo.out _).mono ?_; rintro e w1 ⟨rfl, rfl⟩)
            go_ret2
            exact ⟨rfl, rfl⟩
          · have u1 : (97 : Int) ≤ (y : Int) := by omega
            have u2 : (y : Int) ≤ 122 := by omega
            have u3 : (16 : Int) ≤ (y : Int) - 97 + 10 := by omega
            have u4 : (y : Int) - 97 + 10 < 256 := by omega
            go_wp2_with (go_at_call 184; refine (HLo.out _).mono ?_; rintro e w1 ⟨rfl, rfl⟩)
            go_ret2
            exact ⟨rfl, rfl⟩
          · have u1 : (97 : Int) ≤ (y : Int) := by omega
            have u2 : ¬ (y : Int) ≤ 122 := by omega
            go_wp2_with (go_at_call 184; refine (HLo.out _).mono ?_; rintro e w1 ⟨rfl, rfl⟩)
            go_ret2
            exact ⟨rfl, rfl⟩
        · have v1 : (48 : Int) ≤ (x : Int) := by omega
          have v2 : ¬ (x : Int) ≤ 57 := by omega
          rcases (show y < 97 ∨ (103 ≤ y ∧ y ≤ 122) ∨ 122 < y by omega) with h | h | h
          · have u1 : ¬ (97 : Int) ≤ (y : Int) := by omega
            go_wp2_with (go_at_call 184; refine (HLo.out _).mono ?_; rintro e w1 ⟨rfl, rfl⟩)
            go_ret2
            exact ⟨rfl, rfl⟩
          · have u1 : (97 : Int) ≤ (y : Int) := by omega
            have u2 : (y : Int) ≤ 122 := by omega
            have u3 : (16 : Int) ≤ (y : Int) - 97 + 10 := by omega
            have u4 : (y : Int) - 97 + 10 < 256 := by omega
            go_wp2_with (go_at_call 184; refine (HLo.out _).mono ?_; rintro e w1 ⟨rfl, rfl⟩)
            go_ret2
            exact ⟨rfl, rfl⟩
          · have u1 : (97 : Int) ≤ (y : Int) := by omega
            have u2 : ¬ (y : Int) ≤ 122 := by omega
            go_wp2_with (go_at_call 184; refine (HLo.out _).mono ?_; rintro e w1 ⟨rfl, rfl⟩)
            go_ret2
            exact ⟨rfl, rfl⟩
end Go.Proofs.YtlfeiadgahdgoaaGreatDoor
namespace Go.Proofs.YtlfeiadgahdgoaaGreatDoor
open Go.RowKit Go.Shelf
set_option maxRecDepth 10000 in
theorem parseUint16_none (w : World) : Calls Tryz.prog 180 #[.string ⟨#[]⟩, .int .i64 16, .int .i64 64] w fun e w' => e = .returned (.tuple #[.int .u64 0, .iface 205 (.int .i64 2)]) ∧ w' = w := by
  go_enter Tryz.func180, Tryz.ntmps180
  go_wp2
  go_ret2
  exact ⟨rfl, rfl⟩
theorem below_bytes (w : World) (t : ByteArray) : Below w.heap.size w (Lib.bytesWorld w 5 t) := Lib.bytesWorld_below w 5 t
set_option maxRecDepth 10000 in
theorem pubUint_ok (t : ByteArray) (h4 : 1 ≤ t.size) (h6 : t.size ≤ 6) (hx : ∀ c ∈ t.data.toList, isHx c = true) (w : World) : Calls Tryz.prog 178 #[.string t, .int .i64 16, .int .i64 64] w fun e w' => e = .returned (.tuple #[.int .u64 (hexN t.data.toList : Int), .nilIface]) ∧ Below w.heap.size w w' := by
  have hP := parseUint16 t h4 h6 hx w
  have HB := hid0 (below_bytes w t)
  generalize Lib.bytesWorld w 5 t = W1 at *
  generalize hexN t.data.toList = n at *
  clear hx
  go_enter Tryz.func178, Tryz.ntmps178
  go_wp2_with (go_at_call 180; refine hP.mono ?_; rintro e w1 ⟨rfl, hw1⟩; have hw1' := hw1.symm; subst hw1'; clear hw1)
  go_ret2
  exact ⟨rfl, HB.out⟩
end Go.Proofs.YtlfeiadgahdgoaaGreatDoor
namespace Go.Proofs
open Go.Shelf
def Tryz.laysC245_ren : Go.Shelf.Ren := ⟨fun | 245 => 181 | 279 => 186 | 280 => 187 | 281 => 188 | 282 => 189 | 316 => 155 | 171 => 191 | 205 => 190 | 243 => 192 | 246 => 83 | 283 => 118 | 284 => 119 | 285 => 120 | 286 => 121 | 129 => 149 | 317 => 148 | 318 => 150 | 319 => 151 | 320 => 152 | 337 => 169 | 338 => 170 | n => n, fun | 9 => 9 | 3 => 3 | 75 => 27 | 167 => 205 | 4 => 4 | 168 => 207 | 210 => 215 | 37 => 48 | 0 => 0 | 127 => 79 | 145 => 218 | 143 => 216 | 2 => 2 | 171 => 149 | 53 => 150 | 5 => 5 | 173 => 153 | 212 => 170 | 51 => 171 | 20 => 20 | 213 => 172 | 46 => 156 | 232 => 194 | 233 => 195 | 80 => 55 | n => n, fun | 15 => 19 | 16 => 20 | 17 => 12 | 18 => 16 | 19 => 17 | n => n⟩
theorem Tryz.laysC245 : Go.Proofs.LaysC.n245 Tryz.prog Tryz.laysC245_ren := {
  mixed := by kernel_rfl
  f129 := Tryz.func149.trans (congrArg some (by kernel_rfl))
  f171 := Tryz.func191.trans (congrArg some (by kernel_rfl))
  f205 := Tryz.func190.trans (congrArg some (by kernel_rfl))
  f243 := Tryz.func192.trans (congrArg some (by kernel_rfl))
  f245 := Tryz.func181.trans (congrArg some (by kernel_rfl))
  f246 := Tryz.func83.trans (congrArg some (by kernel_rfl))
  f279 := Tryz.func186.trans (congrArg some (by kernel_rfl))
  f280 := Tryz.func187.trans (congrArg some (by kernel_rfl))
  f281 := Tryz.func188.trans (congrArg some (by kernel_rfl))
  f282 := Tryz.func189.trans (congrArg some (by kernel_rfl))
  f283 := Tryz.func118.trans (congrArg some (by kernel_rfl))
  f284 := Tryz.func119.trans (congrArg some (by kernel_rfl))
  f285 := Tryz.func120.trans (congrArg some (by kernel_rfl))
  f286 := Tryz.func121.trans (congrArg some (by kernel_rfl))
  f316 := Tryz.func155.trans (congrArg some (by kernel_rfl))
  f317 := Tryz.func148.trans (congrArg some (by kernel_rfl))
  f318 := Tryz.func150.trans (congrArg some (by kernel_rfl))
  f319 := Tryz.func151.trans (congrArg some (by kernel_rfl))
  f320 := Tryz.func152.trans (congrArg some (by kernel_rfl))
  f337 := Tryz.func169.trans (congrArg some (by kernel_rfl))
  f338 := Tryz.func170.trans (congrArg some (by kernel_rfl))
  t0 := Tryz.underlying0
  a0 := Tryz.isAgg0
  z0 := Tryz.sizeOf0
  v0 := Tryz.zeroValue0
  t2 := Tryz.underlying2
  a2 := Tryz.isAgg2
  z2 := Tryz.sizeOf2
  v2 := Tryz.zeroValue2
  t3 := Tryz.underlying3
  a3 := Tryz.isAgg3
  z3 := Tryz.sizeOf3
  v3 := Tryz.zeroValue3
  t4 := Tryz.underlying4
  a4 := Tryz.isAgg4
  z4 := Tryz.sizeOf4
  v4 := Tryz.zeroValue4
  t5 := Tryz.underlying5
  a5 := Tryz.isAgg5
  z5 := Tryz.sizeOf5
  v5 := Tryz.zeroValue5
  t9 := Tryz.underlying9
  a9 := Tryz.isAgg9
  z9 := Tryz.sizeOf9
  v9 := Tryz.zeroValue9
  t20 := Tryz.underlying20
  a20 := Tryz.isAgg20
  z20 := Tryz.sizeOf20
  v20 := Tryz.zeroValue20
  t37 := Tryz.underlying48
  a37 := Tryz.isAgg48
  z37 := Tryz.sizeOf48
  v37 := Tryz.zeroValue48
  t46 := Tryz.underlying156
  a46 := Tryz.isAgg156
  z46 := Tryz.sizeOf156
  v46 := Tryz.zeroValue156
  t51 := Tryz.underlying171
  a51 := Tryz.isAgg171
  z51 := Tryz.sizeOf171
  v51 := Tryz.zeroValue171
  t53 := Tryz.underlying150
  a53 := Tryz.isAgg150
  z53 := Tryz.sizeOf150
  v53 := Tryz.zeroValue150
  t75 := Tryz.underlying27
  a75 := Tryz.isAgg27
  z75 := Tryz.sizeOf27
  v75 := Tryz.zeroValue27
  t127 := Tryz.underlying79
  a127 := Tryz.isAgg79
  z127 := Tryz.sizeOf79
  v127 := Tryz.zeroValue79
  t143 := Tryz.underlying216
  a143 := Tryz.isAgg216
  z143 := Tryz.sizeOf216
  v143 := Tryz.zeroValue216
  t145 := Tryz.underlying218
  a145 := Tryz.isAgg218
  z145 := Tryz.sizeOf218
  v145 := Tryz.zeroValue218
  t167 := Tryz.underlying205
  a167 := Tryz.isAgg205
  z167 := Tryz.sizeOf205
  v167 := Tryz.zeroValue205
  t168 := Tryz.underlying207
  a168 := Tryz.isAgg207
  z168 := Tryz.sizeOf207
  v168 := Tryz.zeroValue207
  t171 := Tryz.underlying149
  a171 := Tryz.isAgg149
  z171 := Tryz.sizeOf149
  v171 := Tryz.zeroValue149
  t173 := Tryz.underlying153
  a173 := Tryz.isAgg153
  z173 := Tryz.sizeOf153
  v173 := Tryz.zeroValue153
  t210 := Tryz.underlying215
  a210 := Tryz.isAgg215
  z210 := Tryz.sizeOf215
  v210 := Tryz.zeroValue215
  t212 := Tryz.underlying170
  a212 := Tryz.isAgg170
  z212 := Tryz.sizeOf170
  v212 := Tryz.zeroValue170
  t213 := Tryz.underlying172
  a213 := Tryz.isAgg172
  z213 := Tryz.sizeOf172
  t232 := Tryz.underlying194
  a232 := Tryz.isAgg194
  z232 := Tryz.sizeOf194
  v232 := Tryz.zeroValue194
  t233 := Tryz.underlying195
  a233 := Tryz.isAgg195
  z233 := Tryz.sizeOf195
  v233 := Tryz.zeroValue195
  g15 := by kernel_rfl
  g16 := by kernel_rfl
  g17 := by kernel_rfl
  g18 := by kernel_rfl
  g19 := by kernel_rfl
  t80 := Tryz.underlying55
  a80 := Tryz.isAgg55
  z80 := Tryz.sizeOf55
  v80 := Tryz.zeroValue55
  i0 := by kernel_rfl
  i2 := by kernel_rfl
  i3 := by kernel_rfl
  i4 := by kernel_rfl
  i5 := by kernel_rfl
  i9 := by kernel_rfl
  i20 := by kernel_rfl
  i37 := by kernel_rfl
  i46 := by kernel_rfl
  i51 := by kernel_rfl
  i53 := by kernel_rfl
  i75 := by kernel_rfl
  i80 := by kernel_rfl
  i127 := by kernel_rfl
  i143 := by kernel_rfl
  i145 := by kernel_rfl
  i167 := by kernel_rfl
  i168 := by kernel_rfl
  i171 := by kernel_rfl
  i173 := by kernel_rfl
  i210 := by kernel_rfl
  i212 := by kernel_rfl
  i232 := by kernel_rfl
  i233 := by kernel_rfl
  m15 := by kernel_rfl
  m16 := by kernel_rfl
  m17 := by kernel_rfl
  m18 := by kernel_rfl
  m19 := by kernel_rfl
  c0 := by kernel_rfl
  c2 := by kernel_rfl
  c3 := by kernel_rfl
  c4 := by kernel_rfl
  c5 := by kernel_rfl
  c9 := by kernel_rfl
  c20 := by kernel_rfl
  c37 := by kernel_rfl
  c46 := by kernel_rfl
  c51 := by kernel_rfl
  c53 := by kernel_rfl
  c75 := by kernel_rfl
  c80 := by kernel_rfl
  c127 := by kernel_rfl
  c143 := by kernel_rfl
  c145 := by kernel_rfl
  c167 := by kernel_rfl
  c168 := by kernel_rfl
  c171 := by kernel_rfl
  c173 := by kernel_rfl
  c210 := by kernel_rfl
  c212 := by kernel_rfl
  c213 := by kernel_rfl
  c232 := by kernel_rfl
  c233 := by kernel_rfl }
def Tryz.lays104_ren : Go.Shelf.Ren := ⟨fun | 104 => 86 | 211 => 126 | 207 => 85 | n => n, fun | 9 => 9 | 4 => 4 | 24 => 103 | 3 => 3 | n => n, fun | n => n⟩
theorem Tryz.lays104 : Go.Proofs.Lays.n104 Tryz.prog Tryz.lays104_ren := {
  mixed := by kernel_rfl
  f104 := Tryz.func86.trans (congrArg some (by kernel_rfl))
  f207 := Tryz.func85.trans (congrArg some (by kernel_rfl))
  f211 := Tryz.func126.trans (congrArg some (by kernel_rfl))
  t3 := Tryz.underlying3
  a3 := Tryz.isAgg3
  z3 := Tryz.sizeOf3
  v3 := Tryz.zeroValue3
  t4 := Tryz.underlying4
  a4 := Tryz.isAgg4
  z4 := Tryz.sizeOf4
  v4 := Tryz.zeroValue4
  t9 := Tryz.underlying9
  a9 := Tryz.isAgg9
  z9 := Tryz.sizeOf9
  v9 := Tryz.zeroValue9
  t24 := Tryz.underlying103
  a24 := Tryz.isAgg103
  z24 := Tryz.sizeOf103
  v24 := Tryz.zeroValue103 }
end Go.Proofs
namespace Go.Proofs.YtlfeiadgahdgoaaGreatDoor
open Go.RowKit Go.Shelf Go.Lib
/-- The library's own refusal stands in its variable. -/
def Syn (w : World) : Prop := ∃ ev, w.cell? ⟨19, 0, none⟩ = some ev ∧ (ev = .nilIface ∨ ∃ te pe, ev = .iface te pe)
theorem Syn.below {w w' : World} (h : Syn w) (hb : Below w.heap.size w w') : Syn w' := by
  obtain ⟨ev, h1, h2⟩ := h
  exact ⟨ev, (hb.cell (show (⟨19, 0, none⟩ : Addr).block < w.heap.size from lt_of_cell h1)).trans h1, h2⟩
theorem least_of {p : Nat → Prop} : ∀ n, p n → ∃ k, p k ∧ ∀ j, j < k → ¬ p j := by
  intro n
  induction n using Nat.strongRecOn with
  | ind n ih =>
    intro h
    by_cases h1 : ∃ j, j < n ∧ p j
    · obtain ⟨j, hj, hp⟩ := h1
      exact ih j hj hp
    · exact ⟨n, h, fun j hj hp => h1 ⟨j, hj, hp⟩⟩
theorem uint_bad (t : ByteArray) (h6 : t.size ≤ 6) (hx : ¬ (1 ≤ t.size ∧ ∀ c ∈ t.data.toList, isHx c = true)) (w : World) :
    Calls Tryz.prog 180 #[.string t, .int .i64 16, .int .i64 64] w fun e w' => e = .returned (.tuple #[.int .u64 0, .iface 205 (.int .i64 2)]) ∧ Below w.heap.size w w' := by
  by_cases h1 : t.size = 0
  · have e : t = ⟨#[]⟩ := by
      apply ByteArray.ext
      exact Array.eq_empty_of_size_eq_zero h1
    subst e
    refine (parseUint16_none w).mono ?_
    rintro e w1 ⟨rfl, rfl⟩
    exact ⟨rfl, Below.refl _ _⟩
  · have h2 : ∃ k, ∃ h : k < t.size, isHx t[k] = false := by
      refine Classical.byContradiction fun hn => hx ⟨by omega, fun c hc => ?_⟩
      obtain ⟨j, hj, rfl⟩ := List.getElem_of_mem hc
      have hj2 : j < t.size := by simpa using hj
      have e : t.data.toList[j]'hj = t[j]'hj2 := by simp; rfl
      rw [e]
      cases hh : isHx t[j] with
      | true => rfl
      | false => exact absurd ⟨j, hj2, hh⟩ hn
    obtain ⟨k0, hk0⟩ := h2
    obtain ⟨k, ⟨h, hb⟩, hmin⟩ := least_of (p := fun k => ∃ h : k < t.size, isHx t[k] = false) k0 hk0
    refine (parseUint16_bad t k h h6 (fun j hj hlt => ?_) hb w).mono ?_
    · cases hh : isHx t[j] with
      | true => rfl
      | false => exact absurd ⟨hj, hh⟩ (hmin j hlt)
    · rintro e w1 ⟨rfl, rfl⟩
      exact ⟨rfl, below_bytes w t⟩
set_option maxRecDepth 10000 in
theorem pubUint_bad (t : ByteArray) (h6 : t.size ≤ 6) (hx : ¬ (1 ≤ t.size ∧ ∀ c ∈ t.data.toList, isHx c = true)) (w : World) (hs : Syn w) : Calls Tryz.prog 178 #[.string t, .int .i64 16, .int .i64 64] w fun e w' => (∃ ty p, e = .returned (.tuple #[.int .u64 0, .iface ty p])) ∧ Below w.heap.size w w' := by
  have HP := hid0 (uint_bad t h6 hx w)
  have HT : Hid (∀ W, Below w.heap.size w W → Calls Tryz.prog 181 #[.string ⟨#[80, 97, 114, 115, 101, 85, 105, 110, 116]⟩, .string t, .int .i64 16, .int .i64 64, .iface 205 (.int .i64 2)] W fun e w' => ∃ N, e = .returned (.iface 207 (.pointer (some ⟨N, 0, none⟩))) ∧ Below w.heap.size w w') := hid0 (fun W hW => by
    obtain ⟨ev, h1, h2⟩ := hs.below hW
    refine (Any.strconv_toError_syntax Tryz.laysC245 ⟨#[80, 97, 114, 115, 101, 85, 105, 110, 116]⟩ t 16 64 ev W (by omega) h1 h2).mono ?_
    rintro e w2 ⟨N, rfl, _, _, hb⟩
    exact ⟨N, rfl, Below.later hW hb⟩)
  clear hx hs
  go_enter Tryz.func178, Tryz.ntmps178
  go_wp2_with (first
    | (go_at_call 180; refine HP.out.mono ?_; rintro e w1 ⟨rfl, hb1⟩; have HB1 := hid0 hb1; clear hb1)
    | (go_at_call 181; refine (HT.out _ HB1.out).mono ?_; rintro e w2 ⟨N, rfl, hb2⟩; have HB2 := hid0 hb2; clear hb2)
    | fail)
  go_ret2
  exact ⟨⟨_, _, rfl⟩, HB2.out⟩
end Go.Proofs.YtlfeiadgahdgoaaGreatDoor
namespace Go.Proofs.YtlfeiadgahdgoaaGreatDoor
open Go.RowKit Go.Shelf Go.Lib
/-- What is cut at the first closing brace behind the mark of a number. -/
def numC (l : List UInt8) : List UInt8 × List UInt8 × Bool := Lib.cut (Lib.trimPrefix l [92, 117, 123]) [125]
/-- A number in braces, and what stands behind it. -/
def numF (l : List UInt8) : Option (Nat × List UInt8) :=
  if Lib.hasPrefix l [92, 117, 123] = true ∧ (numC l).2.2 = true ∧ (numC l).1.length ≤ 6 ∧ (1 ≤ (numC l).1.length ∧ ∀ c ∈ (numC l).1, isHx c = true) then some (hexN (numC l).1, (numC l).2.1) else none
theorem cut_le (s sep : List UInt8) : (Lib.cut s sep).1.length ≤ s.length ∧ (Lib.cut s sep).2.1.length ≤ s.length := by
  unfold Lib.cut
  split <;> simp <;> omega
theorem trimPrefix_le (s p : List UInt8) : (Lib.trimPrefix s p).length ≤ s.length := by
  unfold Lib.trimPrefix
  split <;> simp
theorem drewN_keeps {w W : World} (h : Below w.heap.size w W) (q : Nat) : Below w.heap.size w (W.drewN q) := ⟨h.os, h.tape, h.output, h.size, h.block⟩
theorem need_tb (b : Bool) (v : Value) (w : World) (hb : b = true) : Calls Tryz.prog 87 #[.bool b, v] w fun e w' => e = .returned (.tuple #[]) ∧ w' = w := by
  subst hb
  exact need_t v w
theorem need_fb (b : Bool) (t : TypeId) (x : Value) (w : World) (hb : b = false) : Calls Tryz.prog 87 #[.bool b, .iface t x] w fun e w' => e = .panicked [{ v := faultV (.iface t x), recovered := false }] ∧ w' = w := by
  subst hb
  exact need_f t x w
set_option maxRecDepth 10000 in
set_option maxHeartbeats 400000 in
theorem readNumber_ok (A : Nat → Addr) (t : ByteArray) (ht : t.size ≤ 4194400) (n : Nat) (r : List UInt8) (w : World) (hm : Mx w) (he : Sents w A) (hn : numF t.data.toList = some (n, r)) : Calls Tryz.prog 171 #[.string t] w fun e w' => e = .returned (.tuple #[.int .i64 (n : Int), .string (strOf r)]) ∧ Below w.heap.size w w' := by
  obtain ⟨m, hm⟩ := hm
  have HCP := hid0 (cutP_any t ⟨#[92, 117, 123]⟩ w)
  have hl : (strOf (Lib.trimPrefix t.data.toList [92, 117, 123])).size ≤ 4194400 := by
    have := trimPrefix_le t.data.toList [92, 117, 123]
    rw [← Lib.size_eq] at this
    rw [strOf_size]
    omega
  have hCU := scut_any (strOf (Lib.trimPrefix t.data.toList [92, 117, 123])) ⟨#[125]⟩ hl w m hm
  rw [strOf_data] at hCU
  unfold numF at hn
  split at hn
  case isFalse => cases hn
  rename_i hc
  obtain ⟨c1, c2, c3, c4, c5⟩ := hc
  injection hn with hn
  injection hn with hn1 hn2
  change Calls _ _ _ _ (fun e w' => e = .returned (.tuple #[.string (strOf (numC t.data.toList).1), .string (strOf (numC t.data.toList).2.1), .bool (numC t.data.toList).2.2]) ∧ ∃ n, w' = w.drewN n) at hCU
  rw [hn2, c2] at hCU
  have HPU : Hid (∀ q, Calls Tryz.prog 178 #[.string (strOf (numC t.data.toList).1), .int .i64 16, .int .i64 64] (w.drewN q) fun e w' => e = .returned (.tuple #[.int .u64 (n : Int), .nilIface]) ∧ Below w.heap.size w w') := hid0 (fun q => by
    refine (pubUint_ok (strOf (numC t.data.toList).1) (by rw [strOf_size]; exact c4) (by rw [strOf_size]; exact c3) (by rw [strOf_data]; exact c5) (w.drewN q)).mono ?_
    rintro e w2 ⟨rfl, hb⟩
    rw [strOf_data, hn1]
    exact ⟨rfl, Below.later (drewN_keeps (Below.refl _ w) q) hb⟩)
  have hlt : n < 16777216 := by
    have h1 := hexN_lt (numC t.data.toList).1 c5
    have h2 : 16 ^ (numC t.data.toList).1.length ≤ 16 ^ 6 := Nat.pow_le_pow_right (by omega) c3
    omega
  have hd : (strOf (numC t.data.toList).1).size ≤ 6 := by rw [strOf_size]; exact c3
  have HE : Hid (∀ W, Below w.heap.size w W → W.cell? ⟨1, 0, none⟩ = some (.iface 216 (.pointer (some (A 1))))) := hid0 (fun W hW => (he.below hW).c1)
  have HCU := hid0 hCU
  change Hid (Calls _ _ _ _ (fun e w' => e = .returned (.tuple #[.string (strOf (Lib.trimPrefix t.data.toList [92, 117, 123])), .bool (Lib.hasPrefix t.data.toList [92, 117, 123])]) ∧ w' = w)) at HCP
  rw [c1] at HCP
  generalize strOf (Lib.trimPrefix t.data.toList [92, 117, 123]) = B at *
  generalize strOf (numC t.data.toList).1 = D at *
  generalize strOf r = R at *
  clear hCU hn1 hn2 c1 c2 c3 c4 c5 hl he
  go_enter Tryz.func171, Tryz.ntmps171
  go_wp2_with (first
    | (go_at_call 65; refine HCP.out.mono ?_; rintro e w1 ⟨rfl, hw1⟩; have hw1' := hw1.symm; subst hw1'; clear hw1)
    | (go_at_call 37; refine HCU.out.mono ?_; rintro e w2 ⟨rfl, q, hw2⟩; subst hw2; have e2 := HE.out _ (drewN_keeps (Below.refl _ _) q))
    | (go_at_call 178; refine (HPU.out _).mono ?_; rintro e w3 ⟨rfl, hb3⟩; have e3 := HE.out _ hb3; have HB3 := hid0 hb3; clear hb3)
    | (go_at_call 87; refine (need_tb _ _ _ (by first | exact decide_eq_true (by omega) | rfl)).mono ?_; rintro e w4 ⟨rfl, hw4⟩; have hw4' := hw4.symm; subst hw4'; clear hw4)
    | fail)
  go_quiet ((go_at_call 87; exact Calls.quiet_of_same (need_tb _ _ _ (by first | rfl | exact decide_eq_true (by omega)))))
  go_wp2
  go_ret2
  exact ⟨rfl, drewN_keeps HB3.out _⟩
end Go.Proofs.YtlfeiadgahdgoaaGreatDoor
namespace Go.Proofs.YtlfeiadgahdgoaaGreatDoor
open Go.RowKit Go.Shelf Go.Lib
set_option maxRecDepth 10000 in
set_option maxHeartbeats 1600000 in
theorem readNumber_bad (A : Nat → Addr) (t : ByteArray) (ht : t.size ≤ 4194400) (w : World) (hm : Mx w) (hs : Syn w) (he : Sents w A) (hn : numF t.data.toList = none) : Calls Tryz.prog 171 #[.string t] w fun e w' => Gives A 1 e ∧ Below w.heap.size w w' := by
  obtain ⟨m, hm⟩ := hm
  have HCP := hid0 (cutP_any t ⟨#[92, 117, 123]⟩ w)
  have hl : (strOf (Lib.trimPrefix t.data.toList [92, 117, 123])).size ≤ 4194400 := by
    have := trimPrefix_le t.data.toList [92, 117, 123]
    rw [← Lib.size_eq] at this
    rw [strOf_size]
    omega
  have hCU := scut_any (strOf (Lib.trimPrefix t.data.toList [92, 117, 123])) ⟨#[125]⟩ hl w m hm
  rw [strOf_data] at hCU
  have hc : ¬ (Lib.hasPrefix t.data.toList [92, 117, 123] = true ∧ (numC t.data.toList).2.2 = true ∧ (strOf (numC t.data.toList).1).size ≤ 6 ∧ (1 ≤ (numC t.data.toList).1.length ∧ ∀ c ∈ (numC t.data.toList).1, isHx c = true)) := by
    intro hc
    rw [strOf_size] at hc
    unfold numF at hn
    rw [if_pos hc] at hn
    cases hn
  change Calls _ _ _ _ (fun e w' => e = .returned (.tuple #[.string (strOf (numC t.data.toList).1), .string (strOf (numC t.data.toList).2.1), .bool (numC t.data.toList).2.2]) ∧ ∃ n, w' = w.drewN n) at hCU
  have HPU : Hid (Lib.hasPrefix t.data.toList [92, 117, 123] = true → (numC t.data.toList).2.2 = true → (strOf (numC t.data.toList).1).size ≤ 6 → ∀ q, Calls Tryz.prog 178 #[.string (strOf (numC t.data.toList).1), .int .i64 16, .int .i64 64] (w.drewN q) fun e w' => (∃ ty p, e = .returned (.tuple #[.int .u64 0, .iface ty p])) ∧ Below w.heap.size w w') := hid0 (fun c1 c2 c3 q => by
    refine (pubUint_bad (strOf (numC t.data.toList).1) c3 (by rw [strOf_size, strOf_data]; exact fun h => hc ⟨c1, c2, c3, h⟩) (w.drewN q) (hs.below (drewN_keeps (Below.refl _ w) q))).mono ?_
    rintro e w2 ⟨h, hb⟩
    exact ⟨h, Below.later (drewN_keeps (Below.refl _ w) q) hb⟩)
  have HE : Hid (∀ W, Below w.heap.size w W → W.cell? ⟨1, 0, none⟩ = some (.iface 216 (.pointer (some (A 1))))) := hid0 (fun W hW => (he.below hW).c1)
  have HCU := hid0 hCU
  change Hid (Calls _ _ _ _ (fun e w' => e = .returned (.tuple #[.string (strOf (Lib.trimPrefix t.data.toList [92, 117, 123])), .bool (Lib.hasPrefix t.data.toList [92, 117, 123])]) ∧ w' = w)) at HCP
  have hD : (strOf (numC t.data.toList).1).size ≤ 4194400 := by
    have h1 := (cut_le (Lib.trimPrefix t.data.toList [92, 117, 123]) [125]).1
    rw [strOf_size] at hl ⊢
    exact Nat.le_trans h1 hl
  clear hc hs hm hCU hn he hl
  generalize strOf (Lib.trimPrefix t.data.toList [92, 117, 123]) = B at *
  generalize strOf (numC t.data.toList).1 = D at *
  generalize strOf (numC t.data.toList).2.1 = R at *
  generalize Lib.hasPrefix t.data.toList [92, 117, 123] = b1 at *
  generalize (numC t.data.toList).2.2 = b2 at *
  unfold Gives
  cases b1
  · clear HPU
    go_enter Tryz.func171, Tryz.ntmps171
    go_wp2_with (first
      | (go_at_call 65; refine HCP.out.mono ?_; rintro e w1 ⟨rfl, hw1⟩; have hw1' := hw1.symm; subst hw1'; clear hw1)
      | (go_at_call 37; refine HCU.out.mono ?_; rintro e w2 ⟨rfl, q, hw2⟩; subst hw2; have e2 := HE.out _ (drewN_keeps (Below.refl _ _) q))
      | (go_at_call 87; refine (need_fb _ _ _ _ (by rfl)).mono ?_; rintro e w4 ⟨rfl, hw4⟩; have hw4' := hw4.symm; subst hw4'; clear hw4)
      | fail)
    exact ⟨rfl, rfl, drewN_keeps (Below.refl _ _) _⟩
  cases b2
  · clear HPU
    go_enter Tryz.func171, Tryz.ntmps171
    go_wp2_with (first
      | (go_at_call 65; refine HCP.out.mono ?_; rintro e w1 ⟨rfl, hw1⟩; have hw1' := hw1.symm; subst hw1'; clear hw1)
      | (go_at_call 37; refine HCU.out.mono ?_; rintro e w2 ⟨rfl, q, hw2⟩; subst hw2; have e2 := HE.out _ (drewN_keeps (Below.refl _ _) q))
      | (go_at_call 87; refine (need_fb _ _ _ _ (by rfl)).mono ?_; rintro e w4 ⟨rfl, hw4⟩; have hw4' := hw4.symm; subst hw4'; clear hw4)
      | fail)
    exact ⟨rfl, rfl, drewN_keeps (Below.refl _ _) _⟩
  by_cases h6 : D.size ≤ 6
  · have HP2 := hid0 (HPU.out rfl rfl h6)
    clear HPU
    go_enter Tryz.func171, Tryz.ntmps171
    go_wp2_with (first
      | (go_at_call 65; refine HCP.out.mono ?_; rintro e w1 ⟨rfl, hw1⟩; have hw1' := hw1.symm; subst hw1'; clear hw1)
      | (go_at_call 37; refine HCU.out.mono ?_; rintro e w2 ⟨rfl, q, hw2⟩; subst hw2; have e2 := HE.out _ (drewN_keeps (Below.refl _ _) q))
      | (go_at_call 178; refine (HP2.out _).mono ?_; rintro e w3 ⟨⟨ty, pp, rfl⟩, hb3⟩; have e3 := HE.out _ hb3; have HB3 := hid0 hb3; clear hb3)
      | (go_at_call 87; refine (need_tb _ _ _ (by exact decide_eq_true (by omega))).mono ?_; rintro e w4 ⟨rfl, hw4⟩; have hw4' := hw4.symm; subst hw4'; clear hw4)
      | fail)
    have e4 := HE.out _ (drewN_keeps HB3.out 1)
    go_region_dies
    all_goals (refine (need_f _ _ _).mono ?_; rintro e w4 ⟨rfl, hw4⟩; subst hw4)
    all_goals exact ⟨rfl, rfl, drewN_keeps HB3.out 1⟩
  · clear HPU
    go_enter Tryz.func171, Tryz.ntmps171
    go_wp2_with (first
      | (go_at_call 65; refine HCP.out.mono ?_; rintro e w1 ⟨rfl, hw1⟩; have hw1' := hw1.symm; subst hw1'; clear hw1)
      | (go_at_call 37; refine HCU.out.mono ?_; rintro e w2 ⟨rfl, q, hw2⟩; subst hw2; have e2 := HE.out _ (drewN_keeps (Below.refl _ _) q))
      | (go_at_call 87; refine (need_fb _ _ _ _ (by exact decide_eq_false (by omega))).mono ?_; rintro e w4 ⟨rfl, hw4⟩; have hw4' := hw4.symm; subst hw4'; clear hw4)
      | fail)
    exact ⟨rfl, rfl, drewN_keeps (Below.refl _ _) _⟩
end Go.Proofs.YtlfeiadgahdgoaaGreatDoor
namespace Go.Proofs.YtlfeiadgahdgoaaGreatDoor
open Go.RowKit Go.Shelf Go.Lib
/-- What an escape stands for, and what stands behind it. -/
def escF (l : List UInt8) : Option (Nat × List UInt8) :=
  if Lib.hasPrefix l [92, 92] = true then some (92, Lib.trimPrefix l [92, 92]) else if Lib.hasPrefix l [92, 35] = true then some (35, Lib.trimPrefix l [92, 35]) else if Lib.hasPrefix l [92, 115] = true then some (32, Lib.trimPrefix l [92, 115]) else numF l
/-- What a reader answers, or gives up with. -/
def RdA (A : Nat → Addr) (o : Option (Nat × List UInt8)) (e : Ending) : Prop :=
  match o with
  | some (n, r) => e = .returned (.tuple #[.int .i64 (n : Int), .string (strOf r)])
  | none => Gives A 1 e
theorem readNumber_any (A : Nat → Addr) (t : ByteArray) (ht : t.size ≤ 4194400) (w : World) (hm : Mx w) (hs : Syn w) (he : Sents w A) : Calls Tryz.prog 171 #[.string t] w fun e w' => RdA A (numF t.data.toList) e ∧ Below w.heap.size w w' := by
  cases h : numF t.data.toList with
  | none => exact readNumber_bad A t ht w hm hs he h
  | some p => obtain ⟨n, r⟩ := p; exact readNumber_ok A t ht n r w hm he h
set_option maxRecDepth 10000 in
set_option maxHeartbeats 1600000 in
theorem readEscape_core (A : Nat → Addr) (t : ByteArray) (w : World) (b0 b1 b2 : Bool) (T0 T1 T2 : ByteArray) (o : Option (Nat × List UInt8)) (Q : Ending → Prop)
    (HC0 : Hid (∀ W, Calls Tryz.prog 65 #[.string t, .string ⟨#[92, 92]⟩] W fun e w' => e = .returned (.tuple #[.string T0, .bool b0]) ∧ w' = W))
    (HC1 : Hid (∀ W, Calls Tryz.prog 65 #[.string t, .string ⟨#[92, 35]⟩] W fun e w' => e = .returned (.tuple #[.string T1, .bool b1]) ∧ w' = W))
    (HC2 : Hid (∀ W, Calls Tryz.prog 65 #[.string t, .string ⟨#[92, 115]⟩] W fun e w' => e = .returned (.tuple #[.string T2, .bool b2]) ∧ w' = W))
    (HN : Hid (∀ W, Below w.heap.size w W → Calls Tryz.prog 171 #[.string t] W fun e w' => RdA A o e ∧ Below w.heap.size w w'))
    (HQ0 : Hid (b0 = true → Q (.returned (.tuple #[.int .i64 92, .string T0]))))
    (HQ1 : Hid (b0 = false → b1 = true → Q (.returned (.tuple #[.int .i64 35, .string T1]))))
    (HQ2 : Hid (b0 = false → b1 = false → b2 = true → Q (.returned (.tuple #[.int .i64 32, .string T2]))))
    (HQ3 : Hid (b0 = false → b1 = false → b2 = false → ∀ e, RdA A o e → Q e)) :
    Calls Tryz.prog 156 #[.string t] w fun e w' => Q e ∧ Below w.heap.size w w' := by
  have i0 : ∀ W, (Instr.index 189 (.agg #[.string ⟨#[92, 92]⟩, .int .i64 92, .string ⟨#[92, 35]⟩, .int .i64 35, .string ⟨#[92, 115]⟩, .int .i64 32]) (.int .i64 0)).run Tryz.prog W = .ok (.agg #[.string ⟨#[92, 92]⟩, .int .i64 92]) W := fun _ => by kernel_rfl
  have i1 : ∀ W, (Instr.index 189 (.agg #[.string ⟨#[92, 92]⟩, .int .i64 92, .string ⟨#[92, 35]⟩, .int .i64 35, .string ⟨#[92, 115]⟩, .int .i64 32]) (.int .i64 1)).run Tryz.prog W = .ok (.agg #[.string ⟨#[92, 35]⟩, .int .i64 35]) W := fun _ => by kernel_rfl
  have i2 : ∀ W, (Instr.index 189 (.agg #[.string ⟨#[92, 92]⟩, .int .i64 92, .string ⟨#[92, 35]⟩, .int .i64 35, .string ⟨#[92, 115]⟩, .int .i64 32]) (.int .i64 2)).run Tryz.prog W = .ok (.agg #[.string ⟨#[92, 115]⟩, .int .i64 32]) W := fun _ => by kernel_rfl
  go_enter Tryz.func156, Tryz.ntmps156
  go_wp2
  go_loopw [14] (fun vi wr => ∃ k : Nat, vi = .int .i64 (k : Int) ∧ k ≤ 3 ∧ Hid ((1 ≤ k → b0 = false) ∧ (2 ≤ k → b1 = false) ∧ (3 ≤ k → b2 = false)) ∧ Hid (Below w.heap.size w wr)) (fun vi _ => 3 - (intOf vi).toNat)
  case atStart =>
    refine ⟨0, rfl, by omega, hid0 ⟨fun h => absurd h (by omega), fun h => absurd h (by omega), fun h => absurd h (by omega)⟩, hid0 ?_⟩
    go_grown
  case round =>
    obtain ⟨k, rfl, hk, HK, HB⟩ := hrel
    have hbs := HB.out.size
    have hsz : w.heap.size ≤ wr.heap.size := hbs
    rcases (by omega : k = 0 ∨ k = 1 ∨ k = 2 ∨ k = 3) with rfl | rfl | rfl | rfl
    · rcases Bool.eq_false_or_eq_true b0 with hb | hb
      · skip
        have H1 := HC0
        rw [hb] at H1
        go_wp2_with (go_at_call 65; refine (H1.out _).mono ?_; rintro e w1 ⟨rfl, hw1⟩; subst hw1)
        go_ret2
        refine ⟨?_, by have hB := HB.out; go_grown⟩
        exact (HQ0.out  hb)
      · skip
        have H1 := HC0
        rw [hb] at H1
        go_wp2_with (go_at_call 65; refine (H1.out _).mono ?_; rintro e w1 ⟨rfl, hw1⟩; subst hw1)
        go_roundw
        case rel => exact ⟨1, by go_num, by omega, hid0 ⟨fun _ => hb, fun h => absurd h (by omega), fun h => absurd h (by omega)⟩, hid0 (by have hB := HB.out; go_grown)⟩
        case measure => simp [intOf]
    · rcases Bool.eq_false_or_eq_true b1 with hb | hb
      · skip
        have H1 := HC1
        rw [hb] at H1
        go_wp2_with (go_at_call 65; refine (H1.out _).mono ?_; rintro e w1 ⟨rfl, hw1⟩; subst hw1)
        go_ret2
        refine ⟨?_, by have hB := HB.out; go_grown⟩
        exact (HQ1.out (HK.out.1 (by omega)) hb)
      · skip
        have H1 := HC1
        rw [hb] at H1
        go_wp2_with (go_at_call 65; refine (H1.out _).mono ?_; rintro e w1 ⟨rfl, hw1⟩; subst hw1)
        go_roundw
        case rel => exact ⟨2, by go_num, by omega, hid0 ⟨fun _ => HK.out.1 (by omega), fun _ => hb, fun h => absurd h (by omega)⟩, hid0 (by have hB := HB.out; go_grown)⟩
        case measure => simp [intOf]
    · rcases Bool.eq_false_or_eq_true b2 with hb | hb
      · skip
        have H1 := HC2
        rw [hb] at H1
        go_wp2_with (go_at_call 65; refine (H1.out _).mono ?_; rintro e w1 ⟨rfl, hw1⟩; subst hw1)
        go_ret2
        refine ⟨?_, by have hB := HB.out; go_grown⟩
        exact (HQ2.out (HK.out.1 (by omega)) (HK.out.2.1 (by omega)) hb)
      · skip
        have H1 := HC2
        rw [hb] at H1
        go_wp2_with (go_at_call 65; refine (H1.out _).mono ?_; rintro e w1 ⟨rfl, hw1⟩; subst hw1)
        go_roundw
        case rel => exact ⟨3, by go_num, by omega, hid0 ⟨fun _ => HK.out.1 (by omega), fun _ => HK.out.2.1 (by omega), fun _ => hb⟩, hid0 (by have hB := HB.out; go_grown)⟩
        case measure => simp [intOf]
    · have HQ := hid0 (HQ3.out (HK.out.1 (by omega)) (HK.out.2.1 (by omega)) (HK.out.2.2 (by omega)))
      cases o with
      | none =>
        have H1 := hid0 (HN.out wr HB.out)
        unfold RdA Gives at H1
        simp only at H1
        go_wp2_with (go_at_call 171; refine H1.out.mono ?_; rintro e w1 ⟨rfl, hb1⟩)
        exact ⟨rfl, HQ.out _ rfl, hb1⟩
      | some p =>
        obtain ⟨n, r⟩ := p
        have H1 := hid0 (HN.out wr HB.out)
        unfold RdA at H1
        simp only at H1
        go_wp2_with (go_at_call 171; refine H1.out.mono ?_; rintro e w1 ⟨rfl, hb1⟩)
        go_ret2
        exact ⟨HQ.out _ rfl, hb1⟩
theorem readEscape_any (A : Nat → Addr) (t : ByteArray) (ht : t.size ≤ 4194400) (w : World) (hm : Mx w) (hs : Syn w) (he : Sents w A) : Calls Tryz.prog 156 #[.string t] w fun e w' => RdA A (escF t.data.toList) e ∧ Below w.heap.size w w' := by
  refine readEscape_core A t w (Lib.hasPrefix t.data.toList [92, 92]) (Lib.hasPrefix t.data.toList [92, 35]) (Lib.hasPrefix t.data.toList [92, 115]) _ _ _ (numF t.data.toList) (RdA A (escF t.data.toList)) (hid0 (fun W => cutP_any t ⟨#[92, 92]⟩ W)) (hid0 (fun W => cutP_any t ⟨#[92, 35]⟩ W)) (hid0 (fun W => cutP_any t ⟨#[92, 115]⟩ W)) (hid0 (fun W hW => (readNumber_any A t ht W (hm.below hW) (hs.below hW) (he.below hW)).mono (fun e w' h => ⟨h.1, Below.later hW h.2⟩))) (hid0 (fun h0 => ?_)) (hid0 (fun h0 h1 => ?_)) (hid0 (fun h0 h1 h2 => ?_)) (hid0 (fun h0 h1 h2 e h => ?_))
  · rw [escF, if_pos h0]
    rfl
  · rw [escF, if_neg (by rw [h0]; decide), if_pos h1]
    rfl
  · rw [escF, if_neg (by rw [h0]; decide), if_neg (by rw [h1]; decide), if_pos h2]
    rfl
  · rw [escF, if_neg (by rw [h0]; decide), if_neg (by rw [h1]; decide), if_neg (by rw [h2]; decide)]
    exact h
end Go.Proofs.YtlfeiadgahdgoaaGreatDoor
namespace Go.Proofs.YtlfeiadgahdgoaaGreatDoor
open Go.RowKit
def cellsOf (l : List UInt8) : List Value := l.map fun c => .int .u8 (c.toNat : Int)
theorem cellsOf_length (l : List UInt8) : (cellsOf l).length = l.length := by simp [cellsOf]
theorem cellsOf_append (l m : List UInt8) : cellsOf (l ++ m) = cellsOf l ++ cellsOf m := by simp [cellsOf]
/-- A slice of bytes of the call's own. -/
def OwnBE (w : World) (base : Nat) (v : Value) (l : List UInt8) : Prop := w.ownsRow base 5 1 v l.length (cellsOf l)
theorem infoU8E : (Tryz.prog.info? 5).map (fun i => (i.zero, i.size, i.bytes)) = some (some (.int .u8 0), 1, 1) := by kernel_rfl
theorem hidE {p : Prop} (h : p) : Hid p := h
set_option maxRecDepth 10000 in
theorem validRune_any (p : Int) (w : World) :
    Calls Tryz.prog 157 #[.int .i32 p] w fun e w' => e = .returned (.bool (scalarP p)) ∧ w' = w := by
  unfold scalarP
  by_cases ha : 0 ≤ p <;> by_cases hb : p ≤ 1114111 <;> by_cases hc : p < 55296 <;> by_cases hd : 57343 < p <;>
    first
    | (exfalso; omega)
    | (go_enter Tryz.func157, Tryz.ntmps157
       go_wp2
       all_goals
         go_ret
         exact ⟨by simp [ha, hb, hc, hd], rfl⟩)
set_option maxRecDepth 10000 in
theorem isScalar_any (p : Int) (w : World) :
    Calls Tryz.prog 129 #[.int .i64 p] w fun e w' => e = .returned (.bool (scalarP p)) ∧ w' = w := by
  by_cases ha : 0 ≤ p
  · by_cases hb : p ≤ 1114111
    · have HV := hidE (validRune_any p)
      go_enter Tryz.func129, Tryz.ntmps129
      go_wp2_with (go_at_call 157; refine (HV.out _).mono ?_; rintro e w' ⟨rfl, rfl⟩)
      go_ret
      exact ⟨rfl, rfl⟩
    · have hn : scalarP p = false := by simp [scalarP, hb]
      rw [hn]
      go_enter Tryz.func129, Tryz.ntmps129
      go_wp2
      go_ret
      exact ⟨rfl, rfl⟩
  · have hn : scalarP p = false := by simp [scalarP, ha]
    rw [hn]
    go_enter Tryz.func129, Tryz.ntmps129
    go_wp2
    go_ret
    exact ⟨rfl, rfl⟩
theorem cells_new (w : World) (cs : List Value) (t : TypeId) : ∀ j u, cs[j]? = some u → (w.alloc (.cells cs.toArray t)).cell? ((⟨w.heap.size, 0, none⟩ : Addr).add j) = some u := by
  intro j u h
  rw [Addr.add_lit, cell_of_row _ w.heap.size _ _ _ _ (heap_alloc_new w _), Nat.zero_add]
  simpa using h
set_option maxRecDepth 10000 in
set_option maxHeartbeats 800000 in
theorem nonAscii_any (n : Nat) (hn : scalarP (n : Int) = true) (h1 : ¬ n < 128) (base : Nat) (v : Value) (l : List UInt8) (w : World) (hown : OwnBE w base v l) (hb : base ≤ w.heap.size) (hl : l.length ≤ 100000000) :
    Calls Tryz.prog 158 #[v, .int .i32 (n : Int)] w fun e w' => ∃ v', e = .returned v' ∧ OwnBE w' base v' (l ++ encL n) ∧ Below base w w' := by
  obtain ⟨i0, hi, hz0, hz1, hz2⟩ := info_parts infoU8E
  have hs := hn
  simp only [scalarP, Bool.and_eq_true, Bool.or_eq_true, decide_eq_true_eq] at hs
  have HO := hidE hown
  clear hown hn
  by_cases h2 : n < 2048
  · have i1 : ¬ (n : Int) < 128 := by omega
    have i2 : (n : Int) ≤ 2047 := by omega
    have i0' : (0 : Int) ≤ (n : Int) := by omega
    have he : cellsOf (encL n) = [.int .u8 (192 + (n : Int) / 64), .int .u8 (128 + (n : Int) % 64)] := by rw [encL, if_neg h1, if_pos h2]; simp only [cellsOf, List.map, u8n (192 + n / 64) (by omega), u8n (128 + n % 64) (by omega)]; rfl
    have hel : (encL n).length = 2 := by rw [encL, if_neg h1, if_pos h2]; rfl
    have HE := hidE he
    have HL := hidE hel
    clear he hel
    generalize (n : Int) = x at *
    go_enter Tryz.func158, Tryz.ntmps158
    go_wp2_with (at_builtin; refine wpList_append_own _ rfl _ _ 48 rfl base 5 i0 (.int .u8 0) 1 1 Tryz.underlying48 hi hz0 hz1 hz2 rfl (by decide) v _ _ rfl (HO.out.alloc _) ⟨w.heap.size, 0, none⟩ 2 2 [.int .u8 (192 + x / 64), .int .u8 (128 + x % 64)] rfl rfl (cells_new _ _ _) (by simp [Value.oneCell']) (by unfold maxLen; omega) (by omega) (by simp; omega) ?_; intro v' w1 hown' hgrow _)
    go_ret
    refine ⟨v', rfl, ?_, ((Below.refl base w).alloc hb _).grown hgrow (by simp; omega) (fun k hk => (World.ownsRow.lt HO.out k hk).1)⟩
    unfold OwnBE
    rw [List.length_append, HL.out, cellsOf_append, HE.out]
    exact hown'
  · by_cases h3 : n < 65536
    · have i1 : ¬ (n : Int) < 128 := by omega
      have i2 : ¬ (n : Int) ≤ 2047 := by omega
      have i3 : (n : Int) ≤ 65535 := by omega
      have i0' : (0 : Int) ≤ (n : Int) := by omega
      have he : cellsOf (encL n) = [.int .u8 (224 + (n : Int) / 4096), .int .u8 (128 + (n : Int) / 64 % 64), .int .u8 (128 + (n : Int) % 64)] := by rw [encL, if_neg h1, if_neg h2, if_pos h3]; simp only [cellsOf, List.map, u8n (224 + n / 4096) (by omega), u8n (128 + n / 64 % 64) (by omega), u8n (128 + n % 64) (by omega)]; rfl
      have hel : (encL n).length = 3 := by rw [encL, if_neg h1, if_neg h2, if_pos h3]; rfl
      have HE := hidE he
      have HL := hidE hel
      clear he hel
      generalize (n : Int) = x at *
      go_enter Tryz.func158, Tryz.ntmps158
      go_wp2_with (at_builtin; refine wpList_append_own _ rfl _ _ 48 rfl base 5 i0 (.int .u8 0) 1 1 Tryz.underlying48 hi hz0 hz1 hz2 rfl (by decide) v _ _ rfl (HO.out.alloc _) ⟨w.heap.size, 0, none⟩ 3 3 [.int .u8 (224 + x / 4096), .int .u8 (128 + x / 64 % 64), .int .u8 (128 + x % 64)] rfl rfl (cells_new _ _ _) (by simp [Value.oneCell']) (by unfold maxLen; omega) (by omega) (by simp; omega) ?_; intro v' w1 hown' hgrow _)
      all_goals
        go_ret
        refine ⟨v', rfl, ?_, ((Below.refl base w).alloc hb _).grown hgrow (by simp; omega) (fun k hk => (World.ownsRow.lt HO.out k hk).1)⟩
        unfold OwnBE
        rw [List.length_append, HL.out, cellsOf_append, HE.out]
        exact hown'
    · have i1 : ¬ (n : Int) < 128 := by omega
      have i2 : ¬ (n : Int) ≤ 2047 := by omega
      have i3 : ¬ (n : Int) ≤ 65535 := by omega
      have i4 : (n : Int) ≤ 1114111 := by omega
      have i0' : (0 : Int) ≤ (n : Int) := by omega
      have he : cellsOf (encL n) = [.int .u8 (240 + (n : Int) / 262144), .int .u8 (128 + (n : Int) / 4096 % 64), .int .u8 (128 + (n : Int) / 64 % 64), .int .u8 (128 + (n : Int) % 64)] := by rw [encL, if_neg h1, if_neg h2, if_neg h3]; simp only [cellsOf, List.map, u8n (240 + n / 262144) (by omega), u8n (128 + n / 4096 % 64) (by omega), u8n (128 + n / 64 % 64) (by omega), u8n (128 + n % 64) (by omega)]; rfl
      have hel : (encL n).length = 4 := by rw [encL, if_neg h1, if_neg h2, if_neg h3]; rfl
      have HE := hidE he
      have HL := hidE hel
      clear he hel
      generalize (n : Int) = x at *
      go_enter Tryz.func158, Tryz.ntmps158
      go_wp2_with (at_builtin; refine wpList_append_own _ rfl _ _ 48 rfl base 5 i0 (.int .u8 0) 1 1 Tryz.underlying48 hi hz0 hz1 hz2 rfl (by decide) v _ _ rfl (HO.out.alloc _) ⟨w.heap.size, 0, none⟩ 4 4 [.int .u8 (240 + x / 262144), .int .u8 (128 + x / 4096 % 64), .int .u8 (128 + x / 64 % 64), .int .u8 (128 + x % 64)] rfl rfl (cells_new _ _ _) (by simp [Value.oneCell']) (by unfold maxLen; omega) (by omega) (by simp; omega) ?_; intro v' w1 hown' hgrow _)
      go_ret
      refine ⟨v', rfl, ?_, ((Below.refl base w).alloc hb _).grown hgrow (by simp; omega) (fun k hk => (World.ownsRow.lt HO.out k hk).1)⟩
      unfold OwnBE
      rw [List.length_append, HL.out, cellsOf_append, HE.out]
      exact hown'
set_option maxRecDepth 10000 in
set_option maxHeartbeats 800000 in
theorem appendRune_any (n : Nat) (hn : scalarP (n : Int) = true) (base : Nat) (v : Value) (l : List UInt8) (w : World) (hown : OwnBE w base v l) (hb : base ≤ w.heap.size) (hl : l.length ≤ 100000000) :
    Calls Tryz.prog 130 #[v, .int .i32 (n : Int)] w fun e w' => ∃ v', e = .returned v' ∧ OwnBE w' base v' (l ++ encL n) ∧ Below base w w' := by
  obtain ⟨i0, hi, hz0, hz1, hz2⟩ := info_parts infoU8E
  have hs := hn
  have hs0 := hn
  simp only [scalarP, Bool.and_eq_true, Bool.or_eq_true, decide_eq_true_eq] at hs
  have HO := hidE hown
  clear hown hn
  by_cases h1 : n < 128
  · have i1 : (n : Int) < 128 := by omega
    have i2 : (n : Int) ≤ 127 := by omega
    have he : encL n = [UInt8.ofNat n] := by rw [encL, if_pos h1]
    have HE := hidE he
    clear he
    go_enter Tryz.func130, Tryz.ntmps130
    go_wp2_with (at_builtin; refine wpList_append_own _ rfl _ _ 48 rfl base 5 i0 (.int .u8 0) 1 1 Tryz.underlying48 hi hz0 hz1 hz2 rfl (by decide) v _ _ rfl (HO.out.alloc _) ⟨w.heap.size, 0, none⟩ 1 1 [.int .u8 (n : Int)] rfl rfl (cell_one_new _ _ _) (by simp [Value.oneCell']) (by unfold maxLen; omega) (by omega) (by simp; omega) ?_; intro v' w1 hown' hgrow _)
    go_ret
    refine ⟨v', rfl, ?_, ((Below.refl base w).alloc hb _).grown hgrow (by simp; omega) (fun k hk => (World.ownsRow.lt HO.out k hk).1)⟩
    unfold OwnBE
    rw [HE.out, List.length_append, cellsOf_append]
    have e8 : cellsOf [UInt8.ofNat n] = [.int .u8 (n : Int)] := by simp only [cellsOf, List.map, u8n n (show n < 256 by omega)]
    rw [e8]
    exact hown'
  · have i1 : ¬ (n : Int) ≤ 127 := by omega
    have HN := hidE (nonAscii_any n hs0 h1 base v l w HO.out hb hl)
    go_enter Tryz.func130, Tryz.ntmps130
    go_wp2_with (go_at_call 158; refine HN.out.mono ?_; rintro e w1 ⟨v', rfl, ho, hb1⟩)
    go_ret
    exact ⟨v', rfl, ho, hb1⟩
end Go.Proofs.YtlfeiadgahdgoaaGreatDoor
namespace Go.Proofs.YtlfeiadgahdgoaaGreatDoor
open Go.RowKit
/-- Numbers in memory, each where it is asked. -/
structure PA (w : World) (a : Option Addr) (ps : List Int) : Prop where
  at' : ∀ k (h : k < ps.length), ∃ b off, a = some ⟨b, off, none⟩ ∧ w.cell? ⟨b, off + k, none⟩ = some (.int .i64 ps[k])
theorem PA.later {w w' : World} {a : Option Addr} {ps : List Int} (h : PA w a ps) (hb : Below w.heap.size w w') : PA w' a ps := ⟨fun k hk => by
  obtain ⟨b, off, rfl, hc⟩ := h.at' k hk
  exact ⟨b, off, rfl, (hb.cell (p := ⟨b, off + k, none⟩) (World.block_lt_of_cell? w _ hc)).trans hc⟩⟩
def encAll (ps : List Int) : List UInt8 := ps.flatMap fun p => encL p.toNat
theorem encL_len (n : Nat) : (encL n).length ≤ 4 := by unfold encL; (repeat' split) <;> simp
theorem encAll_snoc (ps : List Int) (k : Nat) (hk : k < ps.length) : encAll (ps.take (k + 1)) = encAll (ps.take k) ++ encL ps[k].toNat := by
  rw [List.take_succ_eq_append_getElem hk, encAll, List.flatMap_append]
  simp [encAll]
theorem encAll_len (ps : List Int) : (encAll ps).length ≤ 4 * ps.length := by
  induction ps with
  | nil => simp [encAll]
  | cons p ps ih =>
    have := encL_len p.toNat
    rw [encAll, List.flatMap_cons, List.length_append, List.length_cons]
    rw [encAll] at ih
    omega
theorem toStrE {w : World} {base : Nat} {v : Value} {l : List UInt8} (h : OwnBE w base v l) : (convert 48 9 v).run Tryz.prog w = .ok (.string ⟨l.toArray⟩) w := by
  have h0 := h
  rcases h.2 with ⟨rfl, hn⟩ | ⟨g, cap, cur, rfl, _⟩
  · have : l = [] := List.length_eq_zero_iff.1 hn
    subst this
    rw [run_convert_bytes_string w 48 9 5 none 0 0 Tryz.underlying48 Tryz.underlying5 Tryz.underlying9]; rfl
  · refine run_convert_bytes_back (P := Tryz.prog) w 48 9 5 ⟨g, 0, none⟩ cap l Tryz.underlying48 Tryz.underlying5 Tryz.underlying9 (fun j hj => ?_)
    rw [Addr.add_lit, Nat.zero_add, World.ownsRow.cellAt h0 j (by omega)]
    simp [cellsOf, hj]
theorem OwnBE.later {w w' : World} {base : Nat} {v : Value} {l : List UInt8} (h : OwnBE w base v l) (hb : Below w.heap.size w w') : OwnBE w' base v l := by
  obtain ⟨h1, h2⟩ := h
  refine ⟨h1, ?_⟩
  rcases h2 with h2 | ⟨g, cap, cur, hv, hg, hh, r⟩
  · exact .inl h2
  · exact .inr ⟨g, cap, cur, hv, hg, (hb.block g (Array.getElem?_eq_some_iff.1 hh).1).trans hh, r⟩
/-- What Encode answers. -/
def encVal (ps : List Int) (ev : Value) : Value := if ps.all scalarP then .tuple #[.string ⟨(encAll ps).toArray⟩, .nilIface] else .tuple #[.string ⟨#[]⟩, ev]
theorem all_step (ps : List Int) (k : Nat) (hk : k < ps.length) : (ps.drop k).all scalarP = (scalarP ps[k] && (ps.drop (k + 1)).all scalarP) := by
  rw [List.drop_eq_getElem_cons hk, List.all_cons]
set_option maxRecDepth 10000 in
set_option maxHeartbeats 800000 in
theorem encode_any (ps : List Int) (a : Option Addr) (cap : Nat) (pe : Addr) (hl : ps.length ≤ 20000000) (w : World) (ha : PA w a ps) (hE : w.cell? ⟨2, 0, none⟩ = some (.iface 216 (.pointer (some pe)))) :
    Calls Tryz.prog 92 #[.slice a ps.length cap] w fun e w' => e = .returned (encVal ps (.iface 216 (.pointer (some pe)))) ∧ Below w.heap.size w w' := by
  have HA := hidE ha
  have HE := hidE hE
  have hpos : 2 < w.heap.size := World.block_lt_of_cell? w _ hE
  clear ha hE
  go_enter Tryz.func92, Tryz.ntmps92
  go_wp2
  go_loopw [4, 9] (fun v i wr => ∃ k : Nat, k ≤ ps.length ∧ i = .int .i64 (k : Int) ∧ OwnBE wr w.heap.size v (encAll (ps.take k)) ∧ (ps.all scalarP = (ps.drop k).all scalarP) ∧ Below w.heap.size w wr) (fun _ i _ => ps.length - (intOf i).toNat)
  case atStart => exact ⟨0, Nat.zero_le _, rfl, World.ownsRow_nil _ _ _ _, rfl, Below.refl _ _⟩
  case round =>
    obtain ⟨k, hk, rfl, hown, hall, hB⟩ := hrel
    have HO := hidE hown
    have HL := hidE hall
    clear hown hall
    by_cases hlt : k < ps.length
    · obtain ⟨b, off, rfl, hc⟩ := HA.out.at' k hlt
      have hck : wr.cell? ⟨b, off + k, none⟩ = some (.int .i64 ps[k]) := (hB.cell (p := ⟨b, off + k, none⟩) (World.block_lt_of_cell? w _ hc)).trans hc
      have HS := hidE (isScalar_any ps[k])
      have HT := hidE (all_step ps k hlt)
      have HN := hidE (encAll_snoc ps k hlt)
      have hlen := encAll_len (ps.take k)
      rw [List.length_take] at hlen
      have hki : (k : Int) < (ps.length : Int) := by omega
      clear hc
      cases hq : scalarP ps[k] with
      | false =>
        rw [hq] at HS HT
        have HV : Hid (encVal ps (.iface 216 (.pointer (some pe))) = .tuple #[.string ⟨#[]⟩, .iface 216 (.pointer (some pe))]) := by show _ = _; rw [encVal, HL.out, HT.out]; rfl
        have hev : wr.cell? ⟨2, 0, none⟩ = some (.iface 216 (.pointer (some pe))) := (hB.cell (p := ⟨2, 0, none⟩) hpos).trans HE.out
        generalize ps[k] = q at *
        clear HL HT HN HO hq
        go_wp2_with (go_at_call 129; refine (HS.out _).mono ?_; rintro e w1 ⟨rfl, rfl⟩)
        go_region
        all_goals go_wp2
        all_goals
          go_ret2
          exact ⟨by rw [HV.out]; rfl, hB.drew⟩
      | true =>
        rw [hq] at HS HT
        have HL2 : Hid (ps.all scalarP = (ps.drop (k + 1)).all scalarP) := by show _ = _; rw [HL.out, HT.out, Bool.true_and]
        have hq2 := hq
        simp only [scalarP, Bool.and_eq_true, Bool.or_eq_true, decide_eq_true_eq] at hq2
        obtain ⟨m, hm⟩ : ∃ m : Nat, ps[k] = (m : Int) := ⟨ps[k].toNat, by omega⟩
        rw [hm] at hck HS HN hq hq2
        rw [Int.toNat_natCast] at HN
        have HAp := hidE (appendRune_any m hq w.heap.size _ (encAll (ps.take k)) wr HO.out hB.size (by omega))
        clear HL HT HO hq hm
        go_wp2_with (first
          | (go_at_call 129; refine (HS.out _).mono ?_; rintro e w1 ⟨rfl, rfl⟩)
          | (go_at_call 130; refine HAp.out.mono ?_; rintro e w2 ⟨v2, rfl, ho2, hb2⟩; have HO2 := hidE ho2; have HB2 := hidE hb2; clear ho2 hb2)
          | fail)
        go_roundw
        case rel => exact ⟨k + 1, by omega, by go_num, by rw [HN.out]; exact HO2.out, HL2.out, hB.trans HB2.out⟩
        case measure => simp [intOf]; omega
    · have HV : Hid (encVal ps (.iface 216 (.pointer (some pe))) = .tuple #[.string ⟨(encAll ps).toArray⟩, .nilIface]) := by show _ = _; rw [encVal, HL.out, List.drop_of_length_le (by omega)]; rfl
      have hcv := toStrE HO.out
      rw [List.take_of_length_le (by omega)] at hcv
      have hki : ¬ (k : Int) < (ps.length : Int) := by omega
      go_wp2
      go_ret2
      exact ⟨by rw [HV.out]; rfl, hB⟩
end Go.Proofs.YtlfeiadgahdgoaaGreatDoor
namespace Go.Proofs.YtlfeiadgahdgoaaGreatDoor
open Go.RowKit
theorem o8 (n : Nat) (h : n < 256) : (UInt8.ofNat n).toNat = n := by rw [UInt8.toNat_ofNat']; omega
theorem good_enc (n : Nat) (hn : scalarP (n : Int) = true) (r : List UInt8) : goodOf (encL n ++ r) = some (n, (encL n).length) := by
  rw [← refGood_eq]
  have hs := (scalar_iff _).1 hn
  by_cases h1 : n < 128
  · have e := o8 n (by omega)
    rw [encL, if_pos h1, List.cons_append, List.nil_append, ref_cons _ _ 1 (size1 (by rw [e]; exact h1)), if_neg (by omega), if_neg (by omega), test1 _ _ (by rw [e]; exact h1), e]
    rfl
  · by_cases h2 : n < 2048
    · have e1 := o8 (192 + n / 64) (by omega)
      have e2 := o8 (128 + n % 64) (by omega)
      rw [encL, if_neg h1, if_pos h2, List.cons_append, List.cons_append, List.nil_append, ref_cons _ _ 2 (size2 (by omega) (by omega)), if_neg (by omega), if_neg (by simp), test2 _ _ _ (by omega) (by omega), if_pos (by omega)]
      have e : (ptL (UInt8.ofNat (192 + n / 64) :: UInt8.ofNat (128 + n % 64) :: r) (((UInt8.ofNat (192 + n / 64)).toNat : Int) - 192) 1).toNat = n := by
        have : ptL (UInt8.ofNat (192 + n / 64) :: UInt8.ofNat (128 + n % 64) :: r) (((UInt8.ofNat (192 + n / 64)).toNat : Int) - 192) 1 = (((UInt8.ofNat (192 + n / 64)).toNat : Int) - 192) * 64 + ((UInt8.ofNat (128 + n % 64)).toNat : Int) - 128 := by simp only [ptL]; rfl
        rw [this, e1, e2]; omega
      rw [e]; rfl
    · by_cases h3 : n < 65536
      · have e1 := o8 (224 + n / 4096) (by omega)
        have e2 := o8 (128 + n / 64 % 64) (by omega)
        have e3 := o8 (128 + n % 64) (by omega)
        rw [encL, if_neg h1, if_neg h2, if_pos h3, List.cons_append, List.cons_append, List.cons_append, List.nil_append, ref_cons _ _ 3 (size3 (by omega) (by omega)), if_neg (by omega), if_neg (by simp), test3 _ _ _ _ (by omega) (by omega), if_pos (by omega)]
        have e : (ptL (UInt8.ofNat (224 + n / 4096) :: UInt8.ofNat (128 + n / 64 % 64) :: UInt8.ofNat (128 + n % 64) :: r) (((UInt8.ofNat (224 + n / 4096)).toNat : Int) - 224) 2).toNat = n := by
          have : ptL (UInt8.ofNat (224 + n / 4096) :: UInt8.ofNat (128 + n / 64 % 64) :: UInt8.ofNat (128 + n % 64) :: r) (((UInt8.ofNat (224 + n / 4096)).toNat : Int) - 224) 2 = ((((UInt8.ofNat (224 + n / 4096)).toNat : Int) - 224) * 64 + ((UInt8.ofNat (128 + n / 64 % 64)).toNat : Int) - 128) * 64 + ((UInt8.ofNat (128 + n % 64)).toNat : Int) - 128 := by simp only [ptL]; rfl
          rw [this, e1, e2, e3]; omega
        rw [e]; rfl
      · have e1 := o8 (240 + n / 262144) (by omega)
        have e2 := o8 (128 + n / 4096 % 64) (by omega)
        have e3 := o8 (128 + n / 64 % 64) (by omega)
        have e4 := o8 (128 + n % 64) (by omega)
        rw [encL, if_neg h1, if_neg h2, if_neg h3, List.cons_append, List.cons_append, List.cons_append, List.cons_append, List.nil_append, ref_cons _ _ 4 (size4 (by omega) (by omega)), if_neg (by omega), if_neg (by simp), test4 _ _ _ _ _ (by omega) (by omega), if_pos (by omega)]
        have e : (ptL (UInt8.ofNat (240 + n / 262144) :: UInt8.ofNat (128 + n / 4096 % 64) :: UInt8.ofNat (128 + n / 64 % 64) :: UInt8.ofNat (128 + n % 64) :: r) (((UInt8.ofNat (240 + n / 262144)).toNat : Int) - 240) 3).toNat = n := by
          have : ptL (UInt8.ofNat (240 + n / 262144) :: UInt8.ofNat (128 + n / 4096 % 64) :: UInt8.ofNat (128 + n / 64 % 64) :: UInt8.ofNat (128 + n % 64) :: r) (((UInt8.ofNat (240 + n / 262144)).toNat : Int) - 240) 3 = (((((UInt8.ofNat (240 + n / 262144)).toNat : Int) - 240) * 64 + ((UInt8.ofNat (128 + n / 4096 % 64)).toNat : Int) - 128) * 64 + ((UInt8.ofNat (128 + n / 64 % 64)).toNat : Int) - 128) * 64 + ((UInt8.ofNat (128 + n % 64)).toNat : Int) - 128 := by simp only [ptL]; rfl
          rw [this, e1, e2, e3, e4]; omega
        rw [e]; rfl
theorem encL_pos (n : Nat) : 0 < (encL n).length := by unfold encL; (repeat' split) <;> simp
theorem unitsF_enc (ps : List Int) : ∀ (f k : Nat), (encAll ps).length ≤ f → ps.all scalarP = true → (unitsF f k (encAll ps)).map (·.1) = ps := by
  induction ps with
  | nil => intro f k _ _; cases f <;> rfl
  | cons p ps ih =>
    intro f k hf ha
    rw [List.all_cons, Bool.and_eq_true] at ha
    have hp := (scalar_iff _).1 ha.1
    obtain ⟨n, rfl⟩ : ∃ n : Nat, p = (n : Int) := ⟨p.toNat, by omega⟩
    have e : encAll ((n : Int) :: ps) = encL n ++ encAll ps := by rw [encAll, List.flatMap_cons]; rfl
    rw [e] at hf ⊢
    rw [List.length_append] at hf
    have hpos := encL_pos n
    have hu : uniOf (encL n ++ encAll ps) = ((n : Int), (encL n).length) := by rw [uniOf, good_enc n ha.1]
    obtain ⟨a, t, he⟩ : ∃ a t, encL n ++ encAll ps = a :: t := by
      cases h : encL n ++ encAll ps with
      | nil => have := congrArg List.length h; rw [List.length_append, List.length_nil] at this; omega
      | cons a t => exact ⟨a, t, rfl⟩
    obtain ⟨f', rfl⟩ : ∃ f', f = f' + 1 := ⟨f - 1, by omega⟩
    rw [he, unitsF, ← he, hu, List.map_cons]
    simp only
    rw [List.drop_left, ih f' _ (by omega) ha.2]
theorem units_enc (ps : List Int) (ha : ps.all scalarP = true) : (unitsOf (encAll ps)).map (·.1) = ps := by
  rw [unitsOf, unitsAt, List.drop_zero, Nat.sub_zero]
  exact unitsF_enc ps _ 0 (Nat.le_refl _) ha
end Go.Proofs.YtlfeiadgahdgoaaGreatDoor
namespace Go.Proofs.YtlfeiadgahdgoaaGreatDoor
open Go.RowKit Go.Shelf Go.Lib
/-- What stands for the first point, and what stands behind it. -/
def pntF (l : List UInt8) : Option (Nat × List UInt8) :=
  if (uniOf l).1 = 92 then escF l else if (uniOf l).1 = -1 ∨ (uniOf l).1 < 32 ∨ (uniOf l).1 = 127 then none else some ((uniOf l).1.toNat, l.drop (uniOf l).2)
theorem pre_len {l p : List UInt8} (h : Lib.hasPrefix l p = true) : (Lib.trimPrefix l p).length + p.length = l.length := by
  unfold Lib.trimPrefix
  rw [if_pos h]
  have := (List.isPrefixOf_iff_prefix.1 h).length_le
  simp
  omega
theorem escF_short {l r : List UInt8} {n : Nat} (h : escF l = some (n, r)) : r.length < l.length := by
  unfold escF at h
  split at h
  · rename_i c
    injection h with h; injection h with _ h
    rw [← h]
    have := pre_len c
    simp at this
    omega
  · split at h
    · rename_i c
      injection h with h; injection h with _ h
      rw [← h]
      have := pre_len c
      simp at this
      omega
    · split at h
      · rename_i c
        injection h with h; injection h with _ h
        rw [← h]
        have := pre_len c
        simp at this
        omega
      · unfold numF at h
        split at h
        · rename_i c
          injection h with h; injection h with _ h
          rw [← h]
          have h1 := pre_len c.1
          have h2 := (cut_le (Lib.trimPrefix l [92, 117, 123]) [125]).2
          unfold numC
          simp at h1
          omega
        · cases h
theorem pntF_short {l r : List UInt8} {n : Nat} (hl : l ≠ []) (h : pntF l = some (n, r)) : r.length < l.length := by
  unfold pntF at h
  split at h
  · exact escF_short h
  · split at h
    · cases h
    · injection h with h; injection h with _ h
      rw [← h]
      cases l with
      | nil => exact absurd rfl hl
      | cons a t =>
        have := uni_size a t
        simp only [List.length_drop, List.length_cons]
        omega
theorem escF_lt {l r : List UInt8} {n : Nat} (h : escF l = some (n, r)) : n < 16777216 := by
  unfold escF at h
  split at h
  · injection h with h; injection h with h _; omega
  · split at h
    · injection h with h; injection h with h _; omega
    · split at h
      · injection h with h; injection h with h _; omega
      · unfold numF at h
        split at h
        · rename_i c
          injection h with h; injection h with h _
          have h1 := hexN_lt (numC l).1 c.2.2.2.2
          have h2 : 16 ^ (numC l).1.length ≤ 16 ^ 6 := Nat.pow_le_pow_right (by omega) c.2.2.1
          omega
        · cases h
theorem pntF_lt {l r : List UInt8} {n : Nat} (hl : l ≠ []) (h : pntF l = some (n, r)) : n ≤ 100000000 := by
  unfold pntF at h
  split at h
  · have := escF_lt h; omega
  · split at h
    · cases h
    · injection h with h; injection h with h _
      cases l with
      | nil => exact absurd rfl hl
      | cons a t =>
        have := uni_bound a t
        omega
/-- All points of a written entry. -/
def pntsF : Nat → List UInt8 → Option (List Nat)
  | 0, _ => some []
  | f + 1, l => if l = [] then some [] else match pntF l with
    | none => none
    | some x => match pntsF f x.2 with
      | none => none
      | some ps => some (x.1 :: ps)
def pntsOf (l : List UInt8) : Option (List Nat) := pntsF l.length l
theorem pntsF_fuel : ∀ (f g : Nat) (l : List UInt8), l.length ≤ f → l.length ≤ g → pntsF f l = pntsF g l
  | 0, 0, _, _, _ => rfl
  | 0, g + 1, l, h, _ => by
    have : l = [] := List.length_eq_zero_iff.1 (by omega)
    subst this
    simp [pntsF]
  | f + 1, 0, l, _, h => by
    have : l = [] := List.length_eq_zero_iff.1 (by omega)
    subst this
    simp [pntsF]
  | f + 1, g + 1, l, hf, hg => by
    rw [pntsF, pntsF]
    by_cases hl : l = []
    · rw [if_pos hl, if_pos hl]
    · rw [if_neg hl, if_neg hl]
      cases hp : pntF l with
      | none => rfl
      | some x =>
        have := pntF_short (n := x.1) (r := x.2) hl hp
        simp only
        rw [pntsF_fuel f g x.2 (by omega) (by omega)]
theorem pnts_nil : pntsOf [] = some [] := rfl
theorem pnts_step {l : List UInt8} (hl : l ≠ []) : pntsOf l = match pntF l with
    | none => none
    | some x => match pntsOf x.2 with
      | none => none
      | some ps => some (x.1 :: ps) := by
  unfold pntsOf
  obtain ⟨m, hm⟩ : ∃ m, l.length = m + 1 := ⟨l.length - 1, by have := List.length_pos_iff.2 hl; omega⟩
  rw [hm, pntsF, if_neg hl]
  cases hp : pntF l with
  | none => rfl
  | some x =>
    have := pntF_short (n := x.1) (r := x.2) hl hp
    simp only
    rw [pntsF_fuel m x.2.length x.2 (by omega) (Nat.le_refl _)]
theorem pnts_len : ∀ (d : Nat) (l : List UInt8) (ps : List Nat), l.length ≤ d → pntsOf l = some ps → ps.length ≤ l.length
  | 0, l, ps, h, hp => by
    have : l = [] := List.length_eq_zero_iff.1 (by omega)
    subst this
    rw [pnts_nil] at hp
    injection hp with hp
    rw [← hp]
    simp
  | d + 1, l, ps, h, hp => by
    by_cases hl : l = []
    · subst hl
      rw [pnts_nil] at hp
      injection hp with hp
      rw [← hp]
      simp
    · rw [pnts_step hl] at hp
      cases hq : pntF l with
      | none => rw [hq] at hp; cases hp
      | some x =>
        rw [hq] at hp
        simp only at hp
        have hs := pntF_short (n := x.1) (r := x.2) hl hq
        cases hr : pntsOf x.2 with
        | none => rw [hr] at hp; cases hp
        | some qs =>
          rw [hr] at hp
          injection hp with hp
          have := pnts_len d x.2 qs (by omega) hr
          rw [← hp]
          simp
          omega
def toI (ps : List Nat) : List Int := ps.map (fun n : Nat => (n : Int))
/-- What a line makes of the sections: others, or the number of a refusal. -/
inductive Stp where
  | go (S : List Sec)
  | stop (i : Nat)
def headS (S : List Sec) (b : List UInt8) : Stp :=
  if Lib.hasSuffix b [93] = true then
    match tagF (Lib.trimS (Lib.trimSuffix b [93]) [32, 9]) with
    | none => .stop 1
    | some c => if S.length < 500 then (if hasL S (strOf c) = true then .stop 4 else .go (S ++ [⟨strOf c, ⟨#[]⟩, []⟩])) else .stop 2
  else .stop 1
def parS (S : List Sec) (b : List UInt8) : Stp :=
  if (Lib.trimLeftS b [32, 9]).length < b.length then
    match tagF (Lib.trimLeftS b [32, 9]) with
    | none => .stop 1
    | some c => match S.getLast? with
      | none => .stop 1
      | some s => if s.loc = ⟨#[114, 111, 111, 116]⟩ then .stop 0 else if s.par = ⟨#[]⟩ then (if s.ed.length = 0 then .go (S.dropLast ++ [⟨s.loc, strOf c, s.ed⟩]) else .stop 6) else .stop 4
  else .stop 1
def edS (S : List Sec) (add : Bool) (b : List UInt8) : Stp :=
  match pntsOf (Lib.trimLeftS b [32, 9]) with
  | none => .stop 1
  | some ps => if (toI ps).all scalarP = true ∧ 0 < ps.length then
      match S.getLast? with
      | none => .stop 1
      | some s => if ps.length ≤ 32 ∧ nEd S < 20000 then .go (S.dropLast ++ [⟨s.loc, s.par, s.ed ++ [(add, strOf (encAll (toI ps)))]⟩]) else .stop 2
    else .stop 1
def parW : List UInt8 := [112, 97, 114, 101, 110, 116]
def lineS (S : List Sec) (t : List UInt8) : Stp :=
  if t = [] then .go S
  else if Lib.hasPrefix t [91] = true then headS S (Lib.trimPrefix t [91])
  else if Lib.hasPrefix t parW = true then parS S (Lib.trimPrefix t parW)
  else if Lib.hasPrefix t [43] = true then edS S true (Lib.trimPrefix t [43])
  else if Lib.hasPrefix t [45] = true then edS S false (Lib.trimPrefix t [45])
  else .stop 1
def lineB (l : List UInt8) : List UInt8 := Lib.trimS (noC l) [32, 9]
def cutN (l : List UInt8) : List UInt8 := if (Lib.cut l [10]).2.2 = true then Lib.trimSuffix (Lib.cut l [10]).1 [13] else (Lib.cut l [10]).1
/-- What a file is read as: sections, or a line and the number of a refusal. -/
inductive PRes where
  | ok (S : List Sec)
  | stop (n i : Nat)
def parF : Nat → List Sec → Nat → List UInt8 → PRes
  | 0, S, _, _ => .ok S
  | f + 1, S, n, l => match lineS S (lineB (cutN l)) with
    | .stop i => .stop (n + 1) i
    | .go S' => if (Lib.cut l [10]).2.2 = true then parF f S' (n + 1) (Lib.cut l [10]).2.1 else .ok S'
def parA (S : List Sec) (n : Nat) (l : List UInt8) : PRes := parF (l.length + 1) S n l
def prsL (l : List UInt8) : PRes := parA [] 0 l
theorem cut_short {l : List UInt8} (h : (Lib.cut l [10]).2.2 = true) : (Lib.cut l [10]).2.1.length < l.length := by
  unfold Lib.cut at h ⊢
  split at h
  · rename_i h0
    rw [if_pos h0]
    have := index_room l [10] h0
    simp at this ⊢
    omega
  · cases h
theorem parF_fuel : ∀ (f g : Nat) (S : List Sec) (n : Nat) (l : List UInt8), l.length < f → l.length < g → parF f S n l = parF g S n l
  | 0, _, _, _, _, h, _ => absurd h (Nat.not_lt_zero _)
  | _ + 1, 0, _, _, _, _, h => absurd h (Nat.not_lt_zero _)
  | f + 1, g + 1, S, n, l, hf, hg => by
    rw [parF, parF]
    cases lineS S (lineB (cutN l)) with
    | stop i => rfl
    | go S' =>
      simp only
      by_cases h : (Lib.cut l [10]).2.2 = true
      · have := cut_short h
        rw [if_pos h, if_pos h, parF_fuel f g S' (n + 1) _ (by omega) (by omega)]
      · rw [if_neg h, if_neg h]
theorem parA_step (S : List Sec) (n : Nat) (l : List UInt8) : parA S n l = match lineS S (lineB (cutN l)) with
    | .stop i => .stop (n + 1) i
    | .go S' => if (Lib.cut l [10]).2.2 = true then parA S' (n + 1) (Lib.cut l [10]).2.1 else .ok S' := by
  unfold parA
  rw [parF]
  cases lineS S (lineB (cutN l)) with
  | stop i => rfl
  | go S' =>
    simp only
    by_cases h : (Lib.cut l [10]).2.2 = true
    · have := cut_short h
      rw [if_pos h, if_pos h, parF_fuel _ ((Lib.cut l [10]).2.1.length + 1) S' (n + 1) _ (by omega) (by omega)]
    · rw [if_neg h, if_neg h]
end Go.Proofs.YtlfeiadgahdgoaaGreatDoor
