/-
  Sections in memory; the walks of bundle's hasSection, countEdits in general.
-/
import Derived.Test.YtbdjnmbhphflbaaGreatDoorLt9W
namespace Go.Proofs.YtbdjnmbhphflbaaGreatDoor
open Go.RowKit Go.Shelf Go.Lib
/-- A section as it is given. -/
structure Sec where
  loc : ByteArray
  par : ByteArray
  ed : List (Bool × ByteArray)
/-- Edits in memory. -/
structure EA (w : World) (a : Option Addr) (L : List (Bool × ByteArray)) : Prop where
  at' : ∀ k (h : k < L.length), ∃ b off, a = some ⟨b, off, none⟩ ∧ b < w.heap.size ∧ w.cell? ⟨b, off + k * 2, none⟩ = some (.bool L[k].1) ∧ w.cell? ⟨b, off + k * 2 + 1, none⟩ = some (.string L[k].2)
theorem EA.later {w w' : World} {a : Option Addr} {L : List (Bool × ByteArray)} (h : EA w a L) (hb : Below w.heap.size w w') : EA w' a L := ⟨fun k hk => by
  obtain ⟨b, off, rfl, hl, h0, h1⟩ := h.at' k hk
  exact ⟨b, off, rfl, Nat.lt_of_lt_of_le hl hb.size, (hb.cell (p := ⟨b, off + k * 2, none⟩) hl).trans h0, (hb.cell (p := ⟨b, off + k * 2 + 1, none⟩) hl).trans h1⟩⟩
/-- Sections in memory. -/
structure XA (w : World) (a : Option Addr) (L : List Sec) : Prop where
  at' : ∀ k (h : k < L.length), ∃ b off ae ce, a = some ⟨b, off, none⟩ ∧ b < w.heap.size ∧ w.cell? ⟨b, off + k * 3, none⟩ = some (.string L[k].loc) ∧ w.cell? ⟨b, off + k * 3 + 1, none⟩ = some (.string L[k].par) ∧ w.cell? ⟨b, off + k * 3 + 2, none⟩ = some (.slice ae L[k].ed.length ce) ∧ EA w ae L[k].ed
theorem XA.later {w w' : World} {a : Option Addr} {L : List Sec} (h : XA w a L) (hb : Below w.heap.size w w') : XA w' a L := ⟨fun k hk => by
  obtain ⟨b, off, ae, ce, rfl, hl, h0, h1, h2, h3⟩ := h.at' k hk
  exact ⟨b, off, ae, ce, rfl, Nat.lt_of_lt_of_le hl hb.size, (hb.cell (p := ⟨b, off + k * 3, none⟩) hl).trans h0, (hb.cell (p := ⟨b, off + k * 3 + 1, none⟩) hl).trans h1, (hb.cell (p := ⟨b, off + k * 3 + 2, none⟩) hl).trans h2, h3.later hb⟩⟩
theorem XA.take {w : World} {a : Option Addr} {L : List Sec} (h : XA w a L) (n : Nat) : XA w a (L.take n) := ⟨fun k hk => by
  have hk2 : k < L.length := by rw [List.length_take] at hk; omega
  rw [List.getElem_take]
  exact h.at' k hk2⟩
set_option maxRecDepth 10000 in
set_option maxHeartbeats 400000 in
theorem same_loc (l p t : ByteArray) (v : Value) (g : Nat) (w : World) (hg : w.cell? ⟨g, 0, none⟩ = some (.string t)) :
    Calls Tryz.prog 70 #[.agg #[.string l, .string p, v], .pointer (some ⟨g, 0, none⟩)] w fun e w' => e = .returned (.bool (decide (l = t))) ∧ Below w.heap.size w w' := by
  have hgl := World.block_lt_of_cell? w _ hg
  have HB : Hid (Below w.heap.size w (w.alloc (.cells #[.string l, .string p, v] 27))) := hid0 ((Below.refl _ _).alloc (Nat.le_refl _) _)
  have y0 : (w.alloc (.cells #[.string l, .string p, v] 27)).cell? ⟨g, 0, none⟩ = some (.string t) := (HB.out.cell hgl).trans hg
  go_enter Tryz.func70, Tryz.ntmps70
  have hse := str_eq l t
  generalize decide (l = t) = d at *
  go_wp2
  go_ret
  exact ⟨by simp, HB.out⟩
/-- Does one of them have that locale? -/
def hasL (L : List Sec) (t : ByteArray) : Bool := L.any fun s => decide (s.loc = t)
theorem hasL_iff (L : List Sec) (t : ByteArray) : hasL L t = true ↔ ∃ k, ∃ h : k < L.length, L[k].loc = t := by
  unfold hasL
  rw [List.any_eq_true]
  constructor
  · rintro ⟨s, hs, h⟩
    obtain ⟨k, hk, rfl⟩ := List.getElem_of_mem hs
    exact ⟨k, hk, of_decide_eq_true h⟩
  · rintro ⟨k, hk, h⟩
    exact ⟨L[k], List.getElem_mem hk, decide_eq_true h⟩
set_option maxRecDepth 10000 in
set_option maxHeartbeats 800000 in
theorem index_loc (L : List Sec) (a : Option Addr) (ca : Nat) (t : ByteArray) (g : Nat) (w : World) (hl : L.length ≤ 1000000) (ha : XA w a L) (hg : w.cell? ⟨g, 0, none⟩ = some (.string t)) :
    Calls Tryz.prog 49 #[.slice a L.length ca, .func (.func 70) #[] #[.pointer (some ⟨g, 0, none⟩)]] w fun e w' => (∃ r : Int, e = .returned (.int .i64 r) ∧ (0 ≤ r ↔ hasL L t = true)) ∧ Below w.heap.size w w' := by
  have hgl := World.block_lt_of_cell? w _ hg
  have HG : Hid (∀ W, Below w.heap.size w W → W.cell? ⟨g, 0, none⟩ = some (.string t)) := hid0 (fun W hW => (hW.cell (p := ⟨g, 0, none⟩) hgl).trans hg)
  have HA := hid0 ha
  have HB0 := hid0 (Below.refl w.heap.size w)
  clear ha hg hgl
  go_enter Tryz.func49, Tryz.ntmps49
  go_wp2
  go_loopw [8] (fun v wr => ∃ i : Nat, i ≤ L.length ∧ v = .int .i64 (i : Int) ∧ Hid (∀ k (h : k < L.length), k < i → L[k].loc ≠ t) ∧ Hid (Below w.heap.size w wr)) (fun v _ => L.length - (intOf v).toNat)
  case atStart => exact ⟨0, Nat.zero_le _, rfl, hid0 (fun k _ h => absurd h (Nat.not_lt_zero _)), HB0⟩
  case round =>
    obtain ⟨i, hi, rfl, HN, HB⟩ := hrel
    by_cases hlt : i < L.length
    · have hiI : (i : Int) < (L.length : Int) := by omega
      have hi0 : (0 : Int) ≤ (i : Int) := by omega
      obtain ⟨b, off, ae, ce, rfl, hbl, c0, c1, c2, _⟩ := (HA.out.later HB.out).at' i hlt
      have HS := hid0 (same_loc L[i].loc L[i].par t (.slice ae L[i].ed.length ce) g wr (HG.out _ HB.out))
      have HD : Hid (L[i].loc = t → hasL L t = true) := hid0 (fun h => (hasL_iff L t).2 ⟨i, hlt, h⟩)
      have HN2 : Hid (L[i].loc ≠ t → ∀ k (h : k < L.length), k < i + 1 → L[k].loc ≠ t) := hid0 (fun hne k h hk => by
        by_cases e : k = i
        · subst e; exact hne
        · exact HN.out k h (by omega))
      generalize L[i].loc = l at *
      generalize L[i].par = p at *
      generalize L[i].ed.length = n at *
      cases hd : decide (l = t) with
      | true =>
        rw [hd] at HS
        have HV := hid0 (HD.out (of_decide_eq_true hd))
        clear HD HN2 HN hd
        go_wp2_with (go_at_call 70; refine HS.out.mono ?_; rintro e w1 ⟨rfl, hb1⟩; have HB1 := hid0 (HB.out.trans (hb1.mono HB.out.size)); clear hb1)
        go_ret
        exact ⟨⟨_, rfl, by simp [HV.out]⟩, HB1.out⟩
      | false =>
        rw [hd] at HS
        have HV := hid0 (HN2.out (of_decide_eq_false hd))
        clear HD HN2 HN hd
        go_wp2_with (go_at_call 70; refine HS.out.mono ?_; rintro e w1 ⟨rfl, hb1⟩; have HB1 := hid0 (HB.out.trans (hb1.mono HB.out.size)); clear hb1)
        go_roundw
        case rel => exact ⟨i + 1, by omega, by go_num, HV, HB1⟩
        case measure => simp [intOf]; omega
    · have hiI : ¬ (i : Int) < (L.length : Int) := by omega
      have HV : Hid (hasL L t = false) := hid0 (by
        rw [Bool.eq_false_iff]
        intro h
        obtain ⟨k, hk, e⟩ := (hasL_iff L t).1 h
        exact HN.out k hk (by omega) e)
      clear HN HA
      go_wp2
      go_ret
      exact ⟨⟨-1, rfl, by simp [HV.out]⟩, HB.out⟩
set_option maxRecDepth 10000 in
set_option maxHeartbeats 400000 in
theorem contains_loc (L : List Sec) (a : Option Addr) (ca : Nat) (t : ByteArray) (g : Nat) (w : World) (hl : L.length ≤ 1000000) (ha : XA w a L) (hg : w.cell? ⟨g, 0, none⟩ = some (.string t)) :
    Calls Tryz.prog 69 #[.slice a L.length ca, .func (.func 70) #[] #[.pointer (some ⟨g, 0, none⟩)]] w fun e w' => e = .returned (.bool (hasL L t)) ∧ Below w.heap.size w w' := by
  have H := hid0 (index_loc L a ca t g w hl ha hg)
  go_enter Tryz.func69, Tryz.ntmps69
  go_wp2_with (go_at_call 49; refine H.out.mono ?_; rintro e w1 ⟨⟨r, rfl, hr⟩, hb⟩)
  go_ret
  refine ⟨?_, hb⟩
  cases hq : hasL L t <;> simp [hq] at hr ⊢ <;> omega
set_option maxRecDepth 10000 in
set_option maxHeartbeats 400000 in
theorem has_any (L : List Sec) (a : Option Addr) (ca : Nat) (t : ByteArray) (w : World) (hl : L.length ≤ 1000000) (ha : XA w a L) :
    Calls Tryz.prog 53 #[.slice a L.length ca, .string t] w fun e w' => e = .returned (.bool (hasL L t)) ∧ Below w.heap.size w w' := by
  have HB : Hid (Below w.heap.size w (w.alloc (.cells #[.string t] 9))) := hid0 ((Below.refl _ _).alloc (Nat.le_refl _) _)
  have H := hid0 (contains_loc L a ca t w.heap.size (w.alloc (.cells #[.string t] 9)) hl (ha.later HB.out) (by rw [cell_of_row _ _ _ _ _ _ (heap_alloc_new w (.cells #[.string t] 9))]; rfl))
  clear ha
  go_enter Tryz.func53, Tryz.ntmps53
  go_wp2_with (go_at_call 69; refine H.out.mono ?_; rintro e w1 ⟨rfl, hb⟩; have HB1 := hid0 (HB.out.trans (hb.mono HB.out.size)))
  go_ret
  exact ⟨rfl, HB1.out⟩
/-- How many edits. -/
def nEd (L : List Sec) : Nat := (L.map fun s => s.ed.length).sum
theorem nEd_more (L : List Sec) (k : Nat) (h : k < L.length) : nEd (L.take (k + 1)) = nEd (L.take k) + L[k].ed.length := by
  have e : L.take (k + 1) = L.take k ++ [L[k]] := by rw [List.take_add_one, List.getElem?_eq_getElem h]; rfl
  unfold nEd
  rw [e, List.map_append, List.sum_append]
  simp
theorem nEd_le (c : Nat) (L : List Sec) (hb : ∀ s ∈ L, s.ed.length ≤ c) : ∀ k, nEd (L.take k) ≤ k * c
  | 0 => by simp [nEd]
  | k + 1 => by
    have ih := nEd_le c L hb k
    rw [Nat.succ_mul]
    by_cases h : k < L.length
    · rw [nEd_more L k h]
      have := hb L[k] (List.getElem_mem h)
      omega
    · rw [List.take_of_length_le (by omega)] at ih ⊢
      omega
set_option maxRecDepth 10000 in
set_option maxHeartbeats 800000 in
theorem count_any (L : List Sec) (a : Option Addr) (ca : Nat) (w : World) (hl : L.length ≤ 500) (hb : ∀ s ∈ L, s.ed.length ≤ 140737488355328) (ha : XA w a L) :
    Calls Tryz.prog 32 #[.slice a L.length ca] w fun e w' => e = .returned (.int .i64 (nEd L : Nat)) ∧ Below w.heap.size w w' := by
  have HA := hid0 ha
  have HN := hid0 (nEd_le 140737488355328 L hb)
  have HB0 := hid0 (Below.refl w.heap.size w)
  have HL : Hid (∀ k (h : k < L.length), L[k].ed.length ≤ 140737488355328) := hid0 (fun k h => hb _ (List.getElem_mem h))
  clear ha hb
  go_enter Tryz.func32, Tryz.ntmps32
  go_wp2
  go_loopw [3, 8] (fun v t wr => ∃ i : Nat, i ≤ L.length ∧ v = .int .i64 (nEd (L.take i) : Nat) ∧ t = .int .i64 (i : Int) ∧ Hid (Below w.heap.size w wr)) (fun _ t _ => L.length - (intOf t).toNat)
  case atStart => exact ⟨0, Nat.zero_le _, rfl, rfl, HB0⟩
  case round =>
    obtain ⟨i, hi, rfl, rfl, HB⟩ := hrel
    by_cases hlt : i < L.length
    · have hiI : (i : Int) < (L.length : Int) := by omega
      have hi0 : (0 : Int) ≤ (i : Int) := by omega
      obtain ⟨b, off, ae, ce, rfl, hbl, c0, c1, c2, _⟩ := (HA.out.later HB.out).at' i hlt
      have HM := hid0 (nEd_more L i hlt)
      have z1 := HN.out i
      have z2 := HL.out i hlt
      have hsum : IntKind.i64.wrap ((nEd (L.take i) : Int) + (L[i].ed.length : Int)) = (nEd (L.take i) : Int) + (L[i].ed.length : Int) := IntWalk.i64_in _ (by omega)
      have HBo := hid0 (fun o => HB.out.alloc HB.out.size o)
      generalize nEd (L.take i) = x at *
      generalize L[i].loc = l at *
      generalize L[i].par = p at *
      generalize L[i].ed.length = n at *
      go_wp2
      go_roundw
      case rel => exact ⟨i + 1, by omega, by rw [HM.out]; go_num, by go_num, HBo.out _⟩
      case measure => simp [intOf]; omega
    · have hiI : ¬ (i : Int) < (L.length : Int) := by omega
      have HE : Hid (nEd (L.take i) = nEd L) := hid0 (by rw [List.take_of_length_le (by omega)])
      go_wp2
      go_ret
      exact ⟨congrArg (fun n : Nat => Ending.returned (.int .i64 (n : Int))) HE.out, HB.out⟩
end Go.Proofs.YtbdjnmbhphflbaaGreatDoor
