/-
  LrM, LrTW, LrEW, LrBW.
-/
import Derived.Test.YtbdjnmbhphflbaaGreatDoorLdOW
import Derived.Maps.OwnSet
import Derived.Maps.RangeWalk
import Derived.Sort.KeysCollected
import Derived.Sort.OwnSorted
import Derived.Test.YtbdjnmbhphflbaaGreatDoorShelfT
import Derived.RangeFuncNested
import Derived.RangeFuncBound
import Derived.RangeFuncCalls
import Derived.RangeFuncLeaves
import Derived.RangeFuncBox
namespace Go.Proofs.YtbdjnmbhphflbaaGreatDoor
open Go.RowKit Go.Shelf Go.Lib Go.Maps
/-- What the last edit of an entry says of it. -/
def lastE (eds : List (Bool × ByteArray)) (x : ByteArray) : Option Bool := eds.foldl (fun o e => if e.2 = x then some e.1 else o) none
theorem lastE_snoc (eds : List (Bool × ByteArray)) (e : Bool × ByteArray) (x : ByteArray) : lastE (eds ++ [e]) x = if e.2 = x then some e.1 else lastE eds x := by
  unfold lastE
  rw [List.foldl_append]
  rfl
def keyB (x : ByteArray) : Lit := .string x.data.toList
theorem keyB_inj {x y : ByteArray} (h : keyB x = keyB y) : x = y := by
  unfold keyB at h
  injection h with h
  exact ByteArray.ext (Array.toList_inj.1 h)
/-- How an outcome reads. -/
def outElem (v : Value) : Option (DataW Unit × List MemPlace) := match v with
  | .agg ⟨[.bool x]⟩ => some (.lit (.bool x), [])
  | _ => none
theorem outElem_mk (x : Bool) : outElem (.agg #[.bool x]) = some (.lit (.bool x), []) := rfl
theorem outElem_inv {v : Value} {y : DataW Unit × List MemPlace} (h : outElem v = some y) : ∃ c : Bool, v = .agg #[.bool c] ∧ y = (.lit (.bool c), []) := by
  unfold outElem at h
  split at h
  · rename_i x
    cases h
    exact ⟨x, rfl, rfl⟩
  · cases h
theorem lawK : Keyed Tryz.prog 9 := string_keyed Tryz.underlying9
/-- Does a datum say of every entry what the last edit says? -/
def Says (D : DataW Unit) (eds : List (Bool × ByteArray)) : Prop := ∀ x : ByteArray, Maps.has D (keyB x) = (lastE eds x).isSome ∧ ∀ b, lastE eds x = some b → ∀ z, D.atKey (keyB x) z = .lit (.bool b)
theorem says_nil : Says (.map []) [] := fun x => ⟨rfl, fun b h => by cases h⟩
theorem says_put {D : DataW Unit} {eds : List (Bool × ByteArray)} (h : Says D eds) (hD : IsMap D) (e : Bool × ByteArray) (hk : WideAt.IsKeyLit (keyB e.2)) : Says (D.put (keyB e.2) (.lit (.bool e.1))) (eds ++ [e]) := fun x => by
  rw [lastE_snoc]
  by_cases hx : e.2 = x
  · subst hx
    rw [if_pos rfl]
    exact ⟨by rw [has_put_same hD hk]; rfl, fun b hb z => by cases hb; exact atKey_put_same hD hk _ z⟩
  · rw [if_neg hx]
    have hne : keyB x ≠ keyB e.2 := fun he => hx (keyB_inj he).symm
    exact ⟨by rw [has_put_other hne]; exact (h x).1, fun b hb z => by rw [atKey_put_other hne]; exact (h x).2 b hb z⟩
/-- The block B is a map of at most n entries that says what the edits come to. -/
def MapIs (w : World) (B n : Nat) (eds : List (Bool × ByteArray)) : Prop := ∃ D, w.ownsMap Tryz.prog 9 outElem B n D ∧ Says D eds
end Go.Proofs.YtbdjnmbhphflbaaGreatDoor
namespace Go.Proofs.YtbdjnmbhphflbaaGreatDoor
open Go.RowKit Go.Shelf Go.Lib Go.Maps
theorem keyB_is (x : ByteArray) : WideAt.IsKeyLit (keyB x) := trivial
theorem EA.grownM {w w' : World} {a : Option Addr} {L eds : List (Bool × ByteArray)} {B n : Nat} (h : EA w a L) (hm : MapIs w B n eds) (hg : w.grownBy w' (some B)) : EA w' a L := ⟨fun k hk => by
  obtain ⟨b, off, e, hl, h0, h1⟩ := h.at' k hk
  obtain ⟨D, ⟨es, clock, hb, _⟩, _⟩ := hm
  have hne : some b ≠ some B := fun e => by
    cases e
    unfold World.cell? at h0
    rw [hb] at h0
    simp at h0
  have hb' := hg.block b hl hne
  exact ⟨b, off, e, Nat.lt_of_lt_of_le hl hg.size, (World.cell?_of_block (a := ⟨b, off + k * 2, none⟩) hb').trans h0, (World.cell?_of_block (a := ⟨b, off + k * 2 + 1, none⟩) hb').trans h1⟩⟩
set_option maxRecDepth 10000 in
set_option maxHeartbeats 800000 in
theorem take_any (ed eds : List (Bool × ByteArray)) (a : Option Addr) (ca B n : Nat) (w : World) (hl : ed.length ≤ 1000000000) (hn : n ≤ 1000000000000) (hz : ∀ e ∈ ed, e.2.size ≤ 140737488355328) (ha : EA w a ed) (hm : MapIs w B n eds) :
    Calls Tryz.prog 29 #[.map (some B), .slice a ed.length ca] w fun e w' => (∃ v, e = .returned v) ∧ MapIs w' B (n + ed.length) (eds ++ ed) ∧ w.grownBy w' (some B) := by
  have HA := hid0 (fun wr (hg : w.grownBy wr (some B)) => ha.grownM hm hg)
  have HM := hid0 hm
  have HZ := hid0 hz
  clear ha hm hz
  go_enter Tryz.func29, Tryz.ntmps29
  go_wp2
  go_loopw [8] (fun i wr => ∃ k : Nat, k ≤ ed.length ∧ i = .int .i64 (k : Int) ∧ Hid (MapIs wr B (n + k) (eds ++ ed.take k)) ∧ Hid (w.grownBy wr (some B))) (fun i _ => ed.length - (intOf i).toNat)
  case atStart => exact ⟨0, Nat.zero_le _, rfl, hid0 (by rw [List.take_zero, List.append_nil]; exact HM.out), hid0 ⟨rfl, rfl, rfl, Nat.le_refl _, fun _ _ _ => rfl⟩⟩
  case round =>
    obtain ⟨k, hk, rfl, HMk, HGk⟩ := hrel
    by_cases hlt : k < ed.length
    · obtain ⟨b, off, rfl, hbl, c0, c1⟩ := (HA.out wr HGk.out).at' k hlt
      have hkI : (k : Int) < (ed.length : Int) := by omega
      have hkI0 : (0 : Int) ≤ (k : Int) := by omega
      have hsz := HZ.out ed[k] (List.getElem_mem hlt)
      have HTk : Hid (ed.take (k + 1) = ed.take k ++ [ed[k]]) := hid0 (by rw [List.take_add_one, List.getElem?_eq_getElem hlt]; rfl)
      generalize ed[k] = e at *
      obtain ⟨eb, es⟩ := e
      simp only at c0 c1 hsz
      obtain ⟨D, hD, hsay⟩ := HMk.out
      have HD := hid0 hD
      have HSy := hid0 hsay
      clear hbl hD hsay
      go_wp2_with (first
        | (at_mapUpdate; go_loud ((
            refine wpList_mapUpdate_own _ rfl _ _ _ 62 rfl 9 82 lawK Tryz.underlying62 outElem B (n + k) D rfl (HD.out.alloc _) (by unfold maxLen; omega) (.string es) (.agg #[.bool eb]) (keyB es) rfl rfl (Go.WideMaps.keyOf_string_mk Tryz.underlying9 (by unfold maxLen; omega)) (.lit (.bool eb)) [] (outElem_mk eb) ?_
            intro w1 hown1 hgrow1
            have HO1 := hid0 hown1
            have HG1 : Hid (w.grownBy w1 (some B)) := hid0 ((HGk.out.trans (World.grownBy_alloc wr _ _)).trans hgrow1)
            clear hown1 hgrow1)))
        | fail)
      have HMN : Hid (MapIs w1 B (n + (k + 1)) (eds ++ ed.take (k + 1))) := hid0 ⟨_, HO1.out, by rw [HTk.out, ← List.append_assoc]; exact says_put HSy.out HD.out.isMap (eb, es) (keyB_is es)⟩
      clear HO1 HD HSy HMk
      go_wp2
      go_roundw
      case rel => exact ⟨k + 1, hlt, by go_num, HMN, HG1⟩
      case measure => simp [intOf]; omega
    · have hkI : ¬ (k : Int) < (ed.length : Int) := by omega
      have HE : Hid (MapIs wr B (n + ed.length) (eds ++ ed)) := hid0 (by
        have h := HMk.out
        rw [List.take_of_length_le (by omega), show k = ed.length by omega] at h
        exact h)
      go_wp2
      go_returns
      exact ⟨⟨_, rfl⟩, HE.out, HGk.out⟩
end Go.Proofs.YtbdjnmbhphflbaaGreatDoor
namespace Go.Proofs.YtbdjnmbhphflbaaGreatDoor
open Go.RowKit Go.Shelf Go.Lib Go.Maps Go.Sort
/-- The sort's contract. -/
def SortS : Prop := ∀ (blk off cap : Nat) (ss : List (List UInt8)) (w : World), Holds encStr w blk off ss.toArray → blk < w.heap.size → ss.length < 4611686018427387904 →
  Calls Tryz.prog 51 #[.slice (some ⟨blk, off, none⟩) ss.length cap] w fun e w' => e = .returned (.tuple #[]) ∧ ∃ n os, w' = grow (putRow encStr (Sort.ahead w n) blk off (ss.mergeSort fun x y => decide (x ≤ y)).toArray) os
/-- What is collected of the entries that have come: those that are there. -/
def Coll (D : DataW Unit) (left : Lit → Bool) (ss : List (List UInt8)) : Prop := ss.Nodup ∧ ∀ x, x ∈ ss ↔ (Maps.has D (.string x) = true ∧ left (.string x) = false ∧ D.atKey (.string x) .nil = .lit (.bool true))
theorem same_str (x y : List UInt8) : (Lit.string x).sameKey (.string y) = decide (x = y) := by
  by_cases h : x = y
  · subst h
    rw [WideAt.sameKey_self (a := .string x) trivial]
    simp
  · rw [Maps.sameKey_ne (fun e => h (by injection e))]
    simp [h]
theorem coll_start (D : DataW Unit) : Coll D (Maps.has D) [] := ⟨List.nodup_nil, fun x => by cases Maps.has D (.string x) <;> simp⟩
theorem coll_yes {D : DataW Unit} {left : Lit → Bool} {ss : List (List UInt8)} (h : Coll D left ss) {x : List UInt8} (hlk : left (.string x) = true) (hat : ∀ z, D.atKey (.string x) z = .lit (.bool true)) : Coll D (fun z => left z && !z.sameKey (.string x)) (ss ++ [x]) := by
  refine ⟨List.nodup_append.2 ⟨h.1, by simp, fun a ha b hb => ?_⟩, fun y => ?_⟩
  · rw [List.mem_singleton] at hb
    subst hb
    intro e
    subst e
    have := ((h.2 a).1 ha).2.1
    rw [hlk] at this
    cases this
  · rw [List.mem_append, List.mem_singleton, h.2 y]
    simp only [same_str]
    by_cases e : y = x
    · subst e
      simp [Maps.has_true_of_atKey hat, hat]
    · simp [e]
theorem coll_no {D : DataW Unit} {left : Lit → Bool} {ss : List (List UInt8)} (h : Coll D left ss) {x : List UInt8} (hlk : left (.string x) = true) (hat : ∀ z, D.atKey (.string x) z = .lit (.bool false)) : Coll D (fun z => left z && !z.sameKey (.string x)) ss := by
  refine ⟨h.1, fun y => ?_⟩
  rw [h.2 y]
  simp only [same_str]
  by_cases e : y = x
  · subst e
    simp [hlk, hat]
  · simp [e]
theorem mapSize_le {w : World} {B n : Nat} {D : DataW Unit} (h : w.ownsMap Tryz.prog 9 outElem B n D) : Maps.size D ≤ n := by
  obtain ⟨es, c, h1, F, hle, rfl⟩ := h
  rw [Maps.size_eq, length_sorted, List.length_map]
  simpa using hle
/-- A rising list of texts. -/
def Rising (l : List ByteArray) : Prop := l.Pairwise fun x y => x.data.toList < y.data.toList
def bytesOf (l : List UInt8) : ByteArray := ⟨l.toArray⟩
theorem bytesOf_data (l : List UInt8) : (bytesOf l).data.toList = l := by simp [bytesOf]
theorem rising_sort (ss : List (List UInt8)) (h : ss.Nodup) : Rising ((ss.mergeSort fun x y => decide (x ≤ y)).map bytesOf) := by
  unfold Rising
  rw [List.pairwise_map]
  have h1 : (ss.mergeSort fun x y => decide (x ≤ y)).Pairwise fun x y => x ≤ y := by
    have := List.pairwise_mergeSort (le := fun x y : List UInt8 => decide (x ≤ y)) (fun a b c hab hbc => by simp only [decide_eq_true_eq] at *; exact List.le_trans hab hbc) (fun a b => by simp only [Bool.or_eq_true, decide_eq_true_eq]; exact List.le_total a b) ss
    exact this.imp (fun h => by simpa using h)
  have h2 : (ss.mergeSort fun x y => decide (x ≤ y)).Nodup := (List.mergeSort_perm ss _).nodup_iff.2 h
  refine (h1.and h2).imp (fun {x y} ⟨hle, hne⟩ => ?_)
  rw [bytesOf_data, bytesOf_data]
  exact Std.lt_of_le_of_ne hle hne
theorem mem_sort (ss : List (List UInt8)) (x : ByteArray) : x ∈ (ss.mergeSort fun x y => decide (x ≤ y)).map bytesOf ↔ x.data.toList ∈ ss := by
  rw [List.mem_map]
  constructor
  · rintro ⟨l, hl, rfl⟩
    rw [bytesOf_data]
    exact (List.mergeSort_perm ss _).mem_iff.1 hl
  · intro h
    exact ⟨x.data.toList, (List.mergeSort_perm ss _).mem_iff.2 h, ByteArray.ext (by simp [bytesOf])⟩
set_option maxRecDepth 10000 in
set_option maxHeartbeats 800000 in
theorem sort_nil (w : World) : Calls Tryz.prog 51 #[.slice none 0 0] w fun e w' => e = .returned (.tuple #[]) ∧ Below w.heap.size w w' := by
  go_enter Tryz.func51, Tryz.ntmps51
  go_wp2
  go_rounds 1
  go_rounds 1
  go_returns
  exact ⟨rfl, Below.refl _ _⟩
set_option maxRecDepth 10000 in
set_option maxHeartbeats 1600000 in
theorem entries_any (hS : SortS) (eds : List (Bool × ByteArray)) (B n : Nat) (w : World) (hn : n ≤ 1000000000000) (hBw : B < w.heap.size) (hm : MapIs w B n eds) :
    Calls Tryz.prog 31 #[.map (some B)] w fun e w' => (∃ v l, e = .returned v ∧ OwnS w' w.heap.size v l ∧ Rising l ∧ ∀ x, x ∈ l ↔ lastE eds x = some true) ∧ Below w.heap.size w w' := by
  obtain ⟨i0, hi, hz0, hz1, hz2⟩ := info_parts infoStr
  obtain ⟨D, hown, hsay⟩ := hm
  have hsz := mapSize_le hown
  have HSy := hid0 hsay
  have HST := hid0 hS
  clear hsay hS
  go_enter Tryz.func31, Tryz.ntmps31
  go_wp2_with (first
    | (at_range; refine wpList_range_own _ rfl _ 62 rfl 9 82 lawK Tryz.underlying62 _ B n _ rfl hown ?_; intro w0 hrg0 hg0 hs0)
    | fail)
  go_frame
  have hB0 : Below w.heap.size w w0 := below_grown hg0
  go_loopw [3] (fun v wr => ∃ (left : Lit → Bool) (cnt : Nat) (ss : List (List UInt8)), wr.ranges Tryz.prog 9 outElem B w.heap.size n D left cnt ∧ ss.length + cnt ≤ n ∧ wr.ownsRow w.heap.size 9 1 v ss.length (ss.map encStr) ∧ Coll D left ss ∧ Below w.heap.size w wr) (fun _ wr => wr.rangeLeft B w.heap.size)
  case atStart => exact ⟨_, _, [], hrg0, by simpa using hsz, World.ownsRow_nil _ _ _ _, coll_start D, hB0⟩
  case round =>
    obtain ⟨left, cnt, ss, hrg, hcs, hrow, hC, hnx⟩ := hrel
    go_wp2_with (first
      | (at_next; refine wpList_next_ranges _ rfl _ rfl 9 lawK outElem encStr (fun c : Nat => .agg #[.bool (c == 0)]) (fun key kl hk => by obtain ⟨x, hx, _⟩ := Maps.keyOf_str Tryz.underlying9 hk; exact ⟨x, hx⟩) (fun v y hv => by obtain ⟨c, rfl, _⟩ := outElem_inv hv; exact ⟨if c then 0 else 1, by cases c <;> rfl⟩) B w.heap.size n _ _ _ rfl hrg ?_ ?_)
      | fail)
    · intro hc0 hl0
      have HC := hid0 hC
      have HL0 := hid0 hl0
      rcases hrow.2 with ⟨rfl, hnil⟩ | ⟨g, cap, cur, rfl, hbase, hb, h1, h2, h3, h4⟩
      · have hss : ss = [] := List.length_eq_zero_iff.1 hnil
        subst hss
        have HNx := hid0 hnx
        have HN := hid0 (sort_nil wr)
        have HV : Hid (∀ x, x ∈ ([] : List ByteArray) ↔ lastE eds x = some true) := hid0 (fun x => by
          refine ⟨fun h => (by cases h), fun h => ?_⟩
          have h1 := (HC.out.2 x.data.toList).2 ⟨by rw [show Lit.string x.data.toList = keyB x from rfl, (HSy.out x).1, h]; rfl, HL0.out _, (HSy.out x).2 true h _⟩
          cases h1)
        clear hrow hrg hnx hC hl0 hc0 hcs hrg0 hown hg0 hs0 hB0
        go_wp2_with (go_at_call 51; refine HN.out.mono ?_; rintro e w5 ⟨rfl, hb5⟩; have HB5 := hid0 (Below.later HNx.out hb5); clear hb5)
        go_ret
        exact ⟨⟨.slice none 0 0, [], rfl, World.ownsRow_nil _ _ _ _, List.Pairwise.nil, HV.out⟩, HB5.out⟩
      · have hH : Holds encStr wr g 0 ss.toArray := holds_of_block hb (by simpa using h4)
        have hgl : g < wr.heap.size := (Array.getElem?_eq_some_iff.1 hb).1
        have HN := hid0 (HST.out g 0 cap ss wr hH hgl (by omega))
        have HO : Hid (∀ n' os, OwnS (grow (putRow encStr (Sort.ahead wr n') g 0 (ss.mergeSort fun x y => decide (x ≤ y)).toArray) os) w.heap.size (.slice (some ⟨g, 0, none⟩) ss.length cap) ((ss.mergeSort fun x y => decide (x ≤ y)).map bytesOf)) := hid0 (fun n' os => by
          have h := ownsRow_sorted (n := n') (os := os) (ss := ss) (ts := ss.mergeSort fun x y => decide (x ≤ y)) (by simp) hbase hb h1 h2 h3
          unfold OwnS
          rw [List.length_map, List.length_mergeSort, show cellsS ((ss.mergeSort fun x y => decide (x ≤ y)).map bytesOf) = (ss.mergeSort fun x y => decide (x ≤ y)).map encStr by simp [cellsS, bytesOf, Function.comp_def]]
          exact h)
        have HBE : Hid (∀ n' os, Below w.heap.size w (grow (putRow encStr (Sort.ahead wr n') g 0 (ss.mergeSort fun x y => decide (x ≤ y)).toArray) os)) := hid0 (fun n' os => hnx.grown (grownBy_sorted _) hnx.size (fun j hj => by cases hj; exact hbase))
        have HR := hid0 (rising_sort ss HC.out.1)
        have HV : Hid (∀ x, x ∈ (ss.mergeSort fun x y => decide (x ≤ y)).map bytesOf ↔ lastE eds x = some true) := hid0 (fun x => by
          rw [mem_sort, HC.out.2]
          rw [show Lit.string x.data.toList = keyB x from rfl, (HSy.out x).1]
          constructor
          · rintro ⟨h1, _, h3⟩
            cases hq : lastE eds x with
            | none => rw [hq] at h1; cases h1
            | some b =>
              rw [(HSy.out x).2 b hq] at h3
              cases b
              · cases h3
              · rfl
          · intro h
            rw [h]
            exact ⟨rfl, HL0.out _, (HSy.out x).2 true h _⟩)
        clear hrow hrg hnx hC hl0 hc0 hcs hrg0 hown hg0 hs0 hB0 hH hb h1 h2 h3 h4
        go_wp2_with (go_at_call 51; refine HN.out.mono ?_; rintro e w5 ⟨rfl, nn, os, rfl⟩)
        go_ret
        exact ⟨⟨_, _, rfl, HO.out nn os, HR.out, HV.out⟩, HBE.out nn os⟩
    · intro x c kl yd yp w2 cnt2 hkey hlk hv hat hrg2 hlt hg2 hs2 hen
      obtain ⟨x', ex, rfl, hxl⟩ := Maps.keyOf_str Tryz.underlying9 hkey
      obtain rfl : x = x' := encStr_inj ex
      have hrow2 := hrow.kept hg2 (Or.inr (row_ne_iter hrow hrg).symm)
      have hbne : some B ≠ ((Value.slice none 0 0).ownBlock) := by simp [Value.ownBlock]
      have hyd : yd = .lit (.bool (c == 0)) := by
        obtain ⟨c', e1, e2⟩ := outElem_inv hv
        injection e1 with e1
        have e3 : Value.bool (c == 0) = .bool c' := by
          have := congrArg (fun a : Array Value => a[0]?) e1
          simpa using this
        injection e3 with e3
        injection e2 with e2 _
        rw [e2, e3]
      rw [hyd] at hat
      have hnx2 : Below w.heap.size w w2 := hnx.grown hg2 hnx.size (fun j hj => by cases hj; exact Nat.le_refl _)
      have hw2 := hg2.size
      have hnw := hnx.size
      clear hs2 ex hkey hv hyd hbne
      cases hc : (c == 0) with
      | true =>
        rw [hc] at hat hen
        have hrow3 := hrow2.alloc (.cells #[.bool true] 82)
        have hn1 : ∀ j u, [encStr x][j]? = some u → ((w2.alloc (.cells #[.bool true] 82)).alloc (.cells #[encStr x] 9)).cell? ((⟨w2.heap.size + 1, 0, none⟩ : Addr).add j) = some u := by
          have h := cell_one_new (w2.alloc (.cells #[.bool true] 82)) (encStr x) 9
          rw [show (w2.alloc (.cells #[.bool true] 82)).heap.size = w2.heap.size + 1 by simp] at h
          exact h
        have HN1 := hid0 hn1
        have hrow4 := hrow3.alloc (.cells #[encStr x] 9)
        have HR4 := hid0 hrow4
        clear hn1 hrow4
        go_wp2_with (first
          | (at_builtin; go_loud ((
              refine wpList_append_own _ rfl _ _ 31 rfl w.heap.size 9 i0 (.string ⟨#[]⟩) 1 16 Tryz.underlying31 hi hz0 hz1 hz2 rfl (by decide) u3 ss.length (ss.map encStr) rfl HR4.out ⟨w2.heap.size + 1, 0, none⟩ 1 1 [encStr x] rfl rfl HN1.out (by simp [Value.oneCell', encStr]) (by unfold maxLen; omega) (by omega) (by simp; omega) ?_
              intro v' w3 hown' hg3 hnil3
              go_frame)))
          | fail)
        have hrg3 := ((hrg2.alloc (.cells #[.bool true] 82)).alloc (.cells #[encStr x] 9)).kept hg3 (row_ne_low HR4.out hBw) (row_ne_iter HR4.out ((hrg2.alloc _).alloc _))
        refine ⟨⟨_, cnt2, ss ++ [x], hrg3, by simp; omega, by simpa using hown', coll_yes hC hlk hat, ?_⟩, by rw [hrg3.left_eq, hrg.left_eq]; exact hlt⟩
        exact ((hnx2.alloc (by omega) _).alloc (by simp; omega) _).grown hg3 (by simp; omega) (fun j hj => (World.ownsRow.lt HR4.out j hj).1)
      | false =>
        rw [hc] at hat hen
        go_wp2
        exact ⟨⟨_, cnt2, ss, hrg2.alloc _, by omega, hrow2.alloc _, coll_no hC hlk hat, hnx2.alloc (by omega) _⟩, by rw [(hrg2.alloc _).left_eq, hrg.left_eq]; exact hlt⟩
end Go.Proofs.YtbdjnmbhphflbaaGreatDoor
namespace Go.Proofs.YtbdjnmbhphflbaaGreatDoor
open Go.RowKit Go.Shelf Go.Lib Go.Maps Go.Sort
theorem sortS : SortS := fun blk off cap ss w hH hb hl => Any.slices_Sort_string Tryz.lays190 blk off cap ss w hH hb hl
/-- All rows of cells are as they were. -/
def KC (W W' : World) : Prop := (∀ (i : Nat) c t z, W.heap[i]? = some (.cells c t z) → W'.heap[i]? = some (.cells c t z)) ∧ W.heap.size ≤ W'.heap.size
theorem KC.refl (W : World) : KC W W := ⟨fun _ _ _ _ h => h, Nat.le_refl _⟩
theorem KC.trans {A B C : World} (h : KC A B) (k : KC B C) : KC A C := ⟨fun i c t z hi => k.1 i c t z (h.1 i c t z hi), Nat.le_trans h.2 k.2⟩
theorem KC.ofBelow {W W' : World} (h : Below W.heap.size W W') : KC W W' := ⟨fun i _ _ _ hi => (h.block i (Array.getElem?_eq_some_iff.1 hi).1).trans hi, h.size⟩
set_option maxRecDepth 100000 in
set_option maxHeartbeats 2000000 in
theorem back1_in (n : Nat) (hn : 1 ≤ n) (l Bn g cap B : Nat) (C : List ByteArray) (cur : Array Value) (hl : C.length ≤ 1000) (J Jx : List (Nat × ByteArray) → World → Prop) (_hJ : AbidesFrom B J)
    (hY : ∀ pre x W, J pre W → pre.length < C.length → YieldAt Fence.wide (n - 1) Tryz.prog l #[.int .i64 ((x.1 : Nat) : Int), .string x.2] W fun e W' =>
      (e = .returned (.bool true) ∧ J (pre ++ [x]) W' ∧ KC W W') ∨ (e = .returned (.bool false) ∧ Jx (pre ++ [x]) W'))
    (W : World) (hBn : W.heap[Bn]? = some (.cells #[.slice (some ⟨g, 0, none⟩) C.length cap] 31 (0, 0))) (hg : W.heap[g]? = some (.cells cur 9 (0, 0))) (hcur : ∀ k (h : k < C.length), cur[k]? = some (.string C[k])) (h0 : J [] W) :
    CallsIn Fence.wide n Tryz.prog 48 #[.func (.yield l) #[] #[], .pointer (some ⟨Bn, 0, none⟩)] W fun e W' => (∃ v, e = .returned v) ∧
      ((∃ ys : List (Nat × ByteArray), ys.map (·.2) = C.reverse ∧ J ys W') ∨ (∃ pre : List (Nat × ByteArray), True ∧ Jx pre W')) := by
  have hcell : W.cell? ⟨Bn, 0, none⟩ = some (.slice (some ⟨g, 0, none⟩) C.length cap) := by rw [cell_of_row W Bn 0 _ _ _ hBn]; rfl
  refine callsIn_of_wp Tryz.func48 rfl trivial ?_ rfl
  simp only [Tryz.ntmps48, List.size_toArray, List.length_cons, List.length_nil, Nat.reduceAdd, Nat.reduceSub, Array.replicate_succ, Array.replicate_zero, List.push_toArray, List.append_toArray, List.nil_append, List.cons_append]
  have hlI : (C.length : Int) ≤ 1000 := by omega
  have hw : IntKind.i64.wrap ((C.length : Int) - 1) = (C.length : Int) - 1 := by simp [IntKind.wrap, IntKind.bits, IntKind.signed]; omega
  gi_wp2
  have HYd := hid0 hY
  have H0 := hid0 h0
  have HBn := hid0 hBn
  have HG := hid0 hg
  have HC := hid0 hcur
  clear hY h0 hBn hg hcur hcell
  gi_loopw [3] (fun i wr => ∃ (k : Nat) (pre : List (Nat × ByteArray)), k ≤ C.length ∧ i = .int .i64 ((k : Int) - 1) ∧ Hid (pre.map (·.2) = (C.drop k).reverse) ∧ Hid (J pre wr) ∧ Hid (KC W wr)) (fun i _ => (intOf i + 1).toNat)
  case atStart => exact ⟨C.length, [], Nat.le_refl _, rfl, hid0 (by simp), H0, hid0 (KC.refl _)⟩
  case round =>
    clear H0
    obtain ⟨k, pre, hk, rfl, HP, HJ, HK⟩ := hrel
    cases k with
    | zero =>
      have hneg : ¬ (0 : Int) ≤ ((0 : Nat) : Int) - 1 := by omega
      gi_wp2
      go_end0
      exact ⟨⟨_, rfl⟩, .inl ⟨pre, by have h := HP.out; rw [List.drop_zero] at h; exact h, HJ.out⟩⟩
    | succ m =>
      have hm : (((m + 1 : Nat) : Int) - 1) = (m : Int) := by omega
      rw [hm]
      have hcell : wr.cell? ⟨Bn, 0, none⟩ = some (.slice (some ⟨g, 0, none⟩) C.length cap) := by rw [cell_of_row wr Bn 0 _ _ _ (HK.out.1 _ _ _ _ HBn.out)]; rfl
      have hel : wr.cell? ⟨g, m, none⟩ = some (.string C[m]) := by rw [cell_of_row wr g m _ _ _ (HK.out.1 _ _ _ _ HG.out)]; exact HC.out m (by omega)
      have hpl : pre.length < C.length := by have h := congrArg List.length HP.out; simp at h; omega
      obtain ⟨fn, tmps, assign, body, hy, hR⟩ := HYd.out pre (m, C[m]) wr HJ.out hpl
      have HR := hid0 hR
      have HP2 : Hid ((pre ++ [(m, C[m])]).map (·.2) = (C.drop m).reverse) := hid0 (by
        rw [List.map_append, HP.out, List.drop_eq_getElem_cons (by omega : m < C.length), List.reverse_cons]; rfl)
      have m0 : (0 : Int) ≤ (m : Int) := by omega
      have m1 : (m : Int) < (C.length : Int) := by omega
      generalize C[m] = x at *
      clear hR hm hpl HP HJ
      gi_wp2
      clear hy
      refine HR.out.mono ?_
      rintro e W3 (⟨rfl, hJ3, hk3⟩ | ⟨rfl, hJx3⟩)
      · have HJ3 := hid0 hJ3
        have HK3 := hid0 (HK.out.trans hk3)
        clear hJ3 hk3
        gi_wp2
        go_roundw
        case rel => exact ⟨m, pre ++ [(m, x)], by omega, by go_num, HP2, HJ3, HK3⟩
        case measure => simp [intOf]
      · gi_wp2
        refine bodyPost_ret (results_none rfl _ _ _) rfl ?_
        exact ⟨⟨_, rfl⟩, .inr ⟨pre ++ [(m, x)], trivial, hJx3⟩⟩
theorem back_stops (n : Nat) (hn : 1 ≤ n) (Bn g cap : Nat) (C : List ByteArray) (cur : Array Value) (hl : C.length ≤ 1000) (w : World) (hBn : w.heap[Bn]? = some (.cells #[.slice (some ⟨g, 0, none⟩) C.length cap] 31 (0, 0))) (hg : w.heap[g]? = some (.cells cur 9 (0, 0))) (hcur : ∀ k (h : k < C.length), cur[k]? = some (.string C[k])) :
    SeqStopsK Fence.wide n Tryz.prog 48 #[.pointer (some ⟨Bn, 0, none⟩)] (fun x : Nat × ByteArray => #[.int .i64 ((x.1 : Nat) : Int), .string x.2]) KC (fun ys => ys.map (·.2) = C.reverse) (fun _ => True) C.length w := fun l J Jx W hW hJ _ hY h0 =>
  back1_in n hn l Bn g cap W.heap.size C cur hl J Jx hJ hY W ((hW.block Bn (Array.getElem?_eq_some_iff.1 hBn).1).trans hBn) ((hW.block g (Array.getElem?_eq_some_iff.1 hg).1).trans hg) hcur h0
set_option maxRecDepth 100000 in
theorem back_in (n : Nat) (v : Value) (hv : ∃ a n c, v = .slice a n c) (w : World) : CallsIn Fence.wide n Tryz.prog 28 #[v] w fun e w' => e = .returned (.func (.func 48) #[] #[.pointer (some ⟨w.heap.size, 0, none⟩)]) ∧ w' = w.alloc (.cells #[v] 31) := by
  obtain ⟨a, n', c, rfl⟩ := hv
  refine callsIn_of_wp Tryz.func28 rfl trivial ?_ rfl
  simp only [Tryz.ntmps28, List.size_toArray, List.length_cons, List.length_nil, Nat.reduceAdd, Nat.reduceSub, Array.replicate_succ, Array.replicate_zero, List.push_toArray, List.append_toArray, List.nil_append, List.cons_append]
  gi_wp2
  go_ret
  exact ⟨rfl, rfl⟩
end Go.Proofs.YtbdjnmbhphflbaaGreatDoor
