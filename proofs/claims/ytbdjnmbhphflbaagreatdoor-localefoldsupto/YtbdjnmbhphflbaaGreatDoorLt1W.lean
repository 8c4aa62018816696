/-
  What lies in memory; the walks of the small tests of bytes and runes, caesuraref6's lower, upper, letters, bundle's isAll.
-/
import Derived.Test.YtbdjnmbhphflbaaGreatDoorLtM
import Derived.Test.YtbdjnmbhphflbaaGreatDoorProg
import Derived.Test.YtbdjnmbhphflbaaGreatDoorSentW
import Derived.WalkKit
import Derived.WalkSpells
import Derived.WalkLawsBesides
import Derived.Handy
import Derived.Maps.AppendAt
import Derived.Deep.QuietTactic
import Derived.BigQuiet
import Derived.Shelf.Abstract
import Derived.Laws.IdiomStrings
import Derived.Laws.BytesString
namespace Go.Proofs.YtbdjnmbhphflbaaGreatDoor
open Go.RowKit Go.Shelf Go.Lib
theorem hid0 {p : Prop} (h : p) : Hid p := h
theorem bget (s : ByteArray) (k : Nat) (h : k < s.size) : s.data.toList[k]? = some s[k] := by
  rw [List.getElem?_eq_getElem (by simpa using h)]; rfl
theorem Below.later {w a b : World} (h : Below w.heap.size w a) (k : Below a.heap.size a b) : Below w.heap.size w b :=
  ⟨k.os.trans h.os, k.tape.trans h.tape, k.output.trans h.output, Nat.le_trans h.size k.size, fun i hi => (k.block i (Nat.lt_of_lt_of_le hi h.size)).trans (h.block i hi)⟩
theorem info_parts {t : TypeId} {z : Value} {n b : Nat} (h : (Tryz.prog.info? t).map (fun i => (i.zero, i.size, i.bytes)) = some (some z, n, b)) : ∃ i, Tryz.prog.info? t = some i ∧ i.zero = some z ∧ i.size = n ∧ i.bytes = b := by
  obtain ⟨i, h1, h2⟩ := Option.map_eq_some_iff.1 h
  simp only [Prod.mk.injEq] at h2
  exact ⟨i, h1, h2.1, h2.2.1, h2.2.2⟩
theorem infoU8 : (Tryz.prog.info? 5).map (fun i => (i.zero, i.size, i.bytes)) = some (some (.int .u8 0), 1, 1) := by kernel_rfl
def cellsB (l : List UInt8) : List Value := l.map fun b => .int .u8 (b.toNat : Int)
/-- Bytes in a row of one's own. -/
def OwnB (w : World) (base : Nat) (v : Value) (l : List UInt8) : Prop := w.ownsRow base 5 1 v l.length (cellsB l)
theorem toStr {w : World} {base : Nat} {v : Value} {l : List UInt8} (h : OwnB w base v l) : (convert 72 9 v).run Tryz.prog w = .ok (.string ⟨l.toArray⟩) w := by
  have h0 := h
  rcases h.2 with ⟨rfl, hn⟩ | ⟨g, cap, cur, rfl, _⟩
  · have : l = [] := List.length_eq_zero_iff.1 hn
    subst this
    rw [run_convert_bytes_string w 72 9 5 none 0 0 Tryz.underlying72 Tryz.underlying5 Tryz.underlying9]; rfl
  · refine run_convert_bytes_back (P := Tryz.prog) w 72 9 5 ⟨g, 0, none⟩ cap l Tryz.underlying72 Tryz.underlying5 Tryz.underlying9 (fun j hj => ?_)
    rw [Addr.add_lit, Nat.zero_add, World.ownsRow.cellAt h0 j (by omega)]
    simp [cellsB, hj]
theorem ownB_snoc {w wr w1 : World} {base : Nat} {v v' : Value} {l : List UInt8} {c : UInt8} {o : Obj} {n : Nat} (hn : n = l.length) (hown : OwnB wr base v l)
    (hown' : w1.ownsRow base 5 1 v' (n + 1) (cellsB l ++ [.int .u8 (c.toNat : Int)])) (hgrow : (wr.alloc o).grownBy w1 v.ownBlock) (hbel : Below base w wr) (hb : base ≤ w.heap.size) :
    OwnB w1 base v' (l ++ [c]) ∧ Below base w w1 := by
  subst hn
  have hsz := hbel.size
  refine ⟨?_, (hbel.alloc (by omega) o).grown hgrow (by simp; omega) (fun k hk => (World.ownsRow.lt hown k hk).1)⟩
  have e2 : cellsB (l ++ [c]) = cellsB l ++ [.int .u8 (c.toNat : Int)] := by simp [cellsB]
  unfold OwnB
  rw [List.length_append, e2]
  exact hown'
theorem cell_one_new (w : World) (v : Value) (t : TypeId) : ∀ j u, [v][j]? = some u → (w.alloc (.cells #[v] t)).cell? ((⟨w.heap.size, 0, none⟩ : Addr).add j) = some u := by
  intro j u h
  rw [Addr.add_lit, cell_of_row _ w.heap.size _ _ _ _ (heap_alloc_new w _), Nat.zero_add]
  simpa using h
set_option maxRecDepth 100000 in
theorem case_facts : ∀ i : Fin 256, (isUp (UInt8.ofNat i.val) = true → (lowerB (UInt8.ofNat i.val)).toNat = (UInt8.ofNat i.val).toNat + 32) ∧ (isUp (UInt8.ofNat i.val) = false → lowerB (UInt8.ofNat i.val) = UInt8.ofNat i.val) ∧ (isLo (UInt8.ofNat i.val) = true → (upperB (UInt8.ofNat i.val)).toNat + 32 = (UInt8.ofNat i.val).toNat) ∧ (isLo (UInt8.ofNat i.val) = false → upperB (UInt8.ofNat i.val) = UInt8.ofNat i.val) := by decide
theorem lo_up (b : UInt8) (h : isUp b = true) : (lowerB b).toNat = b.toNat + 32 := (all256 (p := fun b => isUp b = true → (lowerB b).toNat = b.toNat + 32) (fun i => (case_facts i).1) b) h
theorem lo_same (b : UInt8) (h : isUp b = false) : lowerB b = b := (all256 (p := fun b => isUp b = false → lowerB b = b) (fun i => (case_facts i).2.1) b) h
theorem up_lo (b : UInt8) (h : isLo b = true) : (upperB b).toNat + 32 = b.toNat := (all256 (p := fun b => isLo b = true → (upperB b).toNat + 32 = b.toNat) (fun i => (case_facts i).2.2.1) b) h
theorem up_same (b : UInt8) (h : isLo b = false) : upperB b = b := (all256 (p := fun b => isLo b = false → upperB b = b) (fun i => (case_facts i).2.2.2) b) h
theorem byteI (c : UInt8) : (0 : Int) ≤ (c.toNat : Int) ∧ (c.toNat : Int) < 256 := ⟨by omega, by have := c.toNat_lt; omega⟩
theorem isLo_int (c : UInt8) : isLo c = (decide (97 ≤ (c.toNat : Int)) && decide ((c.toNat : Int) ≤ 122)) := by
  unfold isLo
  congr 1 <;> exact decide_eq_decide.2 (by omega)
set_option maxRecDepth 10000 in
set_option maxHeartbeats 400000 in
theorem refSmall_any (c : UInt8) (w : World) : Calls Tryz.prog 117 #[.int .u8 (c.toNat : Int)] w fun e w' => e = .returned (.bool (isLo c)) ∧ w' = w := by
  rw [isLo_int c]
  obtain ⟨h0, h1⟩ := byteI c
  generalize (c.toNat : Int) = x at *
  by_cases a0 : 97 ≤ x
  · by_cases a1 : x ≤ 122
    · have hb : (decide (97 ≤ x) && decide (x ≤ 122)) = true := by simp [a0, a1]
      rw [hb]
      go_enter Tryz.func117, Tryz.ntmps117
      go_wp2
      go_ret
      exact ⟨rfl, rfl⟩
    · have hb : (decide (97 ≤ x) && decide (x ≤ 122)) = false := by simp [a1]
      rw [hb]
      go_enter Tryz.func117, Tryz.ntmps117
      go_wp2
      go_ret
      exact ⟨rfl, rfl⟩
  · have hb : (decide (97 ≤ x) && decide (x ≤ 122)) = false := by simp [a0]
    rw [hb]
    go_enter Tryz.func117, Tryz.ntmps117
    go_wp2
    go_ret
    exact ⟨rfl, rfl⟩
theorem isUp_int (c : UInt8) : isUp c = (decide (65 ≤ (c.toNat : Int)) && decide ((c.toNat : Int) ≤ 90)) := by
  unfold isUp
  congr 1 <;> exact decide_eq_decide.2 (by omega)
set_option maxRecDepth 10000 in
set_option maxHeartbeats 400000 in
theorem refGreat_any (c : UInt8) (w : World) : Calls Tryz.prog 118 #[.int .u8 (c.toNat : Int)] w fun e w' => e = .returned (.bool (isUp c)) ∧ w' = w := by
  rw [isUp_int c]
  obtain ⟨h0, h1⟩ := byteI c
  generalize (c.toNat : Int) = x at *
  by_cases a0 : 65 ≤ x
  · by_cases a1 : x ≤ 90
    · have hb : (decide (65 ≤ x) && decide (x ≤ 90)) = true := by simp [a0, a1]
      rw [hb]
      go_enter Tryz.func118, Tryz.ntmps118
      go_wp2
      go_ret
      exact ⟨rfl, rfl⟩
    · have hb : (decide (65 ≤ x) && decide (x ≤ 90)) = false := by simp [a1]
      rw [hb]
      go_enter Tryz.func118, Tryz.ntmps118
      go_wp2
      go_ret
      exact ⟨rfl, rfl⟩
  · have hb : (decide (65 ≤ x) && decide (x ≤ 90)) = false := by simp [a0]
    rw [hb]
    go_enter Tryz.func118, Tryz.ntmps118
    go_wp2
    go_ret
    exact ⟨rfl, rfl⟩
theorem isDi_int (c : UInt8) : isDi c = (decide (48 ≤ (c.toNat : Int)) && decide ((c.toNat : Int) ≤ 57)) := by
  unfold isDi
  congr 1 <;> exact decide_eq_decide.2 (by omega)
set_option maxRecDepth 10000 in
set_option maxHeartbeats 400000 in
theorem refDigit_any (c : UInt8) (w : World) : Calls Tryz.prog 119 #[.int .u8 (c.toNat : Int)] w fun e w' => e = .returned (.bool (isDi c)) ∧ w' = w := by
  rw [isDi_int c]
  obtain ⟨h0, h1⟩ := byteI c
  generalize (c.toNat : Int) = x at *
  by_cases a0 : 48 ≤ x
  · by_cases a1 : x ≤ 57
    · have hb : (decide (48 ≤ x) && decide (x ≤ 57)) = true := by simp [a0, a1]
      rw [hb]
      go_enter Tryz.func119, Tryz.ntmps119
      go_wp2
      go_ret
      exact ⟨rfl, rfl⟩
    · have hb : (decide (48 ≤ x) && decide (x ≤ 57)) = false := by simp [a1]
      rw [hb]
      go_enter Tryz.func119, Tryz.ntmps119
      go_wp2
      go_ret
      exact ⟨rfl, rfl⟩
  · have hb : (decide (48 ≤ x) && decide (x ≤ 57)) = false := by simp [a0]
    rw [hb]
    go_enter Tryz.func119, Tryz.ntmps119
    go_wp2
    go_ret
    exact ⟨rfl, rfl⟩
set_option maxRecDepth 10000 in
set_option maxHeartbeats 1600000 in
theorem refLower_any (s : ByteArray) (hs : s.size ≤ 1000000) (w : World) : Calls Tryz.prog 82 #[.string s] w fun e w' => e = .returned (.string ⟨(s.data.toList.map lowerB).toArray⟩) ∧ Below w.heap.size w w' := by
  obtain ⟨i0, hi, hz0, hz1, hz2⟩ := info_parts infoU8
  obtain ⟨Y, hY⟩ : ∃ Y, Y = s.data.toList.map lowerB := ⟨_, rfl⟩
  rw [← hY]
  have HY := hid0 hY
  clear hY
  go_enter Tryz.func82, Tryz.ntmps82
  go_wp2
  go_loopw [3, 4] (fun v i wr => ∃ k : Nat, k ≤ s.size ∧ i = .int .i64 (k : Int) ∧ Hid (OwnB wr w.heap.size v ((s.data.toList.take k).map lowerB)) ∧ Hid (Below w.heap.size w wr)) (fun _ i _ => s.size - (intOf i).toNat)
  case atStart => exact ⟨0, Nat.zero_le _, rfl, hid0 (World.ownsRow_nil _ _ _ _), hid0 (Below.refl _ _)⟩
  case round =>
    obtain ⟨k, hk, rfl, HO, HB⟩ := hrel
    have hbs := HB.out.size
    have hsl : s.data.toList.length = s.size := by simp
    obtain ⟨X, hX⟩ : ∃ X, X = (s.data.toList.take k).map lowerB := ⟨_, rfl⟩
    have htl : X.length = k := by rw [hX, List.length_map, List.length_take]; omega
    rw [← hX] at HO
    have HTL := hid0 htl
    have HX := hid0 hX
    have HOO : Hid (wr.ownsRow w.heap.size 5 1 u3 k (cellsB X)) := hid0 (by have h := HO.out; unfold OwnB at h; rw [htl] at h; exact h)
    clear htl hX
    by_cases hlt : k < s.size
    · have HC := hid0 (bget s k hlt)
      have hkI : (k : Int) < (s.size : Int) := by omega
      have hkI0 : (0 : Int) ≤ (k : Int) := by omega
      have HTK : Hid ((s.data.toList.take (k + 1)).map lowerB = X ++ [lowerB s[k]]) := hid0 (by rw [List.take_add_one, HC.out, List.map_append, HX.out]; rfl)
      have HT := hid0 (refGreat_any s[k] wr)
      obtain ⟨hx0, hx1⟩ := byteI s[k]
      obtain ⟨hy0, hy1⟩ := byteI (lowerB s[k])
      cases hq : isUp s[k] with
      | true =>
        rw [hq] at HT
        have hv : IntKind.u8.wrap ((s[k].toNat : Int) + 32) = ((lowerB s[k]).toNat : Int) := by have := lo_up s[k] hq; simp [IntKind.wrap, IntKind.bits, IntKind.signed]; omega
        generalize lowerB s[k] = d at *
        clear hq HC HX
        go_wp2_with (first
          | (go_at_call 118; refine HT.out.mono ?_; rintro e w1 ⟨rfl, rfl⟩)
          | (at_builtin; refine wpList_append_own _ rfl _ _ 72 rfl w.heap.size 5 i0 (.int .u8 0) 1 1 Tryz.underlying72 hi hz0 hz1 hz2 rfl (by decide) _ _ _ rfl (HOO.out.alloc _) ⟨_, 0, none⟩ 1 1 [.int .u8 (d.toNat : Int)] rfl rfl (cell_one_new _ _ _) ?c2b ?c3b ?c4b ?c5b ?_))
        case c2b => simp [Value.oneCell']
        case c3b => unfold maxLen; omega
        case c4b => omega
        case c5b => simp; omega
        intro v2 w4 hown' hgrow _
        obtain ⟨g1, g2⟩ := ownB_snoc (base := w.heap.size) (l := X) (c := d) (n := k) HTL.out.symm HO.out hown' hgrow HB.out (Nat.le_refl _)
        have HO4 : Hid (OwnB w4 w.heap.size v2 ((s.data.toList.take (k + 1)).map lowerB)) := hid0 (by rw [HTK.out]; exact g1)
        have HB4 := hid0 g2
        clear hown' hgrow g1 g2 HOO HO HB HTK
        go_wp2
        go_roundw
        case rel => exact ⟨k + 1, by omega, by go_num, HO4, HB4⟩
        case measure => simp [intOf]; omega
      | false =>
        rw [hq] at HT
        have hv := lo_same s[k] hq
        rw [hv] at HTK
        clear hq HC HX
        go_wp2_with (first
          | (go_at_call 118; refine HT.out.mono ?_; rintro e w1 ⟨rfl, rfl⟩)
          | (at_builtin; refine wpList_append_own _ rfl _ _ 72 rfl w.heap.size 5 i0 (.int .u8 0) 1 1 Tryz.underlying72 hi hz0 hz1 hz2 rfl (by decide) _ _ _ rfl (HOO.out.alloc _) ⟨_, 0, none⟩ 1 1 [.int .u8 (s[k].toNat : Int)] rfl rfl (cell_one_new _ _ _) ?c2b ?c3b ?c4b ?c5b ?_))
        case c2b => simp [Value.oneCell']
        case c3b => unfold maxLen; omega
        case c4b => omega
        case c5b => simp; omega
        intro v2 w4 hown' hgrow _
        obtain ⟨g1, g2⟩ := ownB_snoc (base := w.heap.size) (l := X) (c := s[k]) (n := k) HTL.out.symm HO.out hown' hgrow HB.out (Nat.le_refl _)
        have HO4 : Hid (OwnB w4 w.heap.size v2 ((s.data.toList.take (k + 1)).map lowerB)) := hid0 (by rw [HTK.out]; exact g1)
        have HB4 := hid0 g2
        clear hown' hgrow g1 g2 HOO HO HB HTK
        go_wp2
        go_roundw
        case rel => exact ⟨k + 1, by omega, by go_num, HO4, HB4⟩
        case measure => simp [intOf]; omega
    · have hkI : ¬ (k : Int) < (s.size : Int) := by omega
      have hcv := toStr HO.out
      rw [HX.out, List.take_of_length_le (by omega), ← HY.out] at hcv
      go_wp2
      go_ret
      exact ⟨rfl, HB.out⟩
set_option maxRecDepth 10000 in
set_option maxHeartbeats 1600000 in
theorem refUpper_any (s : ByteArray) (hs : s.size ≤ 1000000) (w : World) : Calls Tryz.prog 120 #[.string s] w fun e w' => e = .returned (.string ⟨(s.data.toList.map upperB).toArray⟩) ∧ Below w.heap.size w w' := by
  obtain ⟨i0, hi, hz0, hz1, hz2⟩ := info_parts infoU8
  obtain ⟨Y, hY⟩ : ∃ Y, Y = s.data.toList.map upperB := ⟨_, rfl⟩
  rw [← hY]
  have HY := hid0 hY
  clear hY
  go_enter Tryz.func120, Tryz.ntmps120
  go_wp2
  go_loopw [3, 4] (fun v i wr => ∃ k : Nat, k ≤ s.size ∧ i = .int .i64 (k : Int) ∧ Hid (OwnB wr w.heap.size v ((s.data.toList.take k).map upperB)) ∧ Hid (Below w.heap.size w wr)) (fun _ i _ => s.size - (intOf i).toNat)
  case atStart => exact ⟨0, Nat.zero_le _, rfl, hid0 (World.ownsRow_nil _ _ _ _), hid0 (Below.refl _ _)⟩
  case round =>
    obtain ⟨k, hk, rfl, HO, HB⟩ := hrel
    have hbs := HB.out.size
    have hsl : s.data.toList.length = s.size := by simp
    obtain ⟨X, hX⟩ : ∃ X, X = (s.data.toList.take k).map upperB := ⟨_, rfl⟩
    have htl : X.length = k := by rw [hX, List.length_map, List.length_take]; omega
    rw [← hX] at HO
    have HTL := hid0 htl
    have HX := hid0 hX
    have HOO : Hid (wr.ownsRow w.heap.size 5 1 u3 k (cellsB X)) := hid0 (by have h := HO.out; unfold OwnB at h; rw [htl] at h; exact h)
    clear htl hX
    by_cases hlt : k < s.size
    · have HC := hid0 (bget s k hlt)
      have hkI : (k : Int) < (s.size : Int) := by omega
      have hkI0 : (0 : Int) ≤ (k : Int) := by omega
      have HTK : Hid ((s.data.toList.take (k + 1)).map upperB = X ++ [upperB s[k]]) := hid0 (by rw [List.take_add_one, HC.out, List.map_append, HX.out]; rfl)
      have HT := hid0 (refSmall_any s[k] wr)
      obtain ⟨hx0, hx1⟩ := byteI s[k]
      obtain ⟨hy0, hy1⟩ := byteI (upperB s[k])
      cases hq : isLo s[k] with
      | true =>
        rw [hq] at HT
        have hv : IntKind.u8.wrap ((s[k].toNat : Int) - 32) = ((upperB s[k]).toNat : Int) := by have := up_lo s[k] hq; simp [IntKind.wrap, IntKind.bits, IntKind.signed]; omega
        generalize upperB s[k] = d at *
        clear hq HC HX
        go_wp2_with (first
          | (go_at_call 117; refine HT.out.mono ?_; rintro e w1 ⟨rfl, rfl⟩)
          | (at_builtin; refine wpList_append_own _ rfl _ _ 72 rfl w.heap.size 5 i0 (.int .u8 0) 1 1 Tryz.underlying72 hi hz0 hz1 hz2 rfl (by decide) _ _ _ rfl (HOO.out.alloc _) ⟨_, 0, none⟩ 1 1 [.int .u8 (d.toNat : Int)] rfl rfl (cell_one_new _ _ _) ?c2b ?c3b ?c4b ?c5b ?_))
        case c2b => simp [Value.oneCell']
        case c3b => unfold maxLen; omega
        case c4b => omega
        case c5b => simp; omega
        intro v2 w4 hown' hgrow _
        obtain ⟨g1, g2⟩ := ownB_snoc (base := w.heap.size) (l := X) (c := d) (n := k) HTL.out.symm HO.out hown' hgrow HB.out (Nat.le_refl _)
        have HO4 : Hid (OwnB w4 w.heap.size v2 ((s.data.toList.take (k + 1)).map upperB)) := hid0 (by rw [HTK.out]; exact g1)
        have HB4 := hid0 g2
        clear hown' hgrow g1 g2 HOO HO HB HTK
        go_wp2
        go_roundw
        case rel => exact ⟨k + 1, by omega, by go_num, HO4, HB4⟩
        case measure => simp [intOf]; omega
      | false =>
        rw [hq] at HT
        have hv := up_same s[k] hq
        rw [hv] at HTK
        clear hq HC HX
        go_wp2_with (first
          | (go_at_call 117; refine HT.out.mono ?_; rintro e w1 ⟨rfl, rfl⟩)
          | (at_builtin; refine wpList_append_own _ rfl _ _ 72 rfl w.heap.size 5 i0 (.int .u8 0) 1 1 Tryz.underlying72 hi hz0 hz1 hz2 rfl (by decide) _ _ _ rfl (HOO.out.alloc _) ⟨_, 0, none⟩ 1 1 [.int .u8 (s[k].toNat : Int)] rfl rfl (cell_one_new _ _ _) ?c2b ?c3b ?c4b ?c5b ?_))
        case c2b => simp [Value.oneCell']
        case c3b => unfold maxLen; omega
        case c4b => omega
        case c5b => simp; omega
        intro v2 w4 hown' hgrow _
        obtain ⟨g1, g2⟩ := ownB_snoc (base := w.heap.size) (l := X) (c := s[k]) (n := k) HTL.out.symm HO.out hown' hgrow HB.out (Nat.le_refl _)
        have HO4 : Hid (OwnB w4 w.heap.size v2 ((s.data.toList.take (k + 1)).map upperB)) := hid0 (by rw [HTK.out]; exact g1)
        have HB4 := hid0 g2
        clear hown' hgrow g1 g2 HOO HO HB HTK
        go_wp2
        go_roundw
        case rel => exact ⟨k + 1, by omega, by go_num, HO4, HB4⟩
        case measure => simp [intOf]; omega
    · have hkI : ¬ (k : Int) < (s.size : Int) := by omega
      have hcv := toStr HO.out
      rw [HX.out, List.take_of_length_le (by omega), ← HY.out] at hcv
      go_wp2
      go_ret
      exact ⟨rfl, HB.out⟩
theorem all_at {p : UInt8 → Bool} (s : ByteArray) (k : Nat) (h : k < s.size) : (s.data.toList.drop k).all p = (p s[k] && (s.data.toList.drop (k + 1)).all p) := by
  rw [List.drop_eq_getElem_cons (by simpa using h), List.all_cons]; rfl
set_option maxRecDepth 10000 in
set_option maxHeartbeats 1600000 in
theorem refLetters_any (s : ByteArray) (hs : s.size ≤ 1000000) (w : World) : Calls Tryz.prog 83 #[.string s] w fun e w' => e = .returned (.bool (s.data.toList.all isL)) ∧ w' = w := by
  obtain ⟨R, hR⟩ : ∃ R, R = s.data.toList.all isL := ⟨_, rfl⟩
  rw [← hR]
  have HR := hid0 hR
  clear hR
  go_enter Tryz.func83, Tryz.ntmps83
  go_wp2
  go_loopw [3] (fun i wr => ∃ k : Nat, k ≤ s.size ∧ i = .int .i64 (k : Int) ∧ Hid (s.data.toList.all isL = (s.data.toList.drop k).all isL) ∧ wr = w) (fun i _ => s.size - (intOf i).toNat)
  case atStart => exact ⟨0, Nat.zero_le _, rfl, hid0 rfl, rfl⟩
  case round =>
    obtain ⟨k, hk, rfl, HA, rfl⟩ := hrel
    by_cases hlt : k < s.size
    · have HN := hid0 (all_at (p := isL) s k hlt)
      have hkI : (k : Int) < (s.size : Int) := by omega
      have hkI0 : (0 : Int) ≤ (k : Int) := by omega
      have H1 := hid0 (refSmall_any s[k] wr)
      have H2 := hid0 (refGreat_any s[k] wr)
      obtain ⟨hx0, hx1⟩ := byteI s[k]
      cases hq1 : isLo s[k] with
      | true =>
        rw [hq1] at H1
        have HV : Hid (s.data.toList.all isL = (s.data.toList.drop (k + 1)).all isL) := hid0 (by rw [HA.out, HN.out]; simp [isL, hq1])
        clear HA HN hq1
        go_wp2_with (first | (go_at_call 117; refine H1.out.mono ?_; rintro e w1 ⟨rfl, rfl⟩) | fail)
        go_roundw
        case rel => exact ⟨k + 1, by omega, by go_num, HV, trivial⟩
        case measure => simp [intOf]; omega
      | false =>
        rw [hq1] at H1
        cases hq2 : isUp s[k] with
        | true =>
          rw [hq2] at H2
          have HV : Hid (s.data.toList.all isL = (s.data.toList.drop (k + 1)).all isL) := hid0 (by rw [HA.out, HN.out]; simp [isL, hq2])
          clear HA HN hq1 hq2
          go_wp2_with (first
            | (go_at_call 117; refine H1.out.mono ?_; rintro e w1 ⟨rfl, rfl⟩)
            | (go_at_call 118; refine H2.out.mono ?_; rintro e w1 ⟨rfl, rfl⟩))
          go_roundw
          case rel => exact ⟨k + 1, by omega, by go_num, HV, trivial⟩
          case measure => simp [intOf]; omega
        | false =>
          rw [hq2] at H2
          have HV : Hid (s.data.toList.all isL = false) := hid0 (by rw [HA.out, HN.out]; simp [isL, hq1, hq2])
          clear HA HN hq1 hq2
          go_wp2_with (first
            | (go_at_call 117; refine H1.out.mono ?_; rintro e w1 ⟨rfl, rfl⟩)
            | (go_at_call 118; refine H2.out.mono ?_; rintro e w1 ⟨rfl, rfl⟩))
          go_ret
          exact ⟨by rw [HR.out, HV.out]; rfl, rfl⟩
    · have hkI : ¬ (k : Int) < (s.size : Int) := by omega
      have HV : Hid (s.data.toList.all isL = true) := hid0 (by rw [HA.out, List.drop_of_length_le (by simp; omega)]; rfl)
      go_wp2
      go_ret
      exact ⟨by rw [HR.out, HV.out]; rfl, rfl⟩
end Go.Proofs.YtbdjnmbhphflbaaGreatDoor
