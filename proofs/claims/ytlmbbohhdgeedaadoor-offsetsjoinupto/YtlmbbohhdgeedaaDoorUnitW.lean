/-
  The walks of units.pointOf and units.unitAt.
-/
import Derived.Test.YtlmbbohhdgeedaaDoorUtfEq
import Derived.Deep.RegionLaw
namespace Go.Proofs.YtlmbbohhdgeedaaDoor
open Go.RowKit
theorem i64_wrap_nat (x : Nat) (h : x < 9223372036854775808) : IntKind.i64.wrap (x : Int) = x := by
  simp [IntKind.wrap, IntKind.bits, IntKind.signed]
  omega
theorem i64_or_nat (a b : Nat) (ha : a < 9223372036854775808) (hb : b < 9223372036854775808) : bits .or .i64 (a : Int) (b : Int) = ((a ||| b : Nat) : Int) := by
  have hx : a ||| b < 2 ^ 63 := Nat.or_lt_two_pow (by omega) (by omega)
  show IntKind.i64.wrap ((BitVec.ofInt 64 (a : Int) ||| BitVec.ofInt 64 (b : Int)).toNat : Int) = _
  rw [BitVec.toNat_or, ofInt_u64 a (by omega), ofInt_u64 b (by omega)]
  exact i64_wrap_nat _ (by omega)
theorem or_six (m y : Nat) (hm : m < 33554432) (hy : y < 64) : bits .or .i64 ((m : Int) * 64) (y : Int) = (m : Int) * 64 + (y : Int) := by
  have e := i64_or_nat (m * 64) y (by omega) (by omega)
  have e2 := Nat.two_pow_add_eq_or_of_lt (i := 6) (b := y) (by omega) m
  rw [show (2 : Nat) ^ 6 * m = m * 64 by omega] at e2
  rw [← e2] at e
  simpa using e
set_option maxRecDepth 10000 in
set_option maxHeartbeats 400000 in
theorem pointOf_any (t : ByteArray) (mk : Nat) (w : World) (h1 : 0 < t.size) (h4 : t.size ≤ 4) (h0 : mk ≤ t[0].toNat) (hc0 : t[0].toNat - mk < 128)
    (hb : ∀ j (h : j < t.size), 0 < j → 128 ≤ t[j].toNat ∧ t[j].toNat ≤ 191) :
    Calls Tryd.prog 56 #[.string t, .int .u8 (mk : Int)] w fun e w' => e = .returned (.int .i64 (ptL t.data.toList ((t[0].toNat : Int) - mk) (t.size - 1))) ∧ w' = w := by
  have HB : Hid (∀ j (h : j < t.size), 0 < j → 128 ≤ t[j].toNat ∧ t[j].toNat ≤ 191) := hb
  clear hb
  go_enter Tryd.func56, Tryd.ntmps56
  go_wp2
  go_loop [5, 6] (fun p i => ∃ j m : Nat, j + 1 ≤ t.size ∧ m < 128 * 64 ^ j ∧ i = .int .i64 ((j : Int) + 1) ∧ p = .int .i64 (m : Int) ∧ (m : Int) = ptL t.data.toList ((t[0].toNat : Int) - mk) j) (fun _ i => 4 - (intOf i).toNat)
  case atStart => exact ⟨0, t[0].toNat - mk, by omega, by omega, rfl, by congr 1; omega, by rw [ptL]; omega⟩
  case round =>
    obtain ⟨j, m, hj, hm, rfl, rfl, hp⟩ := hrel
    have HP : Hid ((m : Int) = ptL t.data.toList ((t[0].toNat : Int) - mk) j) := hp
    clear hp
    by_cases hlt : j + 1 < t.size
    · obtain ⟨hb1, hb2⟩ := HB.out (j + 1) hlt (by omega)
      have hm2 : m * 64 + (t[j + 1].toNat - 128) < 128 * 64 ^ (j + 1) := by
        rw [Nat.pow_succ]; omega
      have hm3 : m < 33554432 := by
        have : (64 : Nat) ^ j ≤ 64 ^ 2 := Nat.pow_le_pow_right (by omega) (by omega)
        omega
      have HQ : Hid (((m * 64 + (t[j + 1].toNat - 128) : Nat) : Int) = ptL t.data.toList ((t[0].toNat : Int) - mk) (j + 1)) := by
        show _ = _
        have e := getD_drop t 0 (j + 1) (by omega)
        simp only [List.drop_zero, Nat.zero_add] at e
        rw [ptL, ← HP.out, e]
        omega
      have hor := or_six m (t[j + 1].toNat - 128) hm3 (by omega)
      have e1 : ((t[j + 1].toNat - 128 : Nat) : Int) = (t[j + 1].toNat : Int) - 128 := by omega
      rw [e1] at hor
      have hx : ((m * 64 + (t[j + 1].toNat - 128) : Nat) : Int) = (m : Int) * 64 + ((t[j + 1].toNat : Int) - 128) := by omega
      have HX := (show Hid _ from hx)
      clear HP hm e1 hx
      go_wp2
      go_round
      case rel => exact ⟨j + 1, m * 64 + (t[j + 1].toNat - 128), by omega, hm2, by go_num, by rw [HX.out], HQ.out⟩
      case measure => simp [intOf]; omega
    · have e1 : t.size - 1 = j := by omega
      go_wp2
      go_ret
      exact ⟨by rw [← HP.out]; rfl, rfl⟩
/-- The unit at the beginning: its point and its size. -/
def uniOf (l : List UInt8) : Int × Nat := match goodOf l with
  | none => (-1, 1)
  | some (p, n) => (p, n)
def unitVal (p : Int) (a b : Nat) : Value := .agg #[.int .i64 p, .int .i64 (a : Int), .int .i64 (b : Int)]
theorem fits_max (lo hi n : Nat) (l : List UInt8) : fits lo hi n l ≤ n := by
  induction n generalizing lo hi l with
  | zero => simp [fits]
  | succ n ih =>
    cases l with
    | nil => simp [fits]
    | cons b l => rw [fits]; have := ih 128 191 l; split <;> omega
theorem fits_all (n : Nat) : ∀ (lo hi : Nat) (l : List UInt8), 128 ≤ lo → hi ≤ 191 → fits lo hi n l = n → n ≤ l.length ∧ ∀ j < n, 128 ≤ (l.getD j 0).toNat ∧ (l.getD j 0).toNat ≤ 191 := by
  induction n with
  | zero => intro lo hi l _ _ _; exact ⟨Nat.zero_le _, fun j hj => by omega⟩
  | succ n ih =>
    intro lo hi l h1 h2 h
    cases l with
    | nil => simp [fits] at h
    | cons b l =>
      rw [fits] at h
      split at h
      · rename_i hb
        obtain ⟨x, y⟩ := ih 128 191 l (by omega) (by omega) (by omega)
        refine ⟨by simp; omega, fun j hj => ?_⟩
        cases j with
        | zero => simp; omega
        | succ j => simpa using y j (by omega)
      · omega
theorem tab_mk : ∀ i < 9, tMk i ≤ tLo i ∧ tHi i - tMk i < 128 ∧ (1 < tSz i → 128 ≤ tLo2 i ∧ tHi2 i ≤ 191) := by decide
theorem rowFrom_fits (c : Nat) : ∀ n i j, rowFrom c n i = some j → fitsRow c j = true := by
  intro n
  induction n with
  | zero => intro i j h; simp [rowFrom] at h
  | succ n ih =>
    intro i j h
    rw [rowFrom] at h
    split at h
    · rename_i hf; simp at h; subst h; exact hf
    · exact ih _ _ h
theorem rowOf_fits {c i : Nat} (h : rowOf c = some i) : tLo i ≤ c ∧ c ≤ tHi i := by
  have := rowFrom_fits c 9 0 i h
  simpa [fitsRow] using this
/-- What a whole sequence is made of. -/
theorem good_parts {a : UInt8} {r : List UInt8} {i : Nat} (h : rowOf a.toNat = some i) (hf : ¬ fits (tLo2 i) (tHi2 i) (tSz i - 1) r + 1 < tSz i) :
    tSz i ≤ r.length + 1 ∧ tMk i ≤ a.toNat ∧ a.toNat - tMk i < 128 ∧ ∀ j, 0 < j → j < tSz i → 128 ≤ ((a :: r).getD j 0).toNat ∧ ((a :: r).getD j 0).toNat ≤ 191 := by
  have hi := rowOf_lt h
  have hs := sz_pos i hi
  obtain ⟨m1, m2, m3⟩ := tab_mk i hi
  obtain ⟨r1, r2⟩ := rowOf_fits h
  have hm := fits_max (tLo2 i) (tHi2 i) (tSz i - 1) r
  have hl := fits_le (tLo2 i) (tHi2 i) (tSz i - 1) r
  refine ⟨by omega, by omega, by omega, fun j h0 hj => ?_⟩
  obtain ⟨x, y⟩ := fits_all (tSz i - 1) _ _ r (m3 (by omega)).1 (m3 (by omega)).2 (by omega)
  obtain ⟨k, rfl⟩ : ∃ k, j = k + 1 := ⟨j - 1, by omega⟩
  simpa using y k (by omega)
theorem pt_nonneg (l : List UInt8) (c0 : Int) (h0 : 0 ≤ c0) (n : Nat) (h : ∀ j, 0 < j → j < n + 1 → 128 ≤ (l.getD j 0).toNat) : 0 ≤ ptL l c0 n := by
  induction n with
  | zero => exact h0
  | succ n ih =>
    have a := ih (fun j h1 h2 => h j h1 (by omega))
    have b := h (n + 1) (by omega) (by omega)
    rw [ptL]
    omega
theorem ptL_take (l : List UInt8) (c0 : Int) (m : Nat) : ∀ j, j < m → ptL (l.take m) c0 j = ptL l c0 j := by
  intro j
  induction j with
  | zero => intro _; rfl
  | succ j ih =>
    intro hj
    rw [ptL, ptL, ih (by omega)]
    congr 3
    rw [List.getD_eq_getElem?_getD, List.getD_eq_getElem?_getD, List.getElem?_take, if_pos hj]
theorem row3 {w : World} {g : Nat} {a b c : Value} {t : TypeId} (h : w.heap[g]? = some (.cells #[a, b, c] t (0, 0))) :
    (w.cell? ⟨g, 0, none⟩ = some a ∧ w.cell? ⟨g, 1, none⟩ = some b ∧ w.cell? ⟨g, 2, none⟩ = some c) ∧ w.frozen? ⟨g, 0, none⟩ = false ∧ w.frozen? ⟨g, 1, none⟩ = false ∧ w.frozen? ⟨g, 2, none⟩ = false := by
  refine ⟨⟨?_, ?_, ?_⟩, frozen_of_row w g _ _ t h, frozen_of_row w g _ _ t h, frozen_of_row w g _ _ t h⟩ <;> (rw [cell_of_row w g _ _ t _ h]; rfl)
theorem set3 {w : World} {g : Nat} {a b c : Value} {t : TypeId} (a' b' c' : Value) (h : w.heap[g]? = some (.cells #[a, b, c] t (0, 0))) :
    (((w.setCell ⟨g, 0, none⟩ a').setCell ⟨g, 1, none⟩ b').setCell ⟨g, 2, none⟩ c').heap[g]? = some (.cells #[a', b', c'] t (0, 0)) := by
  have h0 := heap_setCell_same w g 0 _ t a' h
  have h1 := heap_setCell_same _ g 1 _ t b' h0
  exact heap_setCell_same _ g 2 _ t c' h1
theorem Own3.later {w w' : World} {g : Nat} {o : Obj} (h : w.heap[g]? = some o) (hb : Below w.heap.size w w') : w'.heap[g]? = some o := (hb.block g (Array.getElem?_eq_some_iff.1 h).1).trans h
set_option maxRecDepth 10000 in
set_option maxHeartbeats 800000 in
theorem unitAt_any (s : ByteArray) (k : Nat) (hk : k < s.size) (hs : s.size ≤ 140737488355328) (w : World) (hT : SeqAt w) :
    Calls Tryd.prog 45 #[.string s, .int .i64 (k : Int)] w fun e w' => e = .returned (unitVal (uniOf (s.data.toList.drop k)).1 k (k + (uniOf (s.data.toList.drop k)).2)) ∧ Below w.heap.size w w' := by
  have hm := fun w hT => begun_any s k hk hs w hT
  have hl := drop_cons s k hk
  have HT : Hid (SeqAt w) := hT
  clear hT
  cases hr : rowOf s[k].toNat with
  | none =>
    have HG : Hid (uniOf (s.data.toList.drop k) = (-1, 1)) := by show _ = _; rw [hl, uniOf, good_none hr]
    rw [hl, begunVal, begun_none hr] at hm
    have HM := (show Hid _ from hm)
    clear hl hr hm
    go_enter Tryd.func45, Tryd.ntmps45
    go_wp2_with (go_at_call 55; refine (HM.out _ (HT.out.later (by go_grown))).mono ?_; rintro e w' ⟨rfl, hb⟩; simp only [noRow]; have HR : Hid ((w'.alloc (.cells #[.int .u8 0, .int .u8 0, .int .u8 0, .int .u8 0, .int .i64 0, .int .u8 0] 95)).heap[w.heap.size]? = _) := Own3.later (boxRow hb) (alloc_below _ _); obtain ⟨⟨c0, c1, c2⟩, f0, f1, f2⟩ := row3 HR.out; have hB : Below w.heap.size w w' := ((Below.refl _ _).alloc (Nat.le_refl _) _).trans (hb.mono (by simp)); have hsz := hB.size; clear hb)
    (try simp only [Exit.inBlock, Exit.then])
    refine bodyPost_ret (results_cell_row rfl _ _ w.heap.size 28 _ (0, 0) _ rfl (set3 _ _ _ HR.out) Tryd.underlying28 rfl (by kernel_rfl)) rfl ?_
    rw [HG.out]
    exact ⟨by simp [unitVal], by go_grown⟩
  | some i =>
    have hi9 := rowOf_lt hr
    have hsz4 := sz_pos i hi9
    obtain ⟨hl0, hl1, hl2, hl3, hl4, hl5⟩ := tab_lt i hi9
    by_cases hf : fits (tLo2 i) (tHi2 i) (tSz i - 1) (s.data.toList.drop (k + 1)) + 1 < tSz i
    · have HG : Hid (uniOf (s.data.toList.drop k) = (-1, 1)) := by show _ = _; rw [hl, uniOf, good_some hr, if_pos hf]
      rw [hl, begunVal, begun_some hr] at hm
      generalize fits (tLo2 i) (tHi2 i) (tSz i - 1) (s.data.toList.drop (k + 1)) = f at *
      have HM := (show Hid _ from hm)
      have hf1 : ¬ ((f : Int) + 1 = 0) := by omega
      have hf2 : (f : Int) + 1 < (tSz i : Int) := by omega
      clear hl hr hm
      go_enter Tryd.func45, Tryd.ntmps45
      go_wp2_with (go_at_call 55; refine (HM.out _ (HT.out.later (by go_grown))).mono ?_; rintro e w' ⟨rfl, hb⟩; simp only [rowVal]; have HR : Hid ((w'.alloc (.cells #[.int .u8 (tLo i), .int .u8 (tHi i), .int .u8 (tLo2 i), .int .u8 (tHi2 i), .int .i64 (tSz i), .int .u8 (tMk i)] 95)).heap[w.heap.size]? = _) := Own3.later (boxRow hb) (alloc_below _ _); obtain ⟨⟨c0, c1, c2⟩, f0, f1, f2⟩ := row3 HR.out; have hB : Below w.heap.size w w' := ((Below.refl _ _).alloc (Nat.le_refl _) _).trans (hb.mono (by simp)); have hsz := hB.size; clear hb)
      (try simp only [Exit.inBlock, Exit.then])
      refine bodyPost_ret (results_cell_row rfl _ _ w.heap.size 28 _ (0, 0) _ rfl (set3 _ _ _ HR.out) Tryd.underlying28 rfl (by kernel_rfl)) rfl ?_
      rw [HG.out]
      exact ⟨by simp [unitVal], by go_grown⟩
    · have hfe : fits (tLo2 i) (tHi2 i) (tSz i - 1) (s.data.toList.drop (k + 1)) + 1 = tSz i := by
        have := fits_max (tLo2 i) (tHi2 i) (tSz i - 1) (s.data.toList.drop (k + 1)); omega
      obtain ⟨g1, g2, g3, g4⟩ := good_parts hr hf
      obtain ⟨P, hP⟩ : ∃ P : Nat, (P : Int) = ptL (s.data.toList.drop k) ((s[k].toNat : Int) - tMk i) (tSz i - 1) := by
        refine ⟨(ptL (s.data.toList.drop k) ((s[k].toNat : Int) - tMk i) (tSz i - 1)).toNat, Int.toNat_of_nonneg ?_⟩
        exact pt_nonneg _ _ (by omega) _ (fun j h0 hj => by rw [hl]; exact (g4 j h0 (by omega)).1)
      have HG : Hid (uniOf (s.data.toList.drop k) = ((P : Int), tSz i)) := by
        show _ = _
        rw [hl] at hP
        rw [hl, uniOf, good_some hr, if_neg hf, ← hP]
        rfl
      have hxl := extract_take s k (tSz i)
      have hg1 : k + tSz i ≤ s.size := by have := bsize s; rw [List.length_drop, this] at g1; omega
      have hxs : (s.extract k (k + tSz i)).size = tSz i := by rw [← bsize, hxl, List.length_take, List.length_drop, bsize]; omega
      have hat : ∀ j (h : j < (s.extract k (k + tSz i)).size), (s.extract k (k + tSz i))[j] = (s.data.toList.drop k).getD j 0 := fun j h => by
        have e := getD_drop (s.extract k (k + tSz i)) 0 j (by omega)
        simp only [List.drop_zero, Nat.zero_add] at e
        rw [← e, hxl, List.getD_eq_getElem?_getD, List.getD_eq_getElem?_getD, List.getElem?_take, if_pos (by omega)]
      have h00 : (s.data.toList.drop k).getD 0 0 = s[k] := by rw [hl]; rfl
      have hpo := fun w => pointOf_any (s.extract k (k + tSz i)) (tMk i) w (by omega) (by omega) (by rw [hat, h00]; exact g2) (by rw [hat, h00]; exact g3) (fun j h h0 => by rw [hat j h, hl]; exact g4 j h0 (by omega))
      have hpe : ptL (s.extract k (k + tSz i)).data.toList (((s.extract k (k + tSz i))[0].toNat : Int) - (tMk i : Int)) ((s.extract k (k + tSz i)).size - 1) = (P : Int) := by
        rw [hat, h00, hP, hxs, hxl]
        exact ptL_take _ _ _ _ (by omega)
      simp only [hpe] at hpo
      have HPO := (show Hid _ from hpo)
      rw [hl, begunVal, begun_some hr, hfe] at hm
      have HM := (show Hid _ from hm)
      have hd0 : (0 : Int) ≤ (k : Int) := by omega
      have hd1 : (k : Int) ≤ (k : Int) + (tSz i : Int) := by omega
      have hd2 : (k : Int) + (tSz i : Int) ≤ (s.size : Int) := by omega
      have hd4 : ((k : Int) + (tSz i : Int)).toNat = k + tSz i := by omega
      have hf1 : ¬ ((tSz i : Int) = 0) := by omega
      clear hl hr hm hf hfe g1 g2 g3 g4 hP hxl hxs hat h00 hpo hpe
      go_enter Tryd.func45, Tryd.ntmps45
      go_wp2_with (first
        | (go_at_call 55; refine (HM.out _ (HT.out.later (by go_grown))).mono ?_; rintro e w' ⟨rfl, hb⟩; simp only [rowVal]; have HR : Hid ((w'.alloc (.cells #[.int .u8 (tLo i), .int .u8 (tHi i), .int .u8 (tLo2 i), .int .u8 (tHi2 i), .int .i64 (tSz i), .int .u8 (tMk i)] 95)).heap[w.heap.size]? = _) := Own3.later (boxRow hb) (alloc_below _ _); obtain ⟨⟨c0, c1, c2⟩, f0, f1, f2⟩ := row3 HR.out; have hB : Below w.heap.size w w' := ((Below.refl _ _).alloc (Nat.le_refl _) _).trans (hb.mono (by simp)); have hsz := hB.size; clear hb)
        | fail)
      go_region_law (go_simp; go_at_call 56; refine (HPO.out _).mono ?_; rintro e w2 ⟨rfl, rfl⟩)
      all_goals go_wp2
      (try simp only [Exit.inBlock, Exit.then])
      refine bodyPost_ret (results_cell_row rfl _ _ w.heap.size 28 _ (0, 0) _ rfl (set3 _ _ _ HR.out) Tryd.underlying28 rfl (by kernel_rfl)) rfl ?_
      rw [HG.out]
      exact ⟨by simp [unitVal], by go_grown⟩
end Go.Proofs.YtlmbbohhdgeedaaDoor
