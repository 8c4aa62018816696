/-
  RGood2W, UtfGood, UtfEq, UnitW, UListW, NextW, NearM, Lc4W, Lc8W, OwM, LtKW, OwHW, PfM.
-/
import Derived.Test.YtlfeiadgahdgoaaGreatDoorMqb
import Derived.Deep.RegionHeld3
import Derived.Deep.RegionLaw
import Derived.Maps.AppendAt
import Derived.Lib.AppendZeros
import Derived.Deep.DeepAppendRoom
import Derived.Deep.AppendLies
import Derived.Shelf.Strings.BuilderK
import Derived.Lib.AppendStr
import Derived.Lib.Strings
namespace Go.Proofs.YtlfeiadgahdgoaaGreatDoor
open Go.RowKit
/-- What the bytes behind a lead byte make of its point. -/
def ptL (l : List UInt8) (c0 : Int) : Nat → Int
  | 0 => c0
  | j + 1 => ptL l c0 j * 64 + ((l.getD (j + 1) 0).toNat : Int) - 128
def offL (n : Nat) : Int := if n = 2 then 192 else if n = 3 then 224 else if n = 4 then 240 else 0
/-- The point and the size of the well-formed sequence at the beginning, in the reference's way. -/
def refGood (l : List UInt8) : Option (Nat × Nat) := match l with
  | [] => none
  | a :: _ =>
    if sizeL a.toNat = 0 then none else if l.length < sizeL a.toNat then none
    else if scalarP (ptL l ((a.toNat : Int) - offL (sizeL a.toNat)) (sizeL a.toNat - 1)) = true ∧ encL (ptL l ((a.toNat : Int) - offL (sizeL a.toNat)) (sizeL a.toNat - 1)).toNat = l.take (sizeL a.toNat)
    then some ((ptL l ((a.toNat : Int) - offL (sizeL a.toNat)) (sizeL a.toNat - 1)).toNat, sizeL a.toNat) else none
def goodVal (o : Option (Nat × Nat)) : Value := match o with
  | none => .tuple #[.int .i64 0, .int .i64 0]
  | some (p, n) => .tuple #[.int .i64 p, .int .i64 n]
theorem size_le (c : Nat) : sizeL c ≤ 4 := by unfold sizeL; (repeat' split) <;> omega
theorem pt_bound (l : List UInt8) (c0 : Int) (h0 : -300 ≤ c0) (h1 : c0 ≤ 300) (j : Nat) (hj : j ≤ 3) : -100000000 ≤ ptL l c0 j ∧ ptL l c0 j ≤ 100000000 := by
  have a1 := (l.getD 1 0).toNat_lt
  have a2 := (l.getD 2 0).toNat_lt
  have a3 := (l.getD 3 0).toNat_lt
  obtain rfl | rfl | rfl | rfl : j = 0 ∨ j = 1 ∨ j = 2 ∨ j = 3 := by omega
  all_goals (simp only [ptL, Nat.zero_add, Nat.reduceAdd]; omega)
theorem off_bound (c n : Nat) (hc : c < 256) : -300 ≤ (c : Int) - offL n ∧ (c : Int) - offL n ≤ 300 := by unfold offL; (repeat' split) <;> omega
theorem getD_drop (s : ByteArray) (k j : Nat) (h : k + j < s.size) : (s.data.toList.drop k).getD j 0 = s[k + j] := by
  have h2 : k + j < s.data.toList.length := by simpa using h
  rw [List.getD_eq_getElem?_getD, List.getElem?_drop, List.getElem?_eq_getElem h2]
  rfl
theorem extract_take (s : ByteArray) (k n : Nat) : (s.extract k (k + n)).data.toList = (s.data.toList.drop k).take n := by
  simp [ByteArray.data_extract]
set_option maxRecDepth 10000 in
set_option maxHeartbeats 800000 in
theorem refGood_any (s : ByteArray) (k : Nat) (hk : k < s.size) (hs : s.size ≤ 140737488355328) (w : World) :
    Calls Tryz.prog 82 #[.string s, .int .i64 (k : Int)] w fun e w' => e = .returned (goodVal (refGood (s.data.toList.drop k))) ∧ Below w.heap.size w w' := by
  have HL : Hid (s.data.toList.drop k = s[k] :: s.data.toList.drop (k + 1)) := drop_cons s k hk
  have HLen : Hid ((s.data.toList.drop k).length = s.size - k) := by show _ = _; rw [List.length_drop, bsize]
  obtain ⟨n, hn⟩ : ∃ n, n = sizeL s[k].toNat := ⟨_, rfl⟩
  have hsz := fun w => refSize_any s[k] w
  rw [← hn] at hsz
  have hn4 := size_le s[k].toNat
  rw [← hn] at hn4
  by_cases h0 : n = 0
  · have HG : Hid (goodVal (refGood (s.data.toList.drop k)) = .tuple #[.int .i64 0, .int .i64 0]) := by show _ = _; rw [HL.out, refGood, if_pos (by rw [← hn]; exact h0)]; rfl
    clear hn
    subst h0
    clear HL HLen
    go_enter Tryz.func82, Tryz.ntmps82
    go_wp2_with (go_at_call 114; refine (hsz _).mono ?_; rintro e w' ⟨rfl, rfl⟩)
    go_ret2
    exact ⟨by rw [HG.out]; rfl, Below.refl _ _⟩
  · by_cases h1 : s.size < k + n
    · have HG : Hid (goodVal (refGood (s.data.toList.drop k)) = .tuple #[.int .i64 0, .int .i64 0]) := by
        show _ = _
        rw [HL.out, refGood, ← hn, if_neg h0, ← HL.out, HLen.out, if_pos (by omega)]; rfl
      clear HL HLen hn
      go_enter Tryz.func82, Tryz.ntmps82
      go_wp2_with (go_at_call 114; refine (hsz _).mono ?_; rintro e w' ⟨rfl, rfl⟩)
      go_ret2
      exact ⟨by rw [HG.out]; rfl, Below.refl _ _⟩
    · obtain ⟨l, hl⟩ : ∃ l, l = s.data.toList.drop k := ⟨_, rfl⟩
      obtain ⟨c0, hc0⟩ : ∃ c0 : Int, c0 = (s[k].toNat : Int) - offL n := ⟨_, rfl⟩
      have HG : Hid (goodVal (refGood (s.data.toList.drop k)) = goodVal (if scalarP (ptL l c0 (n - 1)) = true ∧ encL (ptL l c0 (n - 1)).toNat = l.take n then some ((ptL l c0 (n - 1)).toNat, n) else none)) := by
        show _ = _
        rw [HL.out, refGood, ← hn, if_neg h0, ← HL.out, HLen.out, if_neg (by omega), hc0, hl]
      have hld := fun w => refLead_any s[k] n (by omega) w
      have hob := off_bound s[k].toNat n s[k].toNat_lt
      have e0 : (s[k].toNat : Int) - (if n = 2 then 192 else if n = 3 then 224 else if n = 4 then 240 else 0) = c0 := hc0.symm
      rw [← hc0] at hob
      simp only [e0] at hld
      have HA : Hid (∀ j, (h : k + j < s.size) → l.getD j 0 = s[k + j]) := fun j hj => by rw [hl]; exact getD_drop s k j hj
      have HX : Hid ((s.extract k (k + n)).data.toList = l.take n) := by show _ = _; rw [hl]; exact extract_take s k n
      have hz : ((n : Int) == 0) = false := by simp; omega
      have hd : ¬ ((s.size : Int) < (k : Int) + (n : Int)) := by omega
      clear HL HLen hn e0 hc0 hl
      go_enter Tryz.func82, Tryz.ntmps82
      go_wp2_with (first
        | (go_at_call 114; refine (hsz _).mono ?_; rintro e w' ⟨rfl, rfl⟩)
        | (go_at_call 115; refine (hld _).mono ?_; rintro e w' ⟨rfl, rfl⟩)
        | fail)

      go_loop [7, 8] (fun p i => ∃ j : Nat, j + 1 ≤ n ∧ i = .int .i64 ((j : Int) + 1) ∧ p = .int .i64 (ptL l c0 j)) (fun _ i => 4 - (intOf i).toNat)
      case atStart => exact ⟨0, by omega, rfl, rfl⟩
      case round =>
        obtain ⟨j, hj, rfl, rfl⟩ := hrel
        by_cases hlt : j + 1 < n
        · have hb1 := pt_bound l c0 hob.1 hob.2 j (by omega)
          have HP : Hid (ptL l c0 (j + 1) = ptL l c0 j * 64 + (s[k + (j + 1)].toNat : Int) - 128) := by
            show _ = _
            rw [ptL, HA.out (j + 1) (by omega)]
          have hb2 := s[k + (j + 1)].toNat_lt
          clear HA HX HG hsz hld
          generalize ptL l c0 j = q at *
          go_wp2
          go_round
          case rel => exact ⟨j + 1, by omega, by go_num, by rw [HP.out]⟩
          case measure => simp [intOf]; omega
        · obtain rfl : n = j + 1 := by omega
          have e1 : j + 1 - 1 = j := by omega
          rw [e1] at HG
          have hb1 := pt_bound l c0 hob.1 hob.2 j (by omega)
          clear e1 hsz hld hob
          generalize ptL l c0 j = q at *
          have hsc := fun w => refScalar_any q w
          cases hq : scalarP q with
          | false =>
            rw [hq] at HG hsc
            have HN : Hid (goodVal (refGood (s.data.toList.drop k)) = .tuple #[.int .i64 0, .int .i64 0]) := by show _ = _; rw [HG.out, if_neg (by simp)]; rfl
            clear HG HX HA hq
            go_wp2_with (go_at_call 116; refine (hsc _).mono ?_; rintro e w1 ⟨rfl, rfl⟩)
            go_region
            all_goals go_wp2
            all_goals
              go_ret2
              exact ⟨by rw [HN.out]; rfl, by go_grown⟩
          | true =>
            have hq0 : 0 ≤ q ∧ q ≤ 1114111 := by
              simp only [scalarP, Bool.and_eq_true, decide_eq_true_eq] at hq
              exact hq.1
            obtain ⟨m, rfl⟩ : ∃ m : Nat, q = (m : Int) := ⟨q.toNat, by omega⟩
            rw [hq] at HG hsc
            have hone := fun w => refOne_any m w (by omega)
            by_cases he : (⟨(encL m).toArray⟩ : ByteArray) = s.extract k (k + (j + 1))
            · have HN : Hid (goodVal (refGood (s.data.toList.drop k)) = .tuple #[.int .i64 (m : Int), .int .i64 ((j + 1 : Nat) : Int)]) := by
                show _ = _
                rw [HG.out, if_pos ⟨rfl, by rw [← HX.out, ← he]; rfl⟩]; rfl
              clear HG HX HA hq
              go_wp2_with (go_at_call 116; refine (hsc _).mono ?_; rintro e w1 ⟨rfl, rfl⟩)
              have hd0 : (0 : Int) ≤ (k : Int) := by omega
              have hd1 : (k : Int) ≤ (k : Int) + ((j : Int) + 1) := by omega
              have hd2 : (k : Int) + ((j : Int) + 1) ≤ (s.size : Int) := by omega
              have hd3 : (0 : Int) ≤ (k : Int) + ((j : Int) + 1) := by omega
              have hw0 : IntKind.i64.wrap ((k : Int) + ((j : Int) + 1)) = (k : Int) + ((j : Int) + 1) := IntWalk.i64_in _ (by omega)
              have hw1 : wrap64 ((k : Int) + ((j : Int) + 1)) = (k : Int) + ((j : Int) + 1) := IntWalk.wrap64_in _ (by omega)
              have hd4 : ((k : Int) + ((j : Int) + 1)).toNat = k + (j + 1) := by omega
              go_region_held3 (fun _ => True) (trivial) ((first | (go_at_call 117; refine (hone _).mono ?_; rintro e w2 ⟨rfl, hB⟩)))
              all_goals go_wp2
              all_goals
                go_ret2
                exact ⟨by rw [HN.out]; rfl, by first | exact hB | exact ((Below.refl _ _).drew).trans hB | trace_state⟩
            · have HN : Hid (goodVal (refGood (s.data.toList.drop k)) = .tuple #[.int .i64 0, .int .i64 0]) := by
                show _ = _
                rw [HG.out, if_neg (fun h => he (by
                  have h2 := h.2
                  rw [← HX.out] at h2
                  apply ByteArray.ext
                  apply Array.toList_inj.1
                  exact h2))]; rfl
              have hne : (encL m == (s.extract k (k + (j + 1))).toList) = false := by
                rw [beq_eq_false_iff_ne]
                intro h2
                rw [ByteArray.toList_eq] at h2
                exact he (ByteArray.ext (Array.toList_inj.1 h2))
              clear HG HX HA hq
              go_wp2_with (go_at_call 116; refine (hsc _).mono ?_; rintro e w1 ⟨rfl, rfl⟩)
              have hd0 : (0 : Int) ≤ (k : Int) := by omega
              have hd1 : (k : Int) ≤ (k : Int) + ((j : Int) + 1) := by omega
              have hd2 : (k : Int) + ((j : Int) + 1) ≤ (s.size : Int) := by omega
              have hd3 : (0 : Int) ≤ (k : Int) + ((j : Int) + 1) := by omega
              have hw0 : IntKind.i64.wrap ((k : Int) + ((j : Int) + 1)) = (k : Int) + ((j : Int) + 1) := IntWalk.i64_in _ (by omega)
              have hw1 : wrap64 ((k : Int) + ((j : Int) + 1)) = (k : Int) + ((j : Int) + 1) := IntWalk.wrap64_in _ (by omega)
              have hd4 : ((k : Int) + ((j : Int) + 1)).toNat = k + (j + 1) := by omega
              go_region_held3 (fun _ => True) (trivial) ((first | (go_at_call 117; refine (hone _).mono ?_; rintro e w2 ⟨rfl, hB⟩)))
              all_goals go_wp2
              all_goals
                go_ret2
                exact ⟨by rw [HN.out]; rfl, by first | exact hB | exact ((Below.refl _ _).drew).trans hB | trace_state⟩
end Go.Proofs.YtlfeiadgahdgoaaGreatDoor
namespace Go.Proofs.YtlfeiadgahdgoaaGreatDoor
open Go.RowKit
/-- The point and the size of the well-formed sequence at the beginning, by the table. -/
def goodOf (l : List UInt8) : Option (Nat × Nat) := match begunOf l with
  | none => none
  | some (i, f) => if f < tSz i then none else some ((ptL l (((l.getD 0 0).toNat : Int) - tMk i) (tSz i - 1)).toNat, tSz i)
theorem row_if : ∀ c < 256, rowOf c = if c < 128 then some 0 else if c < 194 then none else if c < 224 then some 1 else if c = 224 then some 2 else if c < 237 then some 3 else if c = 237 then some 4 else if c < 240 then some 5 else if c = 240 then some 6 else if c < 244 then some 7 else if c = 244 then some 8 else none := by decide +kernel
theorem row_cases (c : Nat) (hc : c < 256) : (rowOf c = some 0 ∧ c < 128) ∨ (rowOf c = none ∧ 128 ≤ c ∧ c < 192) ∨ (rowOf c = none ∧ 192 ≤ c ∧ c < 194) ∨ (rowOf c = some 1 ∧ 194 ≤ c ∧ c < 224) ∨ (rowOf c = some 2 ∧ c = 224) ∨ (rowOf c = some 3 ∧ 225 ≤ c ∧ c < 237) ∨ (rowOf c = some 4 ∧ c = 237) ∨ (rowOf c = some 5 ∧ 238 ≤ c ∧ c < 240) ∨ (rowOf c = some 6 ∧ c = 240) ∨ (rowOf c = some 7 ∧ 241 ≤ c ∧ c < 244) ∨ (rowOf c = some 8 ∧ c = 244) ∨ (rowOf c = none ∧ 245 ≤ c ∧ c < 248) ∨ (rowOf c = none ∧ 248 ≤ c) := by
  rw [row_if c hc]
  (repeat' split) <;> (simp; try omega)
theorem u8eq (n : Nat) (a : UInt8) : UInt8.ofNat n = a ↔ n % 256 = a.toNat := by
  rw [← UInt8.toNat_inj, UInt8.toNat_ofNat']
theorem enc_one (n : Nat) (a : UInt8) : encL n = [a] ↔ n < 128 ∧ n % 256 = a.toNat := by
  unfold encL
  split
  · simp [u8eq]; omega
  · split
    · simp; omega
    · split <;> (simp; omega)
theorem enc_two (n : Nat) (a b : UInt8) : encL n = [a, b] ↔ (128 ≤ n ∧ n < 2048) ∧ 192 + n / 64 = a.toNat ∧ 128 + n % 64 = b.toNat := by
  unfold encL
  split
  · simp; omega
  · split
    · simp only [List.cons.injEq, and_true, u8eq]; omega
    · split <;> (simp; omega)
theorem enc_three (n : Nat) (a b c : UInt8) : encL n = [a, b, c] ↔ (2048 ≤ n ∧ n < 65536) ∧ 224 + n / 4096 = a.toNat ∧ 128 + n / 64 % 64 = b.toNat ∧ 128 + n % 64 = c.toNat := by
  unfold encL
  split
  · simp; omega
  · split
    · simp; omega
    · split
      · simp only [List.cons.injEq, and_true, u8eq]; omega
      · simp; omega
theorem enc_four (n : Nat) (hn : n < 1114112) (a b c d : UInt8) : encL n = [a, b, c, d] ↔ 65536 ≤ n ∧ 240 + n / 262144 = a.toNat ∧ 128 + n / 4096 % 64 = b.toNat ∧ 128 + n / 64 % 64 = c.toNat ∧ 128 + n % 64 = d.toNat := by
  unfold encL
  split
  · simp; omega
  · split
    · simp; omega
    · split
      · simp; omega
      · simp only [List.cons.injEq, and_true, u8eq]; omega
theorem scalar_iff (p : Int) : scalarP p = true ↔ 0 ≤ p ∧ p ≤ 1114111 ∧ (p < 55296 ∨ 57343 < p) := by
  simp [scalarP, Bool.and_eq_true, Bool.or_eq_true, and_assoc]
theorem begun_none {a : UInt8} {r : List UInt8} (h : rowOf a.toNat = none) : begunOf (a :: r) = none := by rw [begunOf]; simp only [h]
theorem begun_some {a : UInt8} {r : List UInt8} {i : Nat} (h : rowOf a.toNat = some i) : begunOf (a :: r) = some (i, fits (tLo2 i) (tHi2 i) (tSz i - 1) r + 1) := by rw [begunOf]; simp only [h]
theorem good_none {a : UInt8} {r : List UInt8} (h : rowOf a.toNat = none) : goodOf (a :: r) = none := by rw [goodOf, begun_none h]
theorem good_some {a : UInt8} {r : List UInt8} {i : Nat} (h : rowOf a.toNat = some i) : goodOf (a :: r) = if fits (tLo2 i) (tHi2 i) (tSz i - 1) r + 1 < tSz i then none else some ((ptL (a :: r) ((a.toNat : Int) - tMk i) (tSz i - 1)).toNat, tSz i) := by
  rw [goodOf, begun_some h]; rfl
theorem fits_le (lo hi n : Nat) (l : List UInt8) : fits lo hi n l ≤ l.length := by
  induction n generalizing lo hi l with
  | zero => simp [fits]
  | succ n ih =>
    cases l with
    | nil => simp [fits]
    | cons b l => rw [fits]; have := ih 128 191 l; split <;> (simp; try omega)
/-- Where the bytes are there: in the table's way and in the reference's way alike. -/
def refTest (l : List UInt8) (n : Nat) (c0 : Int) : Option (Nat × Nat) :=
  if scalarP (ptL l c0 (n - 1)) = true ∧ encL (ptL l c0 (n - 1)).toNat = l.take n then some ((ptL l c0 (n - 1)).toNat, n) else none
theorem ref_cons (a : UInt8) (r : List UInt8) (n : Nat) (hn : sizeL a.toNat = n) : refGood (a :: r) = if n = 0 then none else if r.length + 1 < n then none else refTest (a :: r) n ((a.toNat : Int) - offL n) := by
  rw [refGood, hn]; rfl
theorem test1 (a : UInt8) (r : List UInt8) (h : a.toNat < 128) : refTest (a :: r) 1 ((a.toNat : Int) - offL 1) = some (a.toNat, 1) := by
  have e : ptL (a :: r) ((a.toNat : Int) - offL 1) (1 - 1) = (a.toNat : Int) := by simp [ptL, offL]
  rw [refTest, e, if_pos ⟨(scalar_iff _).2 (by omega), by
    rw [List.take_succ_cons, List.take_zero, enc_one]; simp; omega⟩]
  rfl
theorem test2 (a b : UInt8) (r : List UInt8) (h0 : 192 ≤ a.toNat) (h1 : a.toNat < 224) :
    refTest (a :: b :: r) 2 ((a.toNat : Int) - offL 2) = if 194 ≤ a.toNat ∧ 128 ≤ b.toNat ∧ b.toNat ≤ 191 then some ((ptL (a :: b :: r) ((a.toNat : Int) - 192) 1).toNat, 2) else none := by
  have e : ptL (a :: b :: r) ((a.toNat : Int) - offL 2) (2 - 1) = ((a.toNat : Int) - 192) * 64 + (b.toNat : Int) - 128 := by simp [ptL, offL]
  have e' : ptL (a :: b :: r) ((a.toNat : Int) - 192) 1 = ((a.toNat : Int) - 192) * 64 + (b.toNat : Int) - 128 := by simp [ptL]
  have hb := b.toNat_lt
  rw [refTest, e, e', List.take_succ_cons, List.take_succ_cons, List.take_zero]
  by_cases h : 194 ≤ a.toNat ∧ 128 ≤ b.toNat ∧ b.toNat ≤ 191
  · rw [if_pos h, if_pos ⟨(scalar_iff _).2 (by omega), (enc_two _ _ _).2 (by omega)⟩]
  · rw [if_neg h, if_neg (fun q => h (by
      have q1 := (scalar_iff _).1 q.1
      have q2 := (enc_two _ _ _).1 q.2
      clear q h
      omega))]
theorem test3 (a b c : UInt8) (r : List UInt8) (h0 : 224 ≤ a.toNat) (h1 : a.toNat < 240) :
    refTest (a :: b :: c :: r) 3 ((a.toNat : Int) - offL 3) = if (128 ≤ b.toNat ∧ b.toNat ≤ 191 ∧ 128 ≤ c.toNat ∧ c.toNat ≤ 191) ∧ (a.toNat = 224 → 160 ≤ b.toNat) ∧ (a.toNat = 237 → b.toNat ≤ 159) then some ((ptL (a :: b :: c :: r) ((a.toNat : Int) - 224) 2).toNat, 3) else none := by
  have e : ptL (a :: b :: c :: r) ((a.toNat : Int) - offL 3) (3 - 1) = (((a.toNat : Int) - 224) * 64 + (b.toNat : Int) - 128) * 64 + (c.toNat : Int) - 128 := by simp [ptL, offL]
  have e' : ptL (a :: b :: c :: r) ((a.toNat : Int) - 224) 2 = (((a.toNat : Int) - 224) * 64 + (b.toNat : Int) - 128) * 64 + (c.toNat : Int) - 128 := by simp [ptL]
  have hb := b.toNat_lt
  have hc := c.toNat_lt
  rw [refTest, e, e', List.take_succ_cons, List.take_succ_cons, List.take_succ_cons, List.take_zero]
  by_cases h : (128 ≤ b.toNat ∧ b.toNat ≤ 191 ∧ 128 ≤ c.toNat ∧ c.toNat ≤ 191) ∧ (a.toNat = 224 → 160 ≤ b.toNat) ∧ (a.toNat = 237 → b.toNat ≤ 159)
  · rw [if_pos h, if_pos ⟨(scalar_iff _).2 (by omega), (enc_three _ _ _ _).2 (by omega)⟩]
  · rw [if_neg h, if_neg (fun q => h (by
      have q1 := (scalar_iff _).1 q.1
      have q2 := (enc_three _ _ _ _).1 q.2
      clear q h
      omega))]
theorem test4 (a b c d : UInt8) (r : List UInt8) (h0 : 240 ≤ a.toNat) (h1 : a.toNat < 248) :
    refTest (a :: b :: c :: d :: r) 4 ((a.toNat : Int) - offL 4) = if a.toNat ≤ 244 ∧ (128 ≤ b.toNat ∧ b.toNat ≤ 191 ∧ 128 ≤ c.toNat ∧ c.toNat ≤ 191 ∧ 128 ≤ d.toNat ∧ d.toNat ≤ 191) ∧ (a.toNat = 240 → 144 ≤ b.toNat) ∧ (a.toNat = 244 → b.toNat ≤ 143) then some ((ptL (a :: b :: c :: d :: r) ((a.toNat : Int) - 240) 3).toNat, 4) else none := by
  have e : ptL (a :: b :: c :: d :: r) ((a.toNat : Int) - offL 4) (4 - 1) = ((((a.toNat : Int) - 240) * 64 + (b.toNat : Int) - 128) * 64 + (c.toNat : Int) - 128) * 64 + (d.toNat : Int) - 128 := by simp [ptL, offL]
  have e' : ptL (a :: b :: c :: d :: r) ((a.toNat : Int) - 240) 3 = ((((a.toNat : Int) - 240) * 64 + (b.toNat : Int) - 128) * 64 + (c.toNat : Int) - 128) * 64 + (d.toNat : Int) - 128 := by simp [ptL]
  have hb := b.toNat_lt
  have hc := c.toNat_lt
  have hd := d.toNat_lt
  rw [refTest, e, e', List.take_succ_cons, List.take_succ_cons, List.take_succ_cons, List.take_succ_cons, List.take_zero]
  by_cases h : a.toNat ≤ 244 ∧ (128 ≤ b.toNat ∧ b.toNat ≤ 191 ∧ 128 ≤ c.toNat ∧ c.toNat ≤ 191 ∧ 128 ≤ d.toNat ∧ d.toNat ≤ 191) ∧ (a.toNat = 240 → 144 ≤ b.toNat) ∧ (a.toNat = 244 → b.toNat ≤ 143)
  · rw [if_pos h, if_pos ⟨(scalar_iff _).2 (by omega), (enc_four _ (by omega) _ _ _ _).2 (by omega)⟩]
  · rw [if_neg h, if_neg (fun q => h (by
      have q1 := (scalar_iff _).1 q.1
      have q2 := (enc_four _ (by omega) _ _ _ _).1 q.2
      clear q h
      omega))]
end Go.Proofs.YtlfeiadgahdgoaaGreatDoor
namespace Go.Proofs.YtlfeiadgahdgoaaGreatDoor
open Go.RowKit
theorem fits_cons (lo hi n : Nat) (b : UInt8) (l : List UInt8) : fits lo hi (n + 1) (b :: l) = if lo ≤ b.toNat ∧ b.toNat ≤ hi then fits 128 191 n l + 1 else 0 := rfl
theorem fits_zero (lo hi : Nat) (l : List UInt8) : fits lo hi 0 l = 0 := by cases l <;> rfl
theorem fits_nil (lo hi n : Nat) : fits lo hi n [] = 0 := by cases n <;> rfl
theorem good2 {a b : UInt8} {t : List UInt8} {i : Nat} (h : rowOf a.toNat = some i) (hs : tSz i = 2) : goodOf (a :: b :: t) = if tLo2 i ≤ b.toNat ∧ b.toNat ≤ tHi2 i then some ((ptL (a :: b :: t) ((a.toNat : Int) - tMk i) 1).toNat, 2) else none := by
  rw [good_some h, hs, fits_cons, fits_zero]
  by_cases h1 : tLo2 i ≤ b.toNat ∧ b.toNat ≤ tHi2 i
  · rw [if_pos h1, if_pos h1, if_neg (by omega)]
  · rw [if_neg h1, if_neg h1, if_pos (by omega)]
theorem good3 {a b c : UInt8} {t : List UInt8} {i : Nat} (h : rowOf a.toNat = some i) (hs : tSz i = 3) : goodOf (a :: b :: c :: t) = if (tLo2 i ≤ b.toNat ∧ b.toNat ≤ tHi2 i) ∧ 128 ≤ c.toNat ∧ c.toNat ≤ 191 then some ((ptL (a :: b :: c :: t) ((a.toNat : Int) - tMk i) 2).toNat, 3) else none := by
  rw [good_some h, hs, fits_cons, fits_cons, fits_zero]
  by_cases h1 : tLo2 i ≤ b.toNat ∧ b.toNat ≤ tHi2 i
  · by_cases h2 : 128 ≤ c.toNat ∧ c.toNat ≤ 191
    · rw [if_pos h1, if_pos h2, if_neg (by omega), if_pos ⟨h1, h2⟩]
    · rw [if_pos h1, if_neg h2, if_pos (by omega), if_neg (fun q => h2 q.2)]
  · rw [if_neg h1, if_pos (by omega), if_neg (fun q => h1 q.1)]
theorem good4 {a b c d : UInt8} {t : List UInt8} {i : Nat} (h : rowOf a.toNat = some i) (hs : tSz i = 4) : goodOf (a :: b :: c :: d :: t) = if (tLo2 i ≤ b.toNat ∧ b.toNat ≤ tHi2 i) ∧ (128 ≤ c.toNat ∧ c.toNat ≤ 191) ∧ 128 ≤ d.toNat ∧ d.toNat ≤ 191 then some ((ptL (a :: b :: c :: d :: t) ((a.toNat : Int) - tMk i) 3).toNat, 4) else none := by
  rw [good_some h, hs, fits_cons, fits_cons, fits_cons, fits_zero]
  by_cases h1 : tLo2 i ≤ b.toNat ∧ b.toNat ≤ tHi2 i
  · by_cases h2 : 128 ≤ c.toNat ∧ c.toNat ≤ 191
    · by_cases h3 : 128 ≤ d.toNat ∧ d.toNat ≤ 191
      · rw [if_pos h1, if_pos h2, if_pos h3, if_neg (by omega), if_pos ⟨h1, h2, h3⟩]
      · rw [if_pos h1, if_pos h2, if_neg h3, if_pos (by omega), if_neg (fun q => h3 q.2.2)]
    · rw [if_pos h1, if_neg h2, if_pos (by omega), if_neg (fun q => h2 q.2.1)]
  · rw [if_neg h1, if_pos (by omega), if_neg (fun q => h1 q.1)]
theorem good_short {a : UInt8} {r : List UInt8} {i : Nat} (h : rowOf a.toNat = some i) (hs : r.length + 1 < tSz i) : goodOf (a :: r) = none := by
  rw [good_some h, if_pos (by have := fits_le (tLo2 i) (tHi2 i) (tSz i - 1) r; omega)]
theorem size1 {c : Nat} (h : c < 128) : sizeL c = 1 := by rw [sizeL, if_pos h]
theorem size2 {c : Nat} (h : 192 ≤ c) (h1 : c < 224) : sizeL c = 2 := by rw [sizeL, if_neg (by omega), if_pos ⟨h, h1⟩]
theorem size3 {c : Nat} (h : 224 ≤ c) (h1 : c < 240) : sizeL c = 3 := by rw [sizeL, if_neg (by omega), if_neg (by omega), if_pos ⟨h, h1⟩]
theorem size4 {c : Nat} (h : 240 ≤ c) (h1 : c < 248) : sizeL c = 4 := by rw [sizeL, if_neg (by omega), if_neg (by omega), if_neg (by omega), if_pos ⟨h, h1⟩]
theorem size0 {c : Nat} (h : 128 ≤ c) (h1 : c < 192 ∨ 248 ≤ c) : sizeL c = 0 := by rw [sizeL, if_neg (by omega), if_neg (by omega), if_neg (by omega), if_neg (by omega)]
theorem eq_three {a : UInt8} {r : List UInt8} {i : Nat} (h : rowOf a.toNat = some i) (hs : tSz i = 3) (hmk : tMk i = 224) (h0 : 224 ≤ a.toNat) (h1 : a.toNat < 240)
    (hb : ∀ b : Nat, (tLo2 i ≤ b ∧ b ≤ tHi2 i) ↔ (128 ≤ b ∧ b ≤ 191 ∧ (a.toNat = 224 → 160 ≤ b) ∧ (a.toNat = 237 → b ≤ 159))) : refGood (a :: r) = goodOf (a :: r) := by
  rw [ref_cons a r 3 (size3 h0 h1), if_neg (by omega)]
  by_cases hl : r.length + 1 < 3
  · rw [if_pos hl, good_short h (by omega)]
  · rw [if_neg hl]
    match r, hl with
    | [], hl => simp at hl
    | [_], hl => simp at hl
    | b :: c :: t, _ =>
      rw [test3 a b c t h0 h1, good3 h hs, hmk]
      have := hb b.toNat
      by_cases hq : (tLo2 i ≤ b.toNat ∧ b.toNat ≤ tHi2 i) ∧ 128 ≤ c.toNat ∧ c.toNat ≤ 191
      · rw [if_pos hq, if_pos ⟨⟨(this.1 hq.1).1, (this.1 hq.1).2.1, hq.2.1, hq.2.2⟩, (this.1 hq.1).2.2⟩]; rfl
      · rw [if_neg hq, if_neg (fun q => hq ⟨this.2 ⟨q.1.1, q.1.2.1, q.2⟩, q.1.2.2⟩)]
theorem eq_four {a : UInt8} {r : List UInt8} {i : Nat} (h : rowOf a.toNat = some i) (hs : tSz i = 4) (hmk : tMk i = 240) (h0 : 240 ≤ a.toNat) (h1 : a.toNat ≤ 244)
    (hb : ∀ b : Nat, (tLo2 i ≤ b ∧ b ≤ tHi2 i) ↔ (128 ≤ b ∧ b ≤ 191 ∧ (a.toNat = 240 → 144 ≤ b) ∧ (a.toNat = 244 → b ≤ 143))) : refGood (a :: r) = goodOf (a :: r) := by
  rw [ref_cons a r 4 (size4 h0 (by omega)), if_neg (by omega)]
  by_cases hl : r.length + 1 < 4
  · rw [if_pos hl, good_short h (by omega)]
  · rw [if_neg hl]
    match r, hl with
    | [], hl => simp at hl
    | [_], hl => simp at hl
    | [_, _], hl => simp at hl
    | b :: c :: d :: t, _ =>
      rw [test4 a b c d t h0 (by omega), good4 h hs, hmk]
      have := hb b.toNat
      by_cases hq : (tLo2 i ≤ b.toNat ∧ b.toNat ≤ tHi2 i) ∧ (128 ≤ c.toNat ∧ c.toNat ≤ 191) ∧ 128 ≤ d.toNat ∧ d.toNat ≤ 191
      · rw [if_pos hq, if_pos ⟨h1, ⟨(this.1 hq.1).1, (this.1 hq.1).2.1, hq.2.1.1, hq.2.1.2, hq.2.2.1, hq.2.2.2⟩, (this.1 hq.1).2.2⟩]; rfl
      · rw [if_neg hq, if_neg (fun q => hq ⟨this.2 ⟨q.2.1.1, q.2.1.2.1, q.2.2⟩, ⟨q.2.1.2.2.1, q.2.1.2.2.2.1⟩, q.2.1.2.2.2.2⟩)]
theorem refGood_eq (l : List UInt8) : refGood l = goodOf l := by
  cases l with
  | nil => rfl
  | cons a r =>
    have ha := a.toNat_lt
    rcases row_cases a.toNat ha with h | h | h | h | h | h | h | h | h | h | h | h | h
    · rw [ref_cons a r 1 (size1 h.2), if_neg (by omega), if_neg (by omega), test1 a r h.2, good_some h.1, if_neg (by rw [show tSz 0 = 1 from rfl, show (1 : Nat) - 1 = 0 from rfl, fits_zero]; omega)]
      simp [tSz, tMk, ptL]
    · rw [ref_cons a r 0 (size0 h.2.1 (.inl h.2.2)), if_pos rfl, good_none h.1]
    · rw [ref_cons a r 2 (size2 h.2.1 (by omega)), if_neg (by omega), good_none h.1]
      split
      · rfl
      · rename_i hl
        match r, hl with
        | [], hl => simp at hl
        | b :: t, _ => rw [test2 a b t h.2.1 (by omega), if_neg (by omega)]
    · rw [ref_cons a r 2 (size2 (by omega) (by omega)), if_neg (by omega)]
      by_cases hl : r.length + 1 < 2
      · rw [if_pos hl, good_short h.1 (by rw [show tSz 1 = 2 from rfl]; omega)]
      · rw [if_neg hl]
        match r, hl with
        | [], hl => simp at hl
        | b :: t, _ =>
          rw [test2 a b t (by omega) (by omega), good2 h.1 rfl]
          by_cases hq : 128 ≤ b.toNat ∧ b.toNat ≤ 191
          · rw [if_pos ⟨h.2.1, hq⟩, if_pos (by exact hq)]; rfl
          · rw [if_neg (fun q => hq q.2), if_neg (by exact hq)]
    · exact eq_three h.1 rfl rfl (by omega) (by omega) (fun b => by show (160 ≤ b ∧ b ≤ 191) ↔ _; omega)
    · exact eq_three h.1 rfl rfl (by omega) (by omega) (fun b => by show (128 ≤ b ∧ b ≤ 191) ↔ _; omega)
    · exact eq_three h.1 rfl rfl (by omega) (by omega) (fun b => by show (128 ≤ b ∧ b ≤ 159) ↔ _; omega)
    · exact eq_three h.1 rfl rfl (by omega) (by omega) (fun b => by show (128 ≤ b ∧ b ≤ 191) ↔ _; omega)
    · exact eq_four h.1 rfl rfl (by omega) (by omega) (fun b => by show (144 ≤ b ∧ b ≤ 191) ↔ _; omega)
    · exact eq_four h.1 rfl rfl (by omega) (by omega) (fun b => by show (128 ≤ b ∧ b ≤ 191) ↔ _; omega)
    · exact eq_four h.1 rfl rfl (by omega) (by omega) (fun b => by show (128 ≤ b ∧ b ≤ 143) ↔ _; omega)
    · rw [ref_cons a r 4 (size4 (by omega) h.2.2), if_neg (by omega), good_none h.1]
      split
      · rfl
      · rename_i hl
        match r, hl with
        | [], hl => simp at hl
        | [_], hl => simp at hl
        | [_, _], hl => simp at hl
        | b :: c :: d :: t, _ => rw [test4 a b c d t (by omega) h.2.2, if_neg (by omega)]
    · rw [ref_cons a r 0 (size0 (by omega) (.inr h.2)), if_pos rfl, good_none h.1]
/-- The text made longer: a second byte, then 80s. -/
def padL (l : List UInt8) (sec : UInt8) (n : Nat) : List UInt8 :=
  let t := if l.length = 1 then l ++ [sec] else l
  t ++ List.replicate (n - t.length) 128
def refBegins (l : List UInt8) : Bool := match l with
  | [] => false
  | a :: _ => decide (l.length < sizeL a.toNat) && [128, 144, 160].any fun sec => (goodOf (padL l sec (sizeL a.toNat))).map (·.2) == some (sizeL a.toNat)
theorem pad_cons (a : UInt8) (r : List UInt8) (sec : UInt8) (n : Nat) : ∃ q, padL (a :: r) sec n = a :: q := by
  unfold padL
  cases r with
  | nil => exact ⟨_, rfl⟩
  | cons b r => exact ⟨_, rfl⟩
theorem rb_none {a : UInt8} {r : List UInt8} (h : rowOf a.toNat = none) : refBegins (a :: r) = beginsL (a :: r) := by
  have g : ∀ sec n, goodOf (padL (a :: r) sec n) = none := fun sec n => by obtain ⟨q, hq⟩ := pad_cons a r sec n; rw [hq, good_none h]
  rw [beginsL, begun_none h]
  simp [refBegins, g]
theorem begins_some {a : UInt8} {r : List UInt8} {i : Nat} (h : rowOf a.toNat = some i) : beginsL (a :: r) = (fits (tLo2 i) (tHi2 i) (tSz i - 1) r + 1 == (a :: r).length && decide ((a :: r).length < tSz i)) := by
  rw [beginsL, begun_some h]
theorem rb_long {a : UInt8} {r : List UInt8} {i : Nat} (h : rowOf a.toNat = some i) (hz : sizeL a.toNat = tSz i) (hl : tSz i ≤ r.length + 1) : refBegins (a :: r) = beginsL (a :: r) := by
  rw [begins_some h, refBegins, hz]
  have e : decide ((a :: r).length < tSz i) = false := by simpa using hl
  simp only [e, Bool.false_and, Bool.and_false]
theorem any3 (f : UInt8 → Bool) : [128, 144, 160].any f = (f 128 || f 144 || f 160) := by simp [Bool.or_assoc]
theorem some_beq (n : Nat) (q : Prop) [Decidable q] (p : Nat) : (Option.map (·.2) (if q then some (p, n) else none) == some n) = decide q := by
  by_cases h : q <;> simp [h]
theorem rb2 {a : UInt8} {i : Nat} (h : rowOf a.toNat = some i) (hs : tSz i = 2) (hz : sizeL a.toNat = 2) (hx : tLo2 i ≤ 128 ∧ 128 ≤ tHi2 i) : refBegins [a] = beginsL [a] := by
  have g : ∀ sec : UInt8, goodOf (padL [a] sec 2) = if tLo2 i ≤ sec.toNat ∧ sec.toNat ≤ tHi2 i then some ((ptL [a, sec] ((a.toNat : Int) - tMk i) 1).toNat, 2) else none := fun sec => by
    rw [show padL [a] sec 2 = [a, sec] from rfl, good2 h hs]
  rw [begins_some h, refBegins, hz, any3, g, g, g, some_beq, some_beq, some_beq, fits_nil, hs, show (128 : UInt8).toNat = 128 from rfl, decide_eq_true hx]
  simp
theorem rb3 {a : UInt8} {i : Nat} (h : rowOf a.toNat = some i) (hs : tSz i = 3) (hz : sizeL a.toNat = 3) (hx : (tLo2 i ≤ 128 ∧ 128 ≤ tHi2 i) ∨ (tLo2 i ≤ 144 ∧ 144 ≤ tHi2 i) ∨ (tLo2 i ≤ 160 ∧ 160 ≤ tHi2 i)) : refBegins [a] = beginsL [a] := by
  have g : ∀ sec : UInt8, (Option.map (·.2) (goodOf (padL [a] sec 3)) == some 3) = decide (tLo2 i ≤ sec.toNat ∧ sec.toNat ≤ tHi2 i) := fun sec => by
    rw [show padL [a] sec 3 = [a, sec, 128] from rfl, good3 h hs, some_beq, show (128 : UInt8).toNat = 128 from rfl]
    simp
  rw [begins_some h, refBegins, hz, any3, g, g, g, fits_nil, hs, show (128 : UInt8).toNat = 128 from rfl, show (144 : UInt8).toNat = 144 from rfl, show (160 : UInt8).toNat = 160 from rfl]
  rcases hx with hx | hx | hx <;> simp [hx]
theorem rb4 {a : UInt8} {i : Nat} (h : rowOf a.toNat = some i) (hs : tSz i = 4) (hz : sizeL a.toNat = 4) (hx : (tLo2 i ≤ 128 ∧ 128 ≤ tHi2 i) ∨ (tLo2 i ≤ 144 ∧ 144 ≤ tHi2 i) ∨ (tLo2 i ≤ 160 ∧ 160 ≤ tHi2 i)) : refBegins [a] = beginsL [a] := by
  have g : ∀ sec : UInt8, (Option.map (·.2) (goodOf (padL [a] sec 4)) == some 4) = decide (tLo2 i ≤ sec.toNat ∧ sec.toNat ≤ tHi2 i) := fun sec => by
    rw [show padL [a] sec 4 = [a, sec, 128, 128] from rfl, good4 h hs, some_beq, show (128 : UInt8).toNat = 128 from rfl]
    simp
  rw [begins_some h, refBegins, hz, any3, g, g, g, fits_nil, hs, show (128 : UInt8).toNat = 128 from rfl, show (144 : UInt8).toNat = 144 from rfl, show (160 : UInt8).toNat = 160 from rfl]
  rcases hx with hx | hx | hx <;> simp [hx]
theorem rb32 {a b : UInt8} {i : Nat} (h : rowOf a.toNat = some i) (hs : tSz i = 3) (hz : sizeL a.toNat = 3) : refBegins [a, b] = beginsL [a, b] := by
  have g : ∀ sec : UInt8, (Option.map (·.2) (goodOf (padL [a, b] sec 3)) == some 3) = decide (tLo2 i ≤ b.toNat ∧ b.toNat ≤ tHi2 i) := fun sec => by
    rw [show padL [a, b] sec 3 = [a, b, 128] from rfl, good3 h hs, some_beq, show (128 : UInt8).toNat = 128 from rfl]
    simp
  rw [begins_some h, refBegins, hz, any3, g, g, g, hs, fits_cons, fits_nil]
  by_cases hx : tLo2 i ≤ b.toNat ∧ b.toNat ≤ tHi2 i
  · rw [if_pos hx]; simp [hx]
  · rw [if_neg hx, decide_eq_false hx]; simp
theorem rb42 {a b : UInt8} {i : Nat} (h : rowOf a.toNat = some i) (hs : tSz i = 4) (hz : sizeL a.toNat = 4) : refBegins [a, b] = beginsL [a, b] := by
  have g : ∀ sec : UInt8, (Option.map (·.2) (goodOf (padL [a, b] sec 4)) == some 4) = decide (tLo2 i ≤ b.toNat ∧ b.toNat ≤ tHi2 i) := fun sec => by
    rw [show padL [a, b] sec 4 = [a, b, 128, 128] from rfl, good4 h hs, some_beq, show (128 : UInt8).toNat = 128 from rfl]
    simp
  rw [begins_some h, refBegins, hz, any3, g, g, g, hs, fits_cons, fits_nil]
  by_cases hx : tLo2 i ≤ b.toNat ∧ b.toNat ≤ tHi2 i
  · rw [if_pos hx]; simp [hx]
  · rw [if_neg hx, decide_eq_false hx]; simp
theorem rb43 {a b c : UInt8} {i : Nat} (h : rowOf a.toNat = some i) (hs : tSz i = 4) (hz : sizeL a.toNat = 4) : refBegins [a, b, c] = beginsL [a, b, c] := by
  have g : ∀ sec : UInt8, (Option.map (·.2) (goodOf (padL [a, b, c] sec 4)) == some 4) = decide ((tLo2 i ≤ b.toNat ∧ b.toNat ≤ tHi2 i) ∧ 128 ≤ c.toNat ∧ c.toNat ≤ 191) := fun sec => by
    rw [show padL [a, b, c] sec 4 = [a, b, c, 128] from rfl, good4 h hs, some_beq, show (128 : UInt8).toNat = 128 from rfl]
    simp
  rw [begins_some h, refBegins, hz, any3, g, g, g, hs, fits_cons, fits_cons, fits_nil]
  by_cases hx : tLo2 i ≤ b.toNat ∧ b.toNat ≤ tHi2 i
  · by_cases hy : 128 ≤ c.toNat ∧ c.toNat ≤ 191
    · rw [if_pos hx, if_pos hy, decide_eq_true (⟨hx, hy⟩ : _ ∧ _)]; simp
    · rw [if_pos hx, if_neg hy, decide_eq_false (show ¬ ((tLo2 i ≤ b.toNat ∧ b.toNat ≤ tHi2 i) ∧ 128 ≤ c.toNat ∧ c.toNat ≤ 191) from fun q => hy q.2)]; simp
  · rw [if_neg hx, decide_eq_false (show ¬ ((tLo2 i ≤ b.toNat ∧ b.toNat ≤ tHi2 i) ∧ 128 ≤ c.toNat ∧ c.toNat ≤ 191) from fun q => hx q.1)]; simp
theorem refBegins_eq (l : List UInt8) (h3 : l.length ≤ 3) : refBegins l = beginsL l := by
  cases l with
  | nil => rfl
  | cons a r =>
    have ha := a.toNat_lt
    have S3 : ∀ i, rowOf a.toNat = some i → tSz i = 3 → sizeL a.toNat = 3 → ((tLo2 i ≤ 128 ∧ 128 ≤ tHi2 i) ∨ (tLo2 i ≤ 144 ∧ 144 ≤ tHi2 i) ∨ (tLo2 i ≤ 160 ∧ 160 ≤ tHi2 i)) → refBegins (a :: r) = beginsL (a :: r) := by
      intro i h hs hz hx
      match r, h3 with
      | [], _ => exact rb3 h hs hz hx
      | [b], _ => exact rb32 h hs hz
      | b :: c :: t, _ => exact rb_long h (by rw [hz, hs]) (by rw [hs]; simp)
    have S4 : ∀ i, rowOf a.toNat = some i → tSz i = 4 → sizeL a.toNat = 4 → ((tLo2 i ≤ 128 ∧ 128 ≤ tHi2 i) ∨ (tLo2 i ≤ 144 ∧ 144 ≤ tHi2 i) ∨ (tLo2 i ≤ 160 ∧ 160 ≤ tHi2 i)) → refBegins (a :: r) = beginsL (a :: r) := by
      intro i h hs hz hx
      match r, h3 with
      | [], _ => exact rb4 h hs hz hx
      | [b], _ => exact rb42 h hs hz
      | [b, c], _ => exact rb43 h hs hz
      | b :: c :: d :: t, h3 => simp at h3
    rcases row_cases a.toNat ha with h | h | h | h | h | h | h | h | h | h | h | h | h
    · exact rb_long h.1 (size1 h.2) (by rw [show tSz 0 = 1 from rfl]; omega)
    · exact rb_none h.1
    · exact rb_none h.1
    · match r, h3 with
      | [], _ => exact rb2 h.1 rfl (size2 (by omega) (by omega)) (by decide)
      | b :: t, _ => exact rb_long h.1 (size2 (by omega) (by omega)) (by rw [show tSz 1 = 2 from rfl]; simp)
    · exact S3 2 h.1 rfl (size3 (by omega) (by omega)) (by decide)
    · exact S3 3 h.1 rfl (size3 (by omega) (by omega)) (by decide)
    · exact S3 4 h.1 rfl (size3 (by omega) (by omega)) (by decide)
    · exact S3 5 h.1 rfl (size3 (by omega) (by omega)) (by decide)
    · exact S4 6 h.1 rfl (size4 (by omega) (by omega)) (by decide)
    · exact S4 7 h.1 rfl (size4 (by omega) (by omega)) (by decide)
    · exact S4 8 h.1 rfl (size4 (by omega) (by omega)) (by decide)
    · exact rb_none h.1
    · exact rb_none h.1
end Go.Proofs.YtlfeiadgahdgoaaGreatDoor
namespace Go.Proofs.YtlfeiadgahdgoaaGreatDoor
open Go.RowKit
theorem i64_wrap_nat (x : Nat) (h : x < 9223372036854775808) : IntKind.i64.wrap (x : Int) = x := by
  simp [IntKind.wrap, IntKind.bits, IntKind.signed]
  omega
theorem i64_or_nat (a b : Nat) (ha : a < 9223372036854775808) (hb : b < 9223372036854775808) : bits .or .i64 (a : Int) (b : Int) = ((a ||| b : Nat) : Int) := by
  have hx : a ||| b < 2 ^ 63 := Nat.or_lt_two_pow (by omega) (by omega)
  show IntKind.i64.wrap ((BitVec.ofInt 64 (a : Int) ||| BitVec.ofInt 64 (b : Int)).toNat : Int) = _
  rw [BitVec.toNat_or, ofInt_u64 a (by omega), ofInt_u64 b (by omega)]
  exact i64_wrap_nat _ (by omega)
theorem or_six (m y : Nat) (hm : m < 33554432) (hy : y < 64) : bits .or .i64 ((m : Int) * 64) (y : Int) = (m : Int) * 64 + (y : Int) := by
  have e := i64_or_nat (m * 64) y (by omega) (by omega)
  have e2 := Nat.two_pow_add_eq_or_of_lt (i := 6) (b := y) (by omega) m
  rw [show (2 : Nat) ^ 6 * m = m * 64 by omega] at e2
  rw [← e2] at e
  simpa using e
set_option maxRecDepth 10000 in
set_option maxHeartbeats 400000 in
theorem pointOf_any (t : ByteArray) (mk : Nat) (w : World) (h1 : 0 < t.size) (h4 : t.size ≤ 4) (h0 : mk ≤ t[0].toNat) (hc0 : t[0].toNat - mk < 128)
    (hb : ∀ j (h : j < t.size), 0 < j → 128 ≤ t[j].toNat ∧ t[j].toNat ≤ 191) :
    Calls Tryz.prog 108 #[.string t, .int .u8 (mk : Int)] w fun e w' => e = .returned (.int .i64 (ptL t.data.toList ((t[0].toNat : Int) - mk) (t.size - 1))) ∧ w' = w := by
  have HB : Hid (∀ j (h : j < t.size), 0 < j → 128 ≤ t[j].toNat ∧ t[j].toNat ≤ 191) := hb
  clear hb
  go_enter Tryz.func108, Tryz.ntmps108
  go_wp2
  go_loop [5, 6] (fun p i => ∃ j m : Nat, j + 1 ≤ t.size ∧ m < 128 * 64 ^ j ∧ i = .int .i64 ((j : Int) + 1) ∧ p = .int .i64 (m : Int) ∧ (m : Int) = ptL t.data.toList ((t[0].toNat : Int) - mk) j) (fun _ i => 4 - (intOf i).toNat)
  case atStart => exact ⟨0, t[0].toNat - mk, by omega, by omega, rfl, by congr 1; omega, by rw [ptL]; omega⟩
  case round =>
    obtain ⟨j, m, hj, hm, rfl, rfl, hp⟩ := hrel
    have HP : Hid ((m : Int) = ptL t.data.toList ((t[0].toNat : Int) - mk) j) := hp
    clear hp
    by_cases hlt : j + 1 < t.size
    · obtain ⟨hb1, hb2⟩ := HB.out (j + 1) hlt (by omega)
      have hm2 : m * 64 + (t[j + 1].toNat - 128) < 128 * 64 ^ (j + 1) := by
        rw [Nat.pow_succ]; omega
      have hm3 : m < 33554432 := by
        have : (64 : Nat) ^ j ≤ 64 ^ 2 := Nat.pow_le_pow_right (by omega) (by omega)
        omega
      have HQ : Hid (((m * 64 + (t[j + 1].toNat - 128) : Nat) : Int) = ptL t.data.toList ((t[0].toNat : Int) - mk) (j + 1)) := by
        show _ = _
        have e := getD_drop t 0 (j + 1) (by omega)
        simp only [List.drop_zero, Nat.zero_add] at e
        rw [ptL, ← HP.out, e]
        omega
      have hor := or_six m (t[j + 1].toNat - 128) hm3 (by omega)
      have e1 : ((t[j + 1].toNat - 128 : Nat) : Int) = (t[j + 1].toNat : Int) - 128 := by omega
      rw [e1] at hor
      have hx : ((m * 64 + (t[j + 1].toNat - 128) : Nat) : Int) = (m : Int) * 64 + ((t[j + 1].toNat : Int) - 128) := by omega
      have HX := (show Hid _ from hx)
      clear HP hm e1 hx
      go_wp2
      go_round
      case rel => exact ⟨j + 1, m * 64 + (t[j + 1].toNat - 128), by omega, hm2, by go_num, by rw [HX.out], HQ.out⟩
      case measure => simp [intOf]; omega
    · have e1 : t.size - 1 = j := by omega
      go_wp2
      go_ret
      exact ⟨by rw [← HP.out]; rfl, rfl⟩
/-- The unit at the beginning: its point and its size. -/
def uniOf (l : List UInt8) : Int × Nat := match goodOf l with
  | none => (-1, 1)
  | some (p, n) => (p, n)
def unitVal (p : Int) (a b : Nat) : Value := .agg #[.int .i64 p, .int .i64 (a : Int), .int .i64 (b : Int)]
theorem fits_max (lo hi n : Nat) (l : List UInt8) : fits lo hi n l ≤ n := by
  induction n generalizing lo hi l with
  | zero => simp [fits]
  | succ n ih =>
    cases l with
    | nil => simp [fits]
    | cons b l => rw [fits]; have := ih 128 191 l; split <;> omega
theorem fits_all (n : Nat) : ∀ (lo hi : Nat) (l : List UInt8), 128 ≤ lo → hi ≤ 191 → fits lo hi n l = n → n ≤ l.length ∧ ∀ j < n, 128 ≤ (l.getD j 0).toNat ∧ (l.getD j 0).toNat ≤ 191 := by
  induction n with
  | zero => intro lo hi l _ _ _; exact ⟨Nat.zero_le _, fun j hj => by omega⟩
  | succ n ih =>
    intro lo hi l h1 h2 h
    cases l with
    | nil => simp [fits] at h
    | cons b l =>
      rw [fits] at h
      split at h
      · rename_i hb
        obtain ⟨x, y⟩ := ih 128 191 l (by omega) (by omega) (by omega)
        refine ⟨by simp; omega, fun j hj => ?_⟩
        cases j with
        | zero => simp; omega
        | succ j => simpa using y j (by omega)
      · omega
theorem tab_mk : ∀ i < 9, tMk i ≤ tLo i ∧ tHi i - tMk i < 128 ∧ (1 < tSz i → 128 ≤ tLo2 i ∧ tHi2 i ≤ 191) := by decide
theorem rowFrom_fits (c : Nat) : ∀ n i j, rowFrom c n i = some j → fitsRow c j = true := by
  intro n
  induction n with
  | zero => intro i j h; simp [rowFrom] at h
  | succ n ih =>
    intro i j h
    rw [rowFrom] at h
    split at h
    · rename_i hf; simp at h; subst h; exact hf
    · exact ih _ _ h
theorem rowOf_fits {c i : Nat} (h : rowOf c = some i) : tLo i ≤ c ∧ c ≤ tHi i := by
  have := rowFrom_fits c 9 0 i h
  simpa [fitsRow] using this
/-- What a whole sequence is made of. -/
theorem good_parts {a : UInt8} {r : List UInt8} {i : Nat} (h : rowOf a.toNat = some i) (hf : ¬ fits (tLo2 i) (tHi2 i) (tSz i - 1) r + 1 < tSz i) :
    tSz i ≤ r.length + 1 ∧ tMk i ≤ a.toNat ∧ a.toNat - tMk i < 128 ∧ ∀ j, 0 < j → j < tSz i → 128 ≤ ((a :: r).getD j 0).toNat ∧ ((a :: r).getD j 0).toNat ≤ 191 := by
  have hi := rowOf_lt h
  have hs := sz_pos i hi
  obtain ⟨m1, m2, m3⟩ := tab_mk i hi
  obtain ⟨r1, r2⟩ := rowOf_fits h
  have hm := fits_max (tLo2 i) (tHi2 i) (tSz i - 1) r
  have hl := fits_le (tLo2 i) (tHi2 i) (tSz i - 1) r
  refine ⟨by omega, by omega, by omega, fun j h0 hj => ?_⟩
  obtain ⟨x, y⟩ := fits_all (tSz i - 1) _ _ r (m3 (by omega)).1 (m3 (by omega)).2 (by omega)
  obtain ⟨k, rfl⟩ : ∃ k, j = k + 1 := ⟨j - 1, by omega⟩
  simpa using y k (by omega)
theorem pt_nonneg (l : List UInt8) (c0 : Int) (h0 : 0 ≤ c0) (n : Nat) (h : ∀ j, 0 < j → j < n + 1 → 128 ≤ (l.getD j 0).toNat) : 0 ≤ ptL l c0 n := by
  induction n with
  | zero => exact h0
  | succ n ih =>
    have a := ih (fun j h1 h2 => h j h1 (by omega))
    have b := h (n + 1) (by omega) (by omega)
    rw [ptL]
    omega
theorem ptL_take (l : List UInt8) (c0 : Int) (m : Nat) : ∀ j, j < m → ptL (l.take m) c0 j = ptL l c0 j := by
  intro j
  induction j with
  | zero => intro _; rfl
  | succ j ih =>
    intro hj
    rw [ptL, ptL, ih (by omega)]
    congr 3
    rw [List.getD_eq_getElem?_getD, List.getD_eq_getElem?_getD, List.getElem?_take, if_pos hj]
theorem row3 {w : World} {g : Nat} {a b c : Value} {t : TypeId} (h : w.heap[g]? = some (.cells #[a, b, c] t (0, 0))) :
    (w.cell? ⟨g, 0, none⟩ = some a ∧ w.cell? ⟨g, 1, none⟩ = some b ∧ w.cell? ⟨g, 2, none⟩ = some c) ∧ w.frozen? ⟨g, 0, none⟩ = false ∧ w.frozen? ⟨g, 1, none⟩ = false ∧ w.frozen? ⟨g, 2, none⟩ = false := by
  refine ⟨⟨?_, ?_, ?_⟩, frozen_of_row w g _ _ t h, frozen_of_row w g _ _ t h, frozen_of_row w g _ _ t h⟩ <;> (rw [cell_of_row w g _ _ t _ h]; rfl)
theorem set3 {w : World} {g : Nat} {a b c : Value} {t : TypeId} (a' b' c' : Value) (h : w.heap[g]? = some (.cells #[a, b, c] t (0, 0))) :
    (((w.setCell ⟨g, 0, none⟩ a').setCell ⟨g, 1, none⟩ b').setCell ⟨g, 2, none⟩ c').heap[g]? = some (.cells #[a', b', c'] t (0, 0)) := by
  have h0 := heap_setCell_same w g 0 _ t a' h
  have h1 := heap_setCell_same _ g 1 _ t b' h0
  exact heap_setCell_same _ g 2 _ t c' h1
theorem Own3.later {w w' : World} {g : Nat} {o : Obj} (h : w.heap[g]? = some o) (hb : Below w.heap.size w w') : w'.heap[g]? = some o := (hb.block g (Array.getElem?_eq_some_iff.1 h).1).trans h
set_option maxRecDepth 10000 in
set_option maxHeartbeats 800000 in
theorem unitAt_any (s : ByteArray) (k : Nat) (hk : k < s.size) (hs : s.size ≤ 140737488355328) (w : World) (hT : SeqAt w) :
    Calls Tryz.prog 79 #[.string s, .int .i64 (k : Int)] w fun e w' => e = .returned (unitVal (uniOf (s.data.toList.drop k)).1 k (k + (uniOf (s.data.toList.drop k)).2)) ∧ Below w.heap.size w w' := by
  have hm := fun w hT => begun_any s k hk hs w hT
  have hl := drop_cons s k hk
  have HT : Hid (SeqAt w) := hT
  clear hT
  cases hr : rowOf s[k].toNat with
  | none =>
    have HG : Hid (uniOf (s.data.toList.drop k) = (-1, 1)) := by show _ = _; rw [hl, uniOf, good_none hr]
    rw [hl, begunVal, begun_none hr] at hm
    have HM := (show Hid _ from hm)
    clear hl hr hm
    go_enter Tryz.func79, Tryz.ntmps79
    go_wp2_with (go_at_call 107; refine (HM.out _ (HT.out.later (by go_grown))).mono ?_; rintro e w' ⟨rfl, hb⟩; simp only [noRow]; have HR : Hid ((w'.alloc (.cells #[.int .u8 0, .int .u8 0, .int .u8 0, .int .u8 0, .int .i64 0, .int .u8 0] 141)).heap[w.heap.size]? = _) := Own3.later (boxRow hb) (alloc_below _ _); obtain ⟨⟨c0, c1, c2⟩, f0, f1, f2⟩ := row3 HR.out; have hB : Below w.heap.size w w' := ((Below.refl _ _).alloc (Nat.le_refl _) _).trans (hb.mono (by simp)); have hsz := hB.size; clear hb)
    (try simp only [Exit.inBlock, Exit.then])
    refine bodyPost_ret (results_cell_row rfl _ _ w.heap.size 67 _ (0, 0) _ rfl (set3 _ _ _ HR.out) Tryz.underlying67 rfl (by kernel_rfl)) rfl ?_
    rw [HG.out]
    exact ⟨by simp [unitVal], by go_grown⟩
  | some i =>
    have hi9 := rowOf_lt hr
    have hsz4 := sz_pos i hi9
    obtain ⟨hl0, hl1, hl2, hl3, hl4, hl5⟩ := tab_lt i hi9
    by_cases hf : fits (tLo2 i) (tHi2 i) (tSz i - 1) (s.data.toList.drop (k + 1)) + 1 < tSz i
    · have HG : Hid (uniOf (s.data.toList.drop k) = (-1, 1)) := by show _ = _; rw [hl, uniOf, good_some hr, if_pos hf]
      rw [hl, begunVal, begun_some hr] at hm
      generalize fits (tLo2 i) (tHi2 i) (tSz i - 1) (s.data.toList.drop (k + 1)) = f at *
      have HM := (show Hid _ from hm)
      have hf1 : ¬ ((f : Int) + 1 = 0) := by omega
      have hf2 : (f : Int) + 1 < (tSz i : Int) := by omega
      clear hl hr hm
      go_enter Tryz.func79, Tryz.ntmps79
      go_wp2_with (go_at_call 107; refine (HM.out _ (HT.out.later (by go_grown))).mono ?_; rintro e w' ⟨rfl, hb⟩; simp only [rowVal]; have HR : Hid ((w'.alloc (.cells #[.int .u8 (tLo i), .int .u8 (tHi i), .int .u8 (tLo2 i), .int .u8 (tHi2 i), .int .i64 (tSz i), .int .u8 (tMk i)] 141)).heap[w.heap.size]? = _) := Own3.later (boxRow hb) (alloc_below _ _); obtain ⟨⟨c0, c1, c2⟩, f0, f1, f2⟩ := row3 HR.out; have hB : Below w.heap.size w w' := ((Below.refl _ _).alloc (Nat.le_refl _) _).trans (hb.mono (by simp)); have hsz := hB.size; clear hb)
      (try simp only [Exit.inBlock, Exit.then])
      refine bodyPost_ret (results_cell_row rfl _ _ w.heap.size 67 _ (0, 0) _ rfl (set3 _ _ _ HR.out) Tryz.underlying67 rfl (by kernel_rfl)) rfl ?_
      rw [HG.out]
      exact ⟨by simp [unitVal], by go_grown⟩
    · have hfe : fits (tLo2 i) (tHi2 i) (tSz i - 1) (s.data.toList.drop (k + 1)) + 1 = tSz i := by
        have := fits_max (tLo2 i) (tHi2 i) (tSz i - 1) (s.data.toList.drop (k + 1)); omega
      obtain ⟨g1, g2, g3, g4⟩ := good_parts hr hf
      obtain ⟨P, hP⟩ : ∃ P : Nat, (P : Int) = ptL (s.data.toList.drop k) ((s[k].toNat : Int) - tMk i) (tSz i - 1) := by
        refine ⟨(ptL (s.data.toList.drop k) ((s[k].toNat : Int) - tMk i) (tSz i - 1)).toNat, Int.toNat_of_nonneg ?_⟩
        exact pt_nonneg _ _ (by omega) _ (fun j h0 hj => by rw [hl]; exact (g4 j h0 (by omega)).1)
      have HG : Hid (uniOf (s.data.toList.drop k) = ((P : Int), tSz i)) := by
        show _ = _
        rw [hl] at hP
        rw [hl, uniOf, good_some hr, if_neg hf, ← hP]
        rfl
      have hxl := extract_take s k (tSz i)
      have hg1 : k + tSz i ≤ s.size := by have := bsize s; rw [List.length_drop, this] at g1; omega
      have hxs : (s.extract k (k + tSz i)).size = tSz i := by rw [← bsize, hxl, List.length_take, List.length_drop, bsize]; omega
      have hat : ∀ j (h : j < (s.extract k (k + tSz i)).size), (s.extract k (k + tSz i))[j] = (s.data.toList.drop k).getD j 0 := fun j h => by
        have e := getD_drop (s.extract k (k + tSz i)) 0 j (by omega)
        simp only [List.drop_zero, Nat.zero_add] at e
        rw [← e, hxl, List.getD_eq_getElem?_getD, List.getD_eq_getElem?_getD, List.getElem?_take, if_pos (by omega)]
      have h00 : (s.data.toList.drop k).getD 0 0 = s[k] := by rw [hl]; rfl
      have hpo := fun w => pointOf_any (s.extract k (k + tSz i)) (tMk i) w (by omega) (by omega) (by rw [hat, h00]; exact g2) (by rw [hat, h00]; exact g3) (fun j h h0 => by rw [hat j h, hl]; exact g4 j h0 (by omega))
      have hpe : ptL (s.extract k (k + tSz i)).data.toList (((s.extract k (k + tSz i))[0].toNat : Int) - (tMk i : Int)) ((s.extract k (k + tSz i)).size - 1) = (P : Int) := by
        rw [hat, h00, hP, hxs, hxl]
        exact ptL_take _ _ _ _ (by omega)
      simp only [hpe] at hpo
      have HPO := (show Hid _ from hpo)
      rw [hl, begunVal, begun_some hr, hfe] at hm
      have HM := (show Hid _ from hm)
      have hd0 : (0 : Int) ≤ (k : Int) := by omega
      have hd1 : (k : Int) ≤ (k : Int) + (tSz i : Int) := by omega
      have hd2 : (k : Int) + (tSz i : Int) ≤ (s.size : Int) := by omega
      have hd4 : ((k : Int) + (tSz i : Int)).toNat = k + tSz i := by omega
      have hf1 : ¬ ((tSz i : Int) = 0) := by omega
      clear hl hr hm hf hfe g1 g2 g3 g4 hP hxl hxs hat h00 hpo hpe
      go_enter Tryz.func79, Tryz.ntmps79
      go_wp2_with (first
        | (go_at_call 107; refine (HM.out _ (HT.out.later (by go_grown))).mono ?_; rintro e w' ⟨rfl, hb⟩; simp only [rowVal]; have HR : Hid ((w'.alloc (.cells #[.int .u8 (tLo i), .int .u8 (tHi i), .int .u8 (tLo2 i), .int .u8 (tHi2 i), .int .i64 (tSz i), .int .u8 (tMk i)] 141)).heap[w.heap.size]? = _) := Own3.later (boxRow hb) (alloc_below _ _); obtain ⟨⟨c0, c1, c2⟩, f0, f1, f2⟩ := row3 HR.out; have hB : Below w.heap.size w w' := ((Below.refl _ _).alloc (Nat.le_refl _) _).trans (hb.mono (by simp)); have hsz := hB.size; clear hb)
        | fail)
      go_region_law (go_simp; go_at_call 108; refine (HPO.out _).mono ?_; rintro e w2 ⟨rfl, rfl⟩)
      all_goals go_wp2
      (try simp only [Exit.inBlock, Exit.then])
      refine bodyPost_ret (results_cell_row rfl _ _ w.heap.size 67 _ (0, 0) _ rfl (set3 _ _ _ HR.out) Tryz.underlying67 rfl (by kernel_rfl)) rfl ?_
      rw [HG.out]
      exact ⟨by simp [unitVal], by go_grown⟩
end Go.Proofs.YtlfeiadgahdgoaaGreatDoor
namespace Go.Proofs.YtlfeiadgahdgoaaGreatDoor
open Go.RowKit
/-- The units from a place on, and of a text. -/
def unitsF : Nat → Nat → List UInt8 → List (Int × Nat × Nat)
  | 0, _, _ => []
  | _ + 1, _, [] => []
  | f + 1, k, a :: l => ((uniOf (a :: l)).1, k, k + (uniOf (a :: l)).2) :: unitsF f (k + (uniOf (a :: l)).2) ((a :: l).drop (uniOf (a :: l)).2)
def unitsAt (l : List UInt8) (k : Nat) : List (Int × Nat × Nat) := unitsF (l.length - k) k (l.drop k)
def unitsOf (l : List UInt8) : List (Int × Nat × Nat) := unitsAt l 0
theorem uni_size (a : UInt8) (r : List UInt8) : 1 ≤ (uniOf (a :: r)).2 ∧ (uniOf (a :: r)).2 ≤ r.length + 1 ∧ (uniOf (a :: r)).2 ≤ 4 := by
  unfold uniOf
  cases hr : rowOf a.toNat with
  | none => rw [good_none hr]; simp
  | some i =>
    have hi := rowOf_lt hr
    have hs := sz_pos i hi
    rw [good_some hr]
    by_cases hf : fits (tLo2 i) (tHi2 i) (tSz i - 1) r + 1 < tSz i
    · rw [if_pos hf]; simp
    · rw [if_neg hf]
      have := fits_le (tLo2 i) (tHi2 i) (tSz i - 1) r
      simp only
      omega
theorem uni_bound (a : UInt8) (r : List UInt8) : -1 ≤ (uniOf (a :: r)).1 ∧ (uniOf (a :: r)).1 ≤ 100000000 := by
  unfold uniOf
  cases hr : rowOf a.toNat with
  | none => rw [good_none hr]; simp
  | some i =>
    have hs := sz_pos i (rowOf_lt hr)
    rw [good_some hr]
    by_cases hf : fits (tLo2 i) (tHi2 i) (tSz i - 1) r + 1 < tSz i
    · rw [if_pos hf]; simp
    · rw [if_neg hf]
      obtain ⟨_, g2, g3, _⟩ := good_parts hr hf
      have hb := pt_bound (a :: r) ((a.toNat : Int) - tMk i) (by omega) (by omega) (tSz i - 1) (by omega)
      simp only
      omega
theorem unitsF_fuel : ∀ (f g k : Nat) (l : List UInt8), l.length ≤ f → l.length ≤ g → unitsF f k l = unitsF g k l := by
  intro f
  induction f with
  | zero =>
    intro g k l hf hg
    have : l = [] := List.length_eq_zero_iff.1 (by omega)
    subst this
    cases g <;> rfl
  | succ f ih =>
    intro g k l hf hg
    cases l with
    | nil => cases g <;> rfl
    | cons a l =>
      cases g with
      | zero => simp at hg
      | succ g =>
        have hs := uni_size a l
        simp only [List.length_cons] at hf hg
        rw [unitsF, unitsF, ih g _ _ (by rw [List.length_drop, List.length_cons]; omega) (by rw [List.length_drop, List.length_cons]; omega)]
theorem unitsAt_end (l : List UInt8) (k : Nat) (h : l.length ≤ k) : unitsAt l k = [] := by
  rw [unitsAt, show l.length - k = 0 by omega]; rfl
theorem unitsAt_step (l : List UInt8) (k : Nat) (h : k < l.length) : unitsAt l k = ((uniOf (l.drop k)).1, k, k + (uniOf (l.drop k)).2) :: unitsAt l (k + (uniOf (l.drop k)).2) := by
  obtain ⟨a, r, e⟩ : ∃ a r, l.drop k = a :: r := by
    cases h' : l.drop k with
    | nil => have := congrArg List.length h'; simp at this; omega
    | cons a r => exact ⟨a, r, rfl⟩
  have hl := congrArg List.length e
  rw [List.length_drop, List.length_cons] at hl
  have hs := uni_size a r
  have e2 : l.drop (k + (uniOf (a :: r)).2) = (a :: r).drop (uniOf (a :: r)).2 := by rw [← List.drop_drop, e]
  rw [unitsAt, unitsAt, e, e2, show l.length - k = (l.length - k - 1) + 1 by omega, unitsF]
  rw [unitsF_fuel (l.length - k - 1) (l.length - (k + (uniOf (a :: r)).2)) _ _ (by rw [List.length_drop, List.length_cons]; omega) (by rw [List.length_drop, List.length_cons]; omega)]
/-- Units as cells. -/
def cellsU (us : List (Int × Nat × Nat)) : List Value := us.flatMap fun u => [.int .i64 u.1, .int .i64 (u.2.1 : Int), .int .i64 (u.2.2 : Int)]
theorem cellsU_length (us : List (Int × Nat × Nat)) : (cellsU us).length = us.length * 3 := by
  induction us with
  | nil => rfl
  | cons u us ih => rw [cellsU, List.flatMap_cons, List.length_append, List.length_cons]; rw [cellsU] at ih; rw [ih]; simp; omega
theorem cellsU_append (us vs : List (Int × Nat × Nat)) : cellsU (us ++ vs) = cellsU us ++ cellsU vs := by simp [cellsU]
/-- A slice of units of the call's own. -/
def OwnU (w : World) (base : Nat) (v : Value) (us : List (Int × Nat × Nat)) : Prop := w.ownsRow base 67 3 v us.length (cellsU us)
theorem infoUnit : (Tryz.prog.info? 67).map (fun i => (i.zero, i.size, i.bytes)) = some (some (.agg #[.int .i64 0, .int .i64 0, .int .i64 0]), 3, 24) := by kernel_rfl
theorem OwnU.nil (w : World) (base : Nat) : OwnU w base (.slice none 0 0) [] := World.ownsRow_nil _ _ _ _
theorem ownU_snoc {w wr w1 : World} {base : Nat} {v v' : Value} {us m : List (Int × Nat × Nat)} {u : Int × Nat × Nat} {o : Obj} {n : Nat} (hn : n = us.length) (hown : OwnU wr base v us)
    (hown' : w1.ownsRow base 67 3 v' (n + 1) (cellsU us ++ [.int .i64 u.1, .int .i64 (u.2.1 : Int), .int .i64 (u.2.2 : Int)])) (hgrow : (wr.alloc o).grownBy w1 v.ownBlock) (hm : m = us ++ [u]) (hbel : Below base w wr) (hb : base ≤ w.heap.size) :
    OwnU w1 base v' m ∧ Below base w w1 := by
  subst hm hn
  have hsz := hbel.size
  refine ⟨?_, (hbel.alloc (by omega) o).grown hgrow (by simp; omega) (fun k hk => (World.ownsRow.lt hown k hk).1)⟩
  have e2 : cellsU (us ++ [u]) = cellsU us ++ [.int .i64 u.1, .int .i64 (u.2.1 : Int), .int .i64 (u.2.2 : Int)] := by rw [cellsU_append]; rfl
  unfold OwnU
  rw [List.length_append, e2]
  exact hown'
theorem hid {p : Prop} (h : p) : Hid p := h
theorem OwnU.later {w w' : World} {base : Nat} {v : Value} {us : List (Int × Nat × Nat)} (h : OwnU w base v us) (hb : Below w.heap.size w w') : OwnU w' base v us := by
  obtain ⟨h1, h2⟩ := h
  refine ⟨h1, ?_⟩
  rcases h2 with h2 | ⟨g, cap, cur, hv, hg, hh, r⟩
  · exact .inl h2
  · exact .inr ⟨g, cap, cur, hv, hg, (hb.block g (Array.getElem?_eq_some_iff.1 hh).1).trans hh, r⟩
theorem cell3_new (w : World) (a b c : Value) (t : TypeId) : ∀ j u, [a, b, c][j]? = some u → (w.alloc (.cells #[a, b, c] t)).cell? ((⟨w.heap.size, 0, none⟩ : Addr).add j) = some u := by
  intro j u h
  rw [Addr.add_lit, cell_of_row _ w.heap.size _ _ _ _ (heap_alloc_new w _), Nat.zero_add]
  simpa using h
set_option maxRecDepth 10000 in
set_option maxHeartbeats 800000 in
theorem refSplit_any (s : ByteArray) (hs : s.size ≤ 4194400) (w : World) :
    Calls Tryz.prog 53 #[.string s] w fun e w' => ∃ v, e = .returned v ∧ OwnU w' w.heap.size v (unitsOf s.data.toList) ∧ Below w.heap.size w w' := by
  obtain ⟨i0, hi, hz0, hz1, hz2⟩ := info_parts infoUnit
  have hlen : s.data.toList.length = s.size := bsize s
  go_enter Tryz.func53, Tryz.ntmps53
  go_wp2
  go_loopw [3, 4] (fun v i wr => ∃ (k : Nat) (pre : List (Int × Nat × Nat)), k ≤ s.size ∧ pre.length ≤ k ∧ i = .int .i64 (k : Int) ∧ unitsOf s.data.toList = pre ++ unitsAt s.data.toList k ∧ OwnU wr w.heap.size v pre ∧ Below w.heap.size w wr) (fun _ i _ => s.size - (intOf i).toNat)
  case atStart => exact ⟨0, [], Nat.zero_le _, by simp, rfl, rfl, OwnU.nil _ _, Below.refl _ _⟩
  case round =>
    obtain ⟨k, pre, hk, hpl, rfl, hpre, hown, hbel⟩ := hrel
    have HPre := hid hpre
    clear hpre
    by_cases hlt : k < s.size
    · have hg := refGood_any s k hlt (by omega) wr
      rw [refGood_eq] at hg
      have hl := drop_cons s k hlt
      have hsz1 := uni_size s[k] (s.data.toList.drop (k + 1))
      have hbd := uni_bound s[k] (s.data.toList.drop (k + 1))
      rw [← hl] at hsz1 hbd
      have hll : (s.data.toList.drop (k + 1)).length = s.size - (k + 1) := by rw [List.length_drop, hlen]
      rw [hll] at hsz1
      have hltL : k < s.data.toList.length := by omega
      cases hq : goodOf (s.data.toList.drop k) with
      | none =>
        rw [hq] at hg
        have hu : uniOf (s.data.toList.drop k) = (-1, 1) := by rw [uniOf, hq]
        have HU : Hid (unitsAt s.data.toList k = (-1, k, k + 1) :: unitsAt s.data.toList (k + 1)) := by show _ = _; rw [unitsAt_step _ _ hltL, hu]
        rw [goodVal] at hg
        clear hq hl hu hll hltL hlen hsz1 hbd
        go_wp2_with (first
          | (go_at_call 82; refine hg.mono ?_; rintro e w2 ⟨rfl, hb⟩; have HO := hid (hown.later hb); have hB2 := hbel.trans (hb.mono hbel.size); have hsz := hB2.size; clear hown)
          | (at_builtin; refine wpList_append_own _ rfl _ _ 64 rfl w.heap.size 67 i0 (.agg #[.int .i64 0, .int .i64 0, .int .i64 0]) 3 24 Tryz.underlying64 hi hz0 hz1 hz2 rfl (by decide) _ _ _ rfl (HO.out.alloc _) ⟨w2.heap.size, 0, none⟩ 1 1 [.int .i64 (-1), .int .i64 (k : Int), .int .i64 ((k : Int) + 1)] rfl rfl ?c1a ?c2a ?c3a ?c4a ?c5a ?_)
          | fail)
        case c1a => exact cell3_new _ _ _ _ _
        case c2a => intro u hu; simp at hu; rcases hu with rfl | rfl | rfl <;> rfl
        case c3a => unfold maxLen; omega
        case c4a => omega
        case c5a => simp; omega
        · intro v' w1 hown' hgrow _
          have R := ownU_snoc (u := (-1, k, k + 1)) rfl HO.out (by simpa using hown') hgrow rfl hB2 (Nat.le_refl _)
          have HR := hid R
          clear R hown' hgrow HO
          go_wp2
          go_roundw
          case rel => exact ⟨k + 1, pre ++ [(-1, k, k + 1)], by omega, by simp; omega, by go_num, by rw [HPre.out, HU.out]; simp, HR.out.1, HR.out.2⟩
          case measure => simp [intOf]; omega
      | some q =>
        obtain ⟨p, n⟩ := q
        rw [hq] at hg
        have hu : uniOf (s.data.toList.drop k) = ((p : Int), n) := by rw [uniOf, hq]
        have HU : Hid (unitsAt s.data.toList k = ((p : Int), k, k + n) :: unitsAt s.data.toList (k + n)) := by show _ = _; rw [unitsAt_step _ _ hltL, hu]
        rw [hu] at hsz1 hbd
        simp only at hsz1 hbd
        have hn0 : ¬ (n : Int) = 0 := by omega
        have hnb : ((n : Int) == 0) = false := by simpa using hn0
        rw [goodVal] at hg
        clear hq hl hu hll hltL hlen
        go_wp2_with (first
          | (go_at_call 82; refine hg.mono ?_; rintro e w2 ⟨rfl, hb⟩; have HO := hid (hown.later hb); have hB2 := hbel.trans (hb.mono hbel.size); have hsz := hB2.size; clear hown)
          | (at_builtin; refine wpList_append_own _ rfl _ _ 64 rfl w.heap.size 67 i0 (.agg #[.int .i64 0, .int .i64 0, .int .i64 0]) 3 24 Tryz.underlying64 hi hz0 hz1 hz2 rfl (by decide) _ _ _ rfl (HO.out.alloc _) ⟨w2.heap.size, 0, none⟩ 1 1 [.int .i64 (p : Int), .int .i64 (k : Int), .int .i64 ((k : Int) + (n : Int))] rfl rfl ?c1b ?c2b ?c3b ?c4b ?c5b ?_)
          | fail)
        case c1b => exact cell3_new _ _ _ _ _
        case c2b => intro u hu; simp at hu; rcases hu with rfl | rfl | rfl <;> rfl
        case c3b => unfold maxLen; omega
        case c4b => omega
        case c5b => simp; omega
        · intro v' w1 hown' hgrow _
          have R := ownU_snoc (u := ((p : Int), k, k + n)) rfl HO.out (by simpa using hown') hgrow rfl hB2 (Nat.le_refl _)
          have HR := hid R
          clear R hown' hgrow HO
          go_wp2
          go_roundw
          case rel => exact ⟨k + n, pre ++ [((p : Int), k, k + n)], by omega, by simp; omega, by go_num, by rw [HPre.out, HU.out]; simp, HR.out.1, HR.out.2⟩
          case measure => simp [intOf]; omega
    · go_wp2
      go_ret
      have hkk : unitsAt s.data.toList k = [] := unitsAt_end _ _ (by omega)
      exact ⟨_, rfl, by rw [HPre.out, hkk, List.append_nil]; exact hown, hbel⟩
end Go.Proofs.YtlfeiadgahdgoaaGreatDoor
namespace Go.Proofs.YtlfeiadgahdgoaaGreatDoor
open Go.RowKit
/-- How many bytes the well-formed sequence at the beginning has; 0: there is none. -/
def wszOf (l : List UInt8) : Nat := match goodOf l with
  | none => 0
  | some (_, m) => m
set_option maxRecDepth 10000 in
set_option maxHeartbeats 400000 in
theorem whole_any (s : ByteArray) (k : Nat) (hk : k < s.size) (hs : s.size ≤ 140737488355328) (w : World) (hT : SeqAt w) :
    Calls Tryz.prog 140 #[.string s, .int .i64 (k : Int)] w fun e w' => e = .returned (.int .i64 (wszOf (s.data.toList.drop k) : Int)) ∧ Below w.heap.size w w' := by
  have hm := begun_any s k hk hs w hT
  have hl := drop_cons s k hk
  clear hT
  cases hr : rowOf s[k].toNat with
  | none =>
    have HG : Hid (wszOf (s.data.toList.drop k) = 0) := by show _ = _; rw [hl, wszOf, good_none hr]
    rw [hl, begunVal, begun_none hr] at hm
    have HM := hid hm
    clear hl hr hm
    go_enter Tryz.func140, Tryz.ntmps140
    go_wp2_with (go_at_call 107; refine HM.out.mono ?_; rintro e w' ⟨rfl, hb⟩; simp only [noRow])
    go_ret
    exact ⟨by rw [HG.out]; rfl, hb.alloc hb.size _⟩
  | some i =>
    have hi9 := rowOf_lt hr
    have hsz4 := sz_pos i hi9
    obtain ⟨hl0, hl1, hl2, hl3, hl4, hl5⟩ := tab_lt i hi9
    rw [hl, begunVal, begun_some hr] at hm
    by_cases hf : fits (tLo2 i) (tHi2 i) (tSz i - 1) (s.data.toList.drop (k + 1)) + 1 < tSz i
    · have HG : Hid (wszOf (s.data.toList.drop k) = 0) := by show _ = _; rw [hl, wszOf, good_some hr, if_pos hf]
      generalize fits (tLo2 i) (tHi2 i) (tSz i - 1) (s.data.toList.drop (k + 1)) = f at *
      have HM := hid hm
      have hf2 : (f : Int) + 1 < (tSz i : Int) := by omega
      clear hl hr hm
      go_enter Tryz.func140, Tryz.ntmps140
      go_wp2_with (go_at_call 107; refine HM.out.mono ?_; rintro e w' ⟨rfl, hb⟩; simp only [rowVal])
      go_ret
      exact ⟨by rw [HG.out]; rfl, hb.alloc hb.size _⟩
    · have HG : Hid (wszOf (s.data.toList.drop k) = tSz i) := by show _ = _; rw [hl, wszOf, good_some hr, if_neg hf]
      generalize fits (tLo2 i) (tHi2 i) (tSz i - 1) (s.data.toList.drop (k + 1)) = f at *
      have HM := hid hm
      have hf2 : ¬ (f : Int) + 1 < (tSz i : Int) := by omega
      clear hl hr hm
      go_enter Tryz.func140, Tryz.ntmps140
      go_wp2_with (go_at_call 107; refine HM.out.mono ?_; rintro e w' ⟨rfl, hb⟩; simp only [rowVal])
      go_ret
      exact ⟨by rw [HG.out]; rfl, hb.alloc hb.size _⟩
/-- Does no sequence that begins at one of these places go over the place? -/
def edgeFrom (l : List UInt8) (k : Nat) : Nat → Nat → Bool
  | 0, _ => true
  | n + 1, j => if k < j + wszOf (l.drop j) then false else edgeFrom l k n (j + 1)
def edgeL (l : List UInt8) (k : Nat) : Bool := edgeFrom l k (k - (k - 3)) (k - 3)
theorem wsz_le (l : List UInt8) : wszOf l ≤ 4 := by
  unfold wszOf
  cases h : goodOf l with
  | none => simp
  | some q =>
    obtain ⟨p, m⟩ := q
    cases l with
    | nil => simp [goodOf, begunOf] at h
    | cons a r => have := uni_size a r; rw [uniOf, h] at this; simp only at this ⊢; omega
set_option maxRecDepth 10000 in
set_option maxHeartbeats 800000 in
theorem edge_in (s : ByteArray) (k : Nat) (hk : k ≤ s.size) (hs : s.size ≤ 140737488355328) (w : World) (hT : SeqAt w) :
    Calls Tryz.prog 106 #[.string s, .int .i64 (k : Int)] w fun e w' => e = .returned (.bool (edgeL s.data.toList k)) ∧ Below w.heap.size w w' := by
  have hmax : ∀ ts t w, (Builtin.max_ ts t #[.int .i64 0, .int .i64 ((k : Int) - 4 + 1)]).run Tryz.prog w = .ok (.int .i64 ((k - 3 : Nat) : Int)) w := fun ts t w => by
    rw [run_max_int2]; split <;> (congr 2; omega)
  have HT := hid hT
  have h0 : ¬ ((k : Int) < 0) := by omega
  have h1 : ¬ ((s.size : Int) < (k : Int)) := by omega
  clear hT
  go_enter Tryz.func106, Tryz.ntmps106
  go_wp2
  clear hmax
  go_loopw [5] (fun i wr => ∃ j : Nat, k - 3 ≤ j ∧ j ≤ k ∧ i = .int .i64 (j : Int) ∧ edgeL s.data.toList k = edgeFrom s.data.toList k (k - j) j ∧ Below w.heap.size w wr) (fun i _ => k - (intOf i).toNat)
  case atStart => exact ⟨k - 3, Nat.le_refl _, by omega, rfl, rfl, Below.refl _ _⟩
  case round =>
    obtain ⟨j, hj1, hj2, rfl, he, hB⟩ := hrel
    have HE := hid he
    clear he
    by_cases hlt : j < k
    · have HU : Hid (edgeFrom s.data.toList k (k - j) j = if k < j + wszOf (s.data.toList.drop j) then false else edgeFrom s.data.toList k (k - (j + 1)) (j + 1)) := by
        show _ = _
        rw [show k - j = (k - (j + 1)) + 1 by omega, edgeFrom]
      have HM := hid (whole_any s j (by omega) hs wr (HT.out.later hB))
      have hw4 := wsz_le (s.data.toList.drop j)
      generalize wszOf (s.data.toList.drop j) = m at *
      have hji : (j : Int) < (k : Int) := by omega
      by_cases hov : k < j + m
      · have HN : Hid (edgeL s.data.toList k = false) := by show _ = _; rw [HE.out, HU.out, if_pos hov]
        have hoi : (k : Int) < (j : Int) + (m : Int) := by omega
        clear HU HE
        go_wp2_with (go_at_call 140; refine HM.out.mono ?_; rintro e w' ⟨rfl, hb⟩)
        go_ret
        exact ⟨by rw [HN.out]; rfl, hB.trans (hb.mono hB.size)⟩
      · have HN : Hid (edgeL s.data.toList k = edgeFrom s.data.toList k (k - (j + 1)) (j + 1)) := by show _ = _; rw [HE.out, HU.out, if_neg hov]
        have hoi : ¬ (k : Int) < (j : Int) + (m : Int) := by omega
        clear HU HE
        go_wp2_with (go_at_call 140; refine HM.out.mono ?_; rintro e w' ⟨rfl, hb⟩)
        go_roundw
        case rel => exact ⟨j + 1, by omega, by omega, by go_num, HN.out, hB.trans (hb.mono hB.size)⟩
        case measure => simp [intOf]; omega
    · have HN : Hid (edgeL s.data.toList k = true) := by show _ = _; rw [HE.out, show k - j = 0 by omega, edgeFrom]
      have hji : ¬ (j : Int) < (k : Int) := by omega
      go_wp2
      go_ret
      exact ⟨by rw [HN.out]; rfl, hB⟩
set_option maxRecDepth 10000 in
set_option maxHeartbeats 400000 in
theorem edge_out (s : ByteArray) (k : Int) (hk : k < 0 ∨ (s.size : Int) < k) (w : World) :
    Calls Tryz.prog 106 #[.string s, .int .i64 k] w fun e w' => e = .returned (.bool false) ∧ w' = w := by
  rcases hk with h | h
  · go_enter Tryz.func106, Tryz.ntmps106
    go_wp2
    all_goals
      go_ret
      exact ⟨rfl, rfl⟩
  · go_enter Tryz.func106, Tryz.ntmps106
    go_wp2
    all_goals
      go_ret
      exact ⟨rfl, rfl⟩
def noUnit : Value := .agg #[.int .i64 0, .int .i64 0, .int .i64 0]
/-- What Next answers. -/
def nextVal (l : List UInt8) (k : Nat) : Value := if edgeL l k then .tuple #[unitVal (uniOf (l.drop k)).1 k (k + (uniOf (l.drop k)).2), .bool true] else .tuple #[noUnit, .bool false]
set_option maxRecDepth 10000 in
set_option maxHeartbeats 800000 in
theorem next_in (s : ByteArray) (k : Nat) (hk : k < s.size) (hs : s.size ≤ 140737488355328) (w : World) (hT : SeqAt w) :
    Calls Tryz.prog 77 #[.string s, .int .i64 (k : Int)] w fun e w' => e = .returned (nextVal s.data.toList k) ∧ Below w.heap.size w w' := by
  have HE := hid (fun w hT => edge_in s k (by omega) hs w hT)
  have HU := hid (fun w hT => unitAt_any s k hk hs w hT)
  have HT := hid hT
  have h1 : ¬ ((s.size : Int) ≤ (k : Int)) := by omega
  clear hT
  cases he : edgeL s.data.toList k with
  | false =>
    have HN : Hid (nextVal s.data.toList k = .tuple #[noUnit, .bool false]) := by show _ = _; rw [nextVal, he]; rfl
    rw [he] at HE
    clear HU he
    go_enter Tryz.func77, Tryz.ntmps77
    go_wp2_with (go_at_call 106; refine (HE.out _ (HT.out.later (by go_grown))).mono ?_; rintro e w' ⟨rfl, hb⟩; have HR : Hid (w'.heap[w.heap.size]? = _) := boxRow hb; obtain ⟨⟨c0, c1, c2⟩, f0, f1, f2⟩ := row3 HR.out; have hB : Below w.heap.size w w' := ((Below.refl _ _).alloc (Nat.le_refl _) _).trans (hb.mono (by simp)); have hsz := hB.size; clear hb)
    (try simp only [Exit.inBlock, Exit.then])
    refine bodyPost_ret (ret_row rfl _ _ w.heap.size 67 _ _ _ rfl (set3 _ _ _ HR.out) Tryz.underlying67 rfl (by kernel_rfl) rfl) rfl ?_
    exact ⟨by rw [HN.out]; rfl, by go_grown⟩
  | true =>
    have HN : Hid (nextVal s.data.toList k = .tuple #[unitVal (uniOf (s.data.toList.drop k)).1 k (k + (uniOf (s.data.toList.drop k)).2), .bool true]) := by show _ = _; rw [nextVal, he]; rfl
    rw [he] at HE
    generalize (uniOf (s.data.toList.drop k)).1 = p at *
    generalize (uniOf (s.data.toList.drop k)).2 = m at *
    clear he
    go_enter Tryz.func77, Tryz.ntmps77
    go_wp2_with (first
      | (go_at_call 106; refine (HE.out _ (HT.out.later (by go_grown))).mono ?_; rintro e w1 ⟨rfl, hb⟩; have HR1 : Hid (w1.heap[w.heap.size]? = _) := boxRow hb; have hB1 : Below w.heap.size w w1 := ((Below.refl _ _).alloc (Nat.le_refl _) _).trans (hb.mono (by simp)); clear hb)
      | (go_at_call 79; refine (HU.out _ (HT.out.later hB1)).mono ?_; rintro e w2 ⟨rfl, hb⟩; simp only [unitVal]; have HR : Hid (w2.heap[w.heap.size]? = _) := Own3.later HR1.out hb; obtain ⟨⟨c0, c1, c2⟩, f0, f1, f2⟩ := row3 HR.out; have hB : Below w.heap.size w w2 := hB1.trans (hb.mono hB1.size); have hsz := hB.size; clear hb)
      | fail)
    (try simp only [Exit.inBlock, Exit.then])
    refine bodyPost_ret (ret_row rfl _ _ w.heap.size 67 _ _ _ rfl (set3 _ _ _ HR.out) Tryz.underlying67 rfl (by kernel_rfl) rfl) rfl ?_
    exact ⟨by rw [HN.out]; rfl, by go_grown⟩
end Go.Proofs.YtlfeiadgahdgoaaGreatDoor
namespace Go.Proofs.YtlfeiadgahdgoaaGreatDoor
open Go.RowKit
theorem good_cont {l : List UInt8} {p m : Nat} (h : goodOf l = some (p, m)) (j : Nat) (h0 : 0 < j) (hj : j < m) : goodOf (l.drop j) = none := by
  cases l with
  | nil => simp [goodOf, begunOf] at h
  | cons a r =>
    cases hr : rowOf a.toNat with
    | none => rw [good_none hr] at h; cases h
    | some i =>
      rw [good_some hr] at h
      split at h
      · cases h
      · rename_i hf
        simp only [Option.some.injEq, Prod.mk.injEq] at h
        obtain ⟨g1, _, _, g4⟩ := good_parts hr hf
        have hb := g4 j h0 (by omega)
        have hjl : j < (a :: r).length := by simp; omega
        rw [List.drop_eq_getElem_cons hjl]
        have hg : (a :: r).getD j 0 = (a :: r)[j] := by rw [List.getD_eq_getElem?_getD, List.getElem?_eq_getElem hjl]; rfl
        rw [hg] at hb
        cases hq : rowOf (a :: r)[j].toNat with
        | none => exact good_none hq
        | some i' =>
          rcases row_cases _ (a :: r)[j].toNat_lt with q | q | q | q | q | q | q | q | q | q | q | q | q
          case inr.inl => rw [q.1] at hq; cases hq
          all_goals omega
/-- No sequence ahead of the place goes over it. -/
def clean (l : List UInt8) (k : Nat) : Prop := ∀ i, i < k → i + wszOf (l.drop i) ≤ k
theorem clean_zero (l : List UInt8) : clean l 0 := fun i hi => by omega
theorem uni_wsz (l : List UInt8) : (uniOf l).2 = wszOf l ∨ ((uniOf l).2 = 1 ∧ wszOf l = 0) := by
  unfold uniOf wszOf
  cases goodOf l with
  | none => exact .inr ⟨rfl, rfl⟩
  | some q => exact .inl rfl
theorem inside {l : List UInt8} {j i : Nat} (h1 : j < i) (h2 : i < j + (uniOf (l.drop j)).2) : wszOf (l.drop i) = 0 := by
  have hg : goodOf ((l.drop j).drop (i - j)) = none := by
    cases h : goodOf (l.drop j) with
    | none => rw [uniOf, h] at h2; simp only at h2; omega
    | some q =>
      obtain ⟨p, m⟩ := q
      rw [uniOf, h] at h2
      exact good_cont h (i - j) (by omega) (by simp only at h2; omega)
  rw [List.drop_drop, show j + (i - j) = i by omega] at hg
  rw [wszOf, hg]
theorem clean_next {l : List UInt8} {j : Nat} (h : clean l j) : clean l (j + (uniOf (l.drop j)).2) := by
  intro i hi
  rcases Nat.lt_trichotomy i j with q | q | q
  · have := h i q; omega
  · subst q; rcases uni_wsz (l.drop i) with h' | h' <;> omega
  · rw [inside q hi]; omega
theorem edgeFrom_iff (l : List UInt8) (k : Nat) : ∀ n j, edgeFrom l k n j = true ↔ ∀ i, j ≤ i → i < j + n → i + wszOf (l.drop i) ≤ k := by
  intro n
  induction n with
  | zero => intro j; exact ⟨fun _ i h1 h2 => by omega, fun _ => rfl⟩
  | succ n ih =>
    intro j
    rw [edgeFrom]
    split
    · rename_i h
      constructor
      · intro q; cases q
      · intro q; have := q j (Nat.le_refl _) (by omega); omega
    · rename_i h
      rw [ih]
      constructor
      · intro q i h1 h2
        by_cases e : i = j
        · subst e; omega
        · exact q i (by omega) (by omega)
      · intro q i h1 h2; exact q i (by omega) (by omega)
theorem edge_clean {l : List UInt8} {k : Nat} (h : clean l k) : edgeL l k = true := (edgeFrom_iff l k _ _).2 (fun i h1 h2 => h i (by omega))
theorem edge_not {l : List UInt8} {j k : Nat} (h1 : j < k) (h2 : k < j + (uniOf (l.drop j)).2) (h4 : (uniOf (l.drop j)).2 ≤ 4) : edgeL l k = false := by
  cases h : edgeL l k with
  | false => rfl
  | true =>
    have := (edgeFrom_iff l k _ _).1 h j (by omega) (by omega)
    rcases uni_wsz (l.drop j) with q | q <;> omega
/-- The unit from a place on. -/
def unitU (l : List UInt8) (k : Nat) : Int × Nat × Nat := ((uniOf (l.drop k)).1, k, k + (uniOf (l.drop k)).2)
theorem drop_size (l : List UInt8) (k : Nat) (h : k < l.length) : 1 ≤ (uniOf (l.drop k)).2 ∧ k + (uniOf (l.drop k)).2 ≤ l.length ∧ (uniOf (l.drop k)).2 ≤ 4 := by
  cases h' : l.drop k with
  | nil => have := congrArg List.length h'; rw [List.length_drop] at this; simp at this; omega
  | cons a r =>
    have hl := congrArg List.length h'
    rw [List.length_drop, List.length_cons] at hl
    have := uni_size a r
    omega
theorem starts_ge (l : List UInt8) : ∀ (d j : Nat), l.length - j ≤ d → ∀ u ∈ unitsAt l j, j ≤ u.2.1 ∧ u.2.1 < l.length ∧ j < u.2.2 := by
  intro d
  induction d with
  | zero => intro j h u hu; rw [unitsAt_end l j (by omega)] at hu; simp at hu
  | succ d ih =>
    intro j h u hu
    by_cases hj : j < l.length
    · have hs := drop_size l j hj
      rw [unitsAt_step l j hj] at hu
      rcases List.mem_cons.1 hu with rfl | hu
      · simp only; omega
      · have := ih _ (by omega) u hu; omega
    · rw [unitsAt_end l j (by omega)] at hu; simp at hu
/-- The unit that begins at a place, in the list. -/
theorem find_start (l : List UInt8) (k : Nat) (hk : k < l.length) : ∀ (d j : Nat), l.length - j ≤ d → j ≤ k → clean l j → (unitsAt l j).find? (fun u => u.2.1 == k) = if edgeL l k then some (unitU l k) else none := by
  intro d
  induction d with
  | zero => intro j h hj; omega
  | succ d ih =>
    intro j h hjk hc
    have hs := drop_size l j (by omega)
    rw [unitsAt_step l j (by omega)]
    by_cases e : j = k
    · subst e
      rw [List.find?_cons_of_pos (by simp), edge_clean hc]
      rfl
    · rw [List.find?_cons_of_neg (by simpa using e)]
      by_cases hb : k < j + (uniOf (l.drop j)).2
      · rw [edge_not (by omega) hb hs.2.2]
        rw [List.find?_eq_none.2 (fun u hu => by have := starts_ge l _ _ (Nat.le_refl _) u hu; simp; omega)]
        rfl
      · exact ih _ (by omega) (by omega) (clean_next hc)
/-- The place at which the unit begins that ends here. -/
def prevFrom (l : List UInt8) (k : Nat) : Nat → Nat → Nat
  | 0, _ => k - 1
  | n + 1, j => if j + wszOf (l.drop j) = k then j else prevFrom l k n (j + 1)
def prevL (l : List UInt8) (k : Nat) : Nat := prevFrom l k (k - 1 - (k - 4)) (k - 4)
theorem prevFrom_at (l : List UInt8) (k b : Nat) : ∀ n j, (∀ i, j ≤ i → i < j + n → (i + wszOf (l.drop i) = k ↔ i = b)) → (b = k - 1 ∨ (j ≤ b ∧ b < j + n)) → (b = k - 1 → j + n ≤ b) → prevFrom l k n j = b := by
  intro n
  induction n with
  | zero =>
    intro j _ h _
    rw [prevFrom]
    rcases h with h | h <;> omega
  | succ n ih =>
    intro j hi hb hq
    rw [prevFrom]
    have h0 := hi j (Nat.le_refl _) (by omega)
    by_cases e : j = b
    · subst e; rw [if_pos (h0.2 rfl)]
    · rw [if_neg (fun q => e (h0.1 q))]
      refine ih (j + 1) (fun i h1 h2 => hi i (by omega) (by omega)) ?_ (fun q => by have := hq q; omega)
      rcases hb with h | h
      · exact .inl h
      · exact .inr (by omega)
/-- A unit of more than one byte is a sequence. -/
theorem prev_is {l : List UInt8} {b k : Nat} (hc : clean l b) (hb : b < l.length) (hk : k = b + (uniOf (l.drop b)).2) : prevL l k = b := by
  have hs := drop_size l b hb
  refine prevFrom_at l k b _ _ (fun i h1 h2 => ?_) ?_ (fun q => by omega)
  · constructor
    · intro h
      rcases Nat.lt_trichotomy i b with q | q | q
      · have := hc i q; omega
      · exact q
      · have := inside (l := l) q (by omega); omega
    · rintro rfl
      rcases uni_wsz (l.drop i) with q | q <;> omega
  · by_cases e : b = k - 1
    · exact .inl e
    · exact .inr (by omega)
/-- The unit that ends at a place, in the list. -/
theorem find_end (l : List UInt8) (k : Nat) (hk : k ≤ l.length) : ∀ (d j : Nat), l.length - j ≤ d → j < k → clean l j → (unitsAt l j).find? (fun u => u.2.2 == k) = if edgeL l k then some (unitU l (prevL l k)) else none := by
  intro d
  induction d with
  | zero => intro j h hj; omega
  | succ d ih =>
    intro j h hjk hc
    have hs := drop_size l j (by omega)
    rw [unitsAt_step l j (by omega)]
    by_cases e : j + (uniOf (l.drop j)).2 = k
    · rw [List.find?_cons_of_pos (by simpa using e), edge_clean (by rw [← e]; exact clean_next hc), prev_is hc (by omega) e.symm]
      rfl
    · rw [List.find?_cons_of_neg (by simpa using e)]
      by_cases hb : k < j + (uniOf (l.drop j)).2
      · rw [edge_not (by omega) hb hs.2.2]
        rw [List.find?_eq_none.2 (fun u hu => by have := starts_ge l _ _ (Nat.le_refl _) u hu; simp; omega)]
        rfl
      · exact ih _ (by omega) (by omega) (clean_next hc)
theorem next_find (l : List UInt8) (k : Nat) (hk : k < l.length) : (unitsOf l).find? (fun u => u.2.1 == k) = if edgeL l k then some (unitU l k) else none := find_start l k hk _ 0 (Nat.le_refl _) (Nat.zero_le _) (clean_zero l)
theorem prev_find (l : List UInt8) (k : Nat) (h0 : 0 < k) (hk : k ≤ l.length) : (unitsOf l).find? (fun u => u.2.2 == k) = if edgeL l k then some (unitU l (prevL l k)) else none := find_end l k hk _ 0 (Nat.le_refl _) h0 (clean_zero l)
end Go.Proofs.YtlfeiadgahdgoaaGreatDoor
namespace Go.Proofs.YtlfeiadgahdgoaaGreatDoor
open Go.RowKit Go.Shelf Go.Lib
/-- What checkEntry answers: the number of the refusal. -/
def entF (l : List UInt8) : Option Nat := if (unitsOf l).any (fun u => u.1 == -1) = true then some 1 else if (unitsOf l).length = 0 then some 1 else if 32 < (unitsOf l).length then some 2 else none
theorem units_len (l : List UInt8) : ∀ (d k : Nat), l.length - k ≤ d → (unitsAt l k).length ≤ l.length - k
  | 0, k, h => by rw [unitsAt_end l k (by omega)]; simp
  | d + 1, k, h => by
    by_cases hk : k < l.length
    · have h1 := drop_size l k hk
      have ih := units_len l d (k + (uniOf (l.drop k)).2) (by omega)
      rw [unitsAt_step l k hk, List.length_cons]
      omega
    · rw [unitsAt_end l k (by omega)]; simp
set_option maxRecDepth 10000 in
set_option maxHeartbeats 400000 in
theorem next_end (s : ByteArray) (k : Nat) (h : (s.size : Int) ≤ (k : Int)) (w : World) :
    Calls Tryz.prog 77 #[.string s, .int .i64 (k : Int)] w fun e w' => e = .returned (.tuple #[noUnit, .bool false]) ∧ Below w.heap.size w w' := by
  go_enter Tryz.func77, Tryz.ntmps77
  go_wp2
  go_returns
  exact ⟨rfl, by go_grown⟩
/-- The loop's state: the unit at k lies at g; n units are ahead of it, none of them bad. -/
structure Ent (w W : World) (l : List UInt8) (g k n : Nat) (v0 v1 v2 : Int) : Prop where
  bel : Below w.heap.size w W
  row : W.heap[g]? = some (.cells #[.int .i64 v0, .int .i64 v1, .int .i64 v2] 67 (0, 0))
  lo : w.heap.size ≤ g
  cl : clean l k
  kl : k ≤ l.length
  cnt : ∃ pre, unitsOf l = pre ++ unitsAt l k ∧ pre.length = n ∧ ∀ u ∈ pre, u.1 ≠ -1
theorem cnt_next {l : List UInt8} {k n : Nat} (hk : k < l.length) (hb : (uniOf (l.drop k)).1 ≠ -1) (h : ∃ pre, unitsOf l = pre ++ unitsAt l k ∧ pre.length = n ∧ ∀ u ∈ pre, u.1 ≠ -1) :
    (∃ pre, unitsOf l = pre ++ unitsAt l (k + (uniOf (l.drop k)).2) ∧ pre.length = n + 1 ∧ ∀ u ∈ pre, u.1 ≠ -1) ∧ n + 1 ≤ l.length := by
  obtain ⟨pre, h1, h2, h3⟩ := h
  rw [unitsAt_step l k hk] at h1
  have hl := units_len l l.length 0 (by omega)
  have hl2 : (unitsOf l).length ≤ l.length := hl
  rw [h1, List.length_append, List.length_cons] at hl2
  refine ⟨⟨pre ++ [((uniOf (l.drop k)).1, k, k + (uniOf (l.drop k)).2)], by rw [h1]; simp, by simp [h2], fun u hu => ?_⟩, by omega⟩
  rcases List.mem_append.1 hu with hu | hu
  · exact h3 u hu
  · rw [List.mem_singleton.1 hu]; exact hb
theorem ent_bad {l : List UInt8} {k n : Nat} (hk : k < l.length) (hb : (uniOf (l.drop k)).1 = -1) (h : ∃ pre, unitsOf l = pre ++ unitsAt l k ∧ pre.length = n ∧ ∀ u ∈ pre, u.1 ≠ -1) : entF l = some 1 := by
  obtain ⟨pre, h1, _, _⟩ := h
  rw [unitsAt_step l k hk] at h1
  unfold entF
  rw [if_pos]
  rw [List.any_eq_true]
  exact ⟨((uniOf (l.drop k)).1, k, k + (uniOf (l.drop k)).2), by rw [h1]; simp, by simp [hb]⟩
theorem ent_end {l : List UInt8} {k n : Nat} (hk : ¬ k < l.length) (h : ∃ pre, unitsOf l = pre ++ unitsAt l k ∧ pre.length = n ∧ ∀ u ∈ pre, u.1 ≠ -1) : entF l = if n = 0 then some 1 else if 32 < n then some 2 else none := by
  obtain ⟨pre, h1, h2, h3⟩ := h
  rw [unitsAt_end l k (by omega), List.append_nil] at h1
  unfold entF
  rw [h1, h2, if_neg]
  rw [List.any_eq_true]
  rintro ⟨u, hu, e⟩
  exact h3 u hu (by simpa using e)
theorem set3_below {w W : World} {g : Nat} (h : Below w.heap.size w W) (hg : w.heap.size ≤ g) (a b c : Value) : Below w.heap.size w (((W.setCell ⟨g, 0, none⟩ a).setCell ⟨g, 1, none⟩ b).setCell ⟨g, 2, none⟩ c) := ((h.setCell (p := ⟨g, 0, none⟩) hg a).setCell (p := ⟨g, 1, none⟩) hg b).setCell (p := ⟨g, 2, none⟩) hg c
set_option maxRecDepth 10000 in
set_option maxHeartbeats 3200000 in
theorem entry_any (A : Nat → Addr) (s : ByteArray) (w : World) (hs : s.size ≤ 140737488355328) (hT : SeqAt w) (he : Sents w A) :
    Calls Tryz.prog 44 #[.string s] w fun e w' => e = .returned (errO A (entF s.data.toList)) ∧ Below w.heap.size w w' := by
  obtain ⟨l, hl⟩ : ∃ l, l = s.data.toList := ⟨_, rfl⟩
  have hll : l.length = s.size := by rw [hl]; simp
  have HIn : Hid (∀ k W, clean l k → k < l.length → Below w.heap.size w W → Calls Tryz.prog 77 #[.string s, .int .i64 (k : Int)] W fun e w' => e = .returned (.tuple #[unitVal (uniOf (l.drop k)).1 k (k + (uniOf (l.drop k)).2), .bool true]) ∧ Below W.heap.size W w') := hid0 (fun k W hc hk hW => by
    have h0 := next_in s k (by omega) hs W (hT.later hW)
    rw [← hl, nextVal, edge_clean hc, if_pos rfl] at h0
    exact h0)
  have HOut : Hid (∀ k W, l.length ≤ k → Calls Tryz.prog 77 #[.string s, .int .i64 (k : Int)] W fun e w' => e = .returned (.tuple #[noUnit, .bool false]) ∧ Below W.heap.size W w') := hid0 (fun k W hk => next_end s k (by omega) W)
  have HEr : Hid (∀ W, Below w.heap.size w W → W.cell? ⟨1, 0, none⟩ = some (.iface 216 (.pointer (some (A 1)))) ∧ W.cell? ⟨0, 0, none⟩ = some (.iface 216 (.pointer (some (A 2))))) := hid0 (fun W hW => ⟨(he.below hW).c1, (he.below hW).c2⟩)
  have HB0 := hid0 (Below.refl w.heap.size w)
  rw [← hl]
  have hlb : l.length ≤ 140737488355328 := by omega
  clear hT he hl hll
  -- what the first call answers
  have HF : Hid (∃ v0 v1 v2 : Int, Calls Tryz.prog 77 #[.string s, .int .i64 0] w (fun e w' => e = .returned (.tuple #[.agg #[.int .i64 v0, .int .i64 v1, .int .i64 v2], .bool (decide (0 < l.length))]) ∧ Below w.heap.size w w') ∧ (0 < l.length → v0 = (uniOf (l.drop 0)).1 ∧ v2 = ((0 + (uniOf (l.drop 0)).2 : Nat) : Int))) := hid0 (by
    by_cases h : 0 < l.length
    · refine ⟨_, _, _, by rw [decide_eq_true h]; exact HIn.out 0 w (clean_zero l) h HB0.out, fun _ => ⟨rfl, rfl⟩⟩
    · refine ⟨_, _, _, by rw [decide_eq_false h]; exact HOut.out 0 w (by omega), fun h' => absurd h' h⟩)
  obtain ⟨v0, v1, v2, hF, hv⟩ := HF.out
  have HF1 := hid0 hF
  have HV1 := hid0 hv
  clear HF hF hv
  go_enter Tryz.func44, Tryz.ntmps44
  go_wp2_with (first
    | (go_at_call 77; refine HF1.out.mono ?_; rintro e w1 ⟨rfl, hb1⟩; have HB1 := hid0 hb1; clear hb1)
    | fail)
  have HE1 : Hid (Ent w (w1.alloc (.cells #[.int .i64 v0, .int .i64 v1, .int .i64 v2] 67)) l w1.heap.size 0 0 v0 v1 v2) := hid0 ⟨HB1.out.alloc HB1.out.size _, heap_alloc_new w1 _, HB1.out.size, clean_zero l, Nat.zero_le _, ⟨[], rfl, rfl, fun u h => by simp at h⟩⟩
  go_loopw [3, 4, 5] (fun t3 t4 t5 wr => ∃ (n k g : Nat) (v0 v1 v2 : Int), t3 = .int .i64 (n : Int) ∧ t4 = .pointer (some ⟨g, 0, none⟩) ∧ t5 = .bool (decide (k < l.length)) ∧ n ≤ l.length ∧ Hid (k < l.length → v0 = (uniOf (l.drop k)).1 ∧ v2 = ((k + (uniOf (l.drop k)).2 : Nat) : Int)) ∧ Hid (Ent w wr l g k n v0 v1 v2)) (fun t3 _ _ _ => l.length + 1 - (intOf t3).toNat)
  case atStart => exact ⟨0, 0, _, _, _, _, rfl, rfl, rfl, Nat.zero_le _, HV1, HE1⟩
  case round =>
    clear HE1 HB1 HF1 HV1
    obtain ⟨n, k, g, v0, v1, v2, rfl, rfl, rfl, hn, HV, HE⟩ := hrel
    obtain ⟨⟨c0, c1, c2⟩, f0, f1, f2⟩ := row3 HE.out.row
    obtain ⟨e1, e2⟩ := HEr.out wr HE.out.bel
    by_cases hk : k < l.length
    · rw [decide_eq_true hk]
      obtain ⟨rfl, rfl⟩ := HV.out hk
      have HD := hid0 (drop_size l k hk)
      by_cases hbad : (uniOf (l.drop k)).1 = -1
      · have HR := hid0 (ent_bad hk hbad HE.out.cnt)
        rw [hbad] at c0
        clear HD
        go_wp2
        go_ret
        exact ⟨by rw [HR.out]; rfl, HE.out.bel⟩
      · have HC := hid0 (cnt_next hk hbad HE.out.cnt)
        have hn2 := HC.out.2
        have HCl := hid0 (clean_next HE.out.cl)
        have hkl := HD.out.2.1
        have HW : Hid (Below w.heap.size w (wr.alloc (.cells #[.int .i64 (uniOf (l.drop k)).1, .int .i64 v1, .int .i64 ((k + (uniOf (l.drop k)).2 : Nat) : Int)] 67))) := hid0 (HE.out.bel.alloc HE.out.bel.size _)
        have HNx : Hid (∃ y0 y1 y2 : Int, Calls Tryz.prog 77 #[.string s, .int .i64 ((k + (uniOf (l.drop k)).2 : Nat) : Int)] (wr.alloc (.cells #[.int .i64 (uniOf (l.drop k)).1, .int .i64 v1, .int .i64 ((k + (uniOf (l.drop k)).2 : Nat) : Int)] 67)) (fun e w' => e = .returned (.tuple #[.agg #[.int .i64 y0, .int .i64 y1, .int .i64 y2], .bool (decide (k + (uniOf (l.drop k)).2 < l.length))]) ∧ Below (wr.alloc (.cells #[.int .i64 (uniOf (l.drop k)).1, .int .i64 v1, .int .i64 ((k + (uniOf (l.drop k)).2 : Nat) : Int)] 67)).heap.size (wr.alloc (.cells #[.int .i64 (uniOf (l.drop k)).1, .int .i64 v1, .int .i64 ((k + (uniOf (l.drop k)).2 : Nat) : Int)] 67)) w') ∧ (k + (uniOf (l.drop k)).2 < l.length → y0 = (uniOf (l.drop (k + (uniOf (l.drop k)).2))).1 ∧ y2 = ((k + (uniOf (l.drop k)).2 + (uniOf (l.drop (k + (uniOf (l.drop k)).2))).2 : Nat) : Int))) := hid0 (by
          by_cases h : k + (uniOf (l.drop k)).2 < l.length
          · exact ⟨_, _, _, by rw [decide_eq_true h]; exact HIn.out _ _ HCl.out h HW.out, fun _ => ⟨rfl, rfl⟩⟩
          · exact ⟨_, _, _, by rw [decide_eq_false h]; exact HOut.out _ _ (by omega), fun h' => absurd h' h⟩)
        obtain ⟨y0, y1, y2, hq, hy⟩ := HNx.out
        have HQ := hid0 hq
        have HY := hid0 hy
        clear HNx hq hy HIn HOut HV
        generalize hk2 : k + (uniOf (l.drop k)).2 = k2 at *
        generalize (uniOf (l.drop k)).1 = p at *
        clear HD hk2
        go_wp2_with (first
          | (go_at_call 77; refine HQ.out.mono ?_; rintro e w5 ⟨rfl, hb5⟩; have HR5 := hid0 (boxRow hb5); have HB5 := hid0 (HW.out.trans (hb5.mono HW.out.size)); obtain ⟨⟨d0, d1, d2⟩, g0, g1, g2⟩ := row3 HR5.out; clear hb5)
          | fail)
        have HE6 := hid0 (Ent.mk (set3_below HB5.out HE.out.bel.size (.int .i64 y0) (.int .i64 y1) (.int .i64 y2)) (set3 (.int .i64 y0) (.int .i64 y1) (.int .i64 y2) HR5.out) HE.out.bel.size HCl.out hkl HC.out.1)
        go_roundw
        case rel => exact ⟨n + 1, k2, wr.heap.size, y0, y1, y2, by go_num, rfl, rfl, hn2, HY, HE6⟩
        case measure => simp [intOf]; omega
    · rw [decide_eq_false hk]
      have HR := hid0 (ent_end hk HE.out.cnt)
      by_cases h0 : n = 0
      · have h0I : (n : Int) = 0 := by omega
        rw [h0] at HR
        simp only [if_true] at HR
        go_wp2
        go_ret
        exact ⟨by rw [HR.out]; rfl, HE.out.bel⟩
      · have h0I : ¬ (n : Int) = 0 := by omega
        rw [if_neg h0] at HR
        by_cases h3 : 32 < n
        · have h3I : (32 : Int) < (n : Int) := by omega
          rw [if_pos h3] at HR
          go_wp2
          go_ret
          exact ⟨by rw [HR.out]; rfl, HE.out.bel⟩
        · have h3I : ¬ (32 : Int) < (n : Int) := by omega
          rw [if_neg h3] at HR
          go_wp2
          go_ret
          exact ⟨by rw [HR.out]; rfl, HE.out.bel⟩
end Go.Proofs.YtlfeiadgahdgoaaGreatDoor
namespace Go.Proofs.YtlfeiadgahdgoaaGreatDoor
open Go.RowKit Go.Shelf Go.Lib
def entE (s : ByteArray) : Option Nat := entF s.data.toList
end Go.Proofs.YtlfeiadgahdgoaaGreatDoor
namespace Go.Proofs.YtlfeiadgahdgoaaGreatDoor
open Go.RowKit Go.Shelf Go.Lib
def markB : ByteArray := ⟨#[98, 101, 104, 105, 110, 100]⟩
def cellsE (l : List (Bool × ByteArray)) : List Value := l.flatMap fun r => [.bool r.1, .string r.2]
theorem cellsE_length (l : List (Bool × ByteArray)) : (cellsE l).length = l.length * 2 := by
  induction l with
  | nil => rfl
  | cons u l ih => rw [cellsE, List.flatMap_cons, List.length_append, List.length_cons]; rw [cellsE] at ih; rw [ih]; simp; omega
theorem cellsE_append (l m : List (Bool × ByteArray)) : cellsE (l ++ m) = cellsE l ++ cellsE m := by simp [cellsE]
theorem cellsE_at (l : List (Bool × ByteArray)) : ∀ (k : Nat) (h : k < l.length), (cellsE l)[k * 2]? = some (.bool l[k].1) ∧ (cellsE l)[k * 2 + 1]? = some (.string l[k].2) := by
  induction l with
  | nil => intro k h; simp at h
  | cons u l ih =>
    intro k h
    have e : cellsE (u :: l) = .bool u.1 :: .string u.2 :: cellsE l := rfl
    cases k with
    | zero => rw [e]; simp
    | succ k =>
      have := ih k (by simpa using h)
      rw [e, show (k + 1) * 2 = k * 2 + 1 + 1 by omega, show k * 2 + 1 + 1 + 1 = (k * 2 + 1) + 1 + 1 by omega]
      simpa using this
theorem infoEdit : (Tryz.prog.info? 40).map (fun i => (i.zero, i.size, i.bytes)) = some (some (.agg #[.bool false, .string ⟨#[]⟩]), 2, 24) := by kernel_rfl
theorem infoSec : (Tryz.prog.info? 38).map (fun i => (i.zero, i.size, i.bytes)) = some (some (.agg #[.string ⟨#[]⟩, .string ⟨#[]⟩, .slice none 0 0]), 3, 56) := by kernel_rfl
/-- Edits in a row of one's own. -/
def OwnE (w : World) (base : Nat) (v : Value) (n : Nat) (l : List (Bool × ByteArray)) : Prop := w.ownsRow base 40 2 v n (cellsE l)
def marksE (j : Nat) : List (Bool × ByteArray) := List.replicate j (false, markB)
theorem marksE_succ (j : Nat) : marksE (j + 1) = marksE j ++ [(false, markB)] := by unfold marksE; rw [List.replicate_succ']
/-- A section, and where its edits lie. -/
structure SecAt where
  s : Sec
  blk : Nat
  cap : Nat
def cellsX (S : List SecAt) : List Value := S.flatMap fun x => [.string x.s.loc, .string x.s.par, .slice (some ⟨x.blk, 0, none⟩) x.s.ed.length x.cap]
def markX : Nat → List Value
  | 0 => []
  | m + 1 => markX m ++ [.string markB, .string ⟨#[]⟩, .slice none 0 0]
theorem cellsX_length (S : List SecAt) : (cellsX S).length = S.length * 3 := by
  induction S with
  | nil => rfl
  | cons u l ih =>
    have e : cellsX (u :: l) = .string u.s.loc :: .string u.s.par :: .slice (some ⟨u.blk, 0, none⟩) u.s.ed.length u.cap :: cellsX l := rfl
    rw [e]; simp [ih]; omega
theorem cellsX_append (l m : List SecAt) : cellsX (l ++ m) = cellsX l ++ cellsX m := by simp [cellsX]
theorem cellsX_at (S : List SecAt) : ∀ (k : Nat) (h : k < S.length), (cellsX S)[k * 3]? = some (.string S[k].s.loc) ∧ (cellsX S)[k * 3 + 1]? = some (.string S[k].s.par) ∧ (cellsX S)[k * 3 + 2]? = some (.slice (some ⟨S[k].blk, 0, none⟩) S[k].s.ed.length S[k].cap) := by
  induction S with
  | nil => intro k h; simp at h
  | cons u l ih =>
    intro k h
    have e : cellsX (u :: l) = .string u.s.loc :: .string u.s.par :: .slice (some ⟨u.blk, 0, none⟩) u.s.ed.length u.cap :: cellsX l := rfl
    cases k with
    | zero => rw [e]; simp
    | succ k =>
      have := ih k (by simpa using h)
      rw [e, show (k + 1) * 3 = k * 3 + 1 + 1 + 1 by omega, show k * 3 + 1 + 1 + 1 + 1 = (k * 3 + 1) + 1 + 1 + 1 by omega, show k * 3 + 1 + 1 + 1 + 2 = (k * 3 + 2) + 1 + 1 + 1 by omega]
      simpa using this
theorem markX_length : ∀ m, (markX m).length = m * 3
  | 0 => rfl
  | m + 1 => by rw [markX, List.length_append, markX_length m]; simp; omega
theorem markX_at : ∀ (m k : Nat), k < m → (markX m)[k * 3]? = some (.string markB)
  | 0, _, h => absurd h (Nat.not_lt_zero _)
  | m + 1, k, h => by
    rw [markX]
    by_cases e : k < m
    · rw [List.getElem?_append_left (by rw [markX_length]; omega)]
      exact markX_at m k e
    · have : k = m := by omega
      subst this
      rw [List.getElem?_append_right (by rw [markX_length]; omega), markX_length, Nat.sub_self]
      rfl
theorem own_blk {W W' : World} {lo t s n : Nat} {v : Value} {xs : List Value} (h : W.ownsRow lo t s v n xs) (hb : ∀ k, v.ownBlock = some k → W'.heap[k]? = W.heap[k]?) : W'.ownsRow lo t s v n xs := by
  refine ⟨h.1, ?_⟩
  rcases h.2 with h2 | ⟨g, cap, cur0, hv, hg, hr, r⟩
  · exact .inl h2
  · exact .inr ⟨g, cap, cur0, hv, hg, (hb g (by rw [hv]; rfl)).trans hr, r⟩
theorem owns_lower {w : World} {base base' : Nat} {e : TypeId} {size : Nat} {v : Value} {n : Nat} {xs : List Value} (h : w.ownsRow base e size v n xs) (hb : base' ≤ base) : w.ownsRow base' e size v n xs :=
  ⟨h.1, h.2.imp id (fun ⟨g, cap, cur, h1, h2, h3⟩ => ⟨g, cap, cur, h1, Nat.le_trans hb h2, h3⟩)⟩
/-- Sections of one's own, m marks behind them. -/
structure Giv (w : World) (lo : Nat) (v : Value) (S : List SecAt) (m : Nat) : Prop where
  row : w.ownsRow lo 38 3 v (S.length + m) (cellsX S ++ markX m)
  ed : ∀ x ∈ S, OwnE w lo (.slice (some ⟨x.blk, 0, none⟩) (x.s.ed.length + 1) x.cap) (x.s.ed.length + 1) (x.s.ed ++ marksE 1)
  ne : ∀ x ∈ S, v.ownBlock ≠ some x.blk
  pw : S.Pairwise fun x y => x.blk ≠ y.blk
theorem Giv.keep {w w' : World} {lo : Nat} {v : Value} {S : List SecAt} {m : Nat} (h : Giv w lo v S m) (hb : ∀ k, lo ≤ k → k < w.heap.size → w'.heap[k]? = w.heap[k]?) : Giv w' lo v S m :=
  ⟨own_blk h.row (fun k hk => hb k (World.ownsRow.lt h.row k hk).1 (World.ownsRow.lt h.row k hk).2), fun x hx => own_blk (h.ed x hx) (fun k hk => hb k (World.ownsRow.lt (h.ed x hx) k hk).1 (World.ownsRow.lt (h.ed x hx) k hk).2), h.ne, h.pw⟩
/-- The sections' row has grown: in its place, or into a new row. -/
theorem Giv.grown {w wa w' : World} {lo : Nat} {v v' : Value} {S S' : List SecAt} {m m' : Nat} (h : Giv w lo v S m) (hwa : ∀ k, lo ≤ k → k < w.heap.size → wa.heap[k]? = w.heap[k]?) (hg : wa.grownBy w' v.ownBlock)
    (hrow : w'.ownsRow lo 38 3 v' (S'.length + m') (cellsX S' ++ markX m')) (hat : v'.ownBlock = v.ownBlock ∨ ∃ g, v'.ownBlock = some g ∧ wa.heap.size ≤ g)
    (hS : ∀ x ∈ S', x ∈ S ∨ (OwnE wa lo (.slice (some ⟨x.blk, 0, none⟩) (x.s.ed.length + 1) x.cap) (x.s.ed.length + 1) (x.s.ed ++ marksE 1) ∧ w.heap.size ≤ x.blk)) (hp : S' = S ∨ ∃ x, S' = S ++ [x] ∧ w.heap.size ≤ x.blk) : Giv w' lo v' S' m' := by
  have key : ∀ x ∈ S', OwnE wa lo (.slice (some ⟨x.blk, 0, none⟩) (x.s.ed.length + 1) x.cap) (x.s.ed.length + 1) (x.s.ed ++ marksE 1) ∧ v.ownBlock ≠ some x.blk := fun x hx => by
    rcases hS x hx with h1 | ⟨h1, h2⟩
    · have l := World.ownsRow.lt (h.ed x h1) x.blk rfl
      exact ⟨own_blk (h.ed x h1) (fun k hk => by cases hk; exact hwa x.blk l.1 l.2), h.ne x h1⟩
    · refine ⟨h1, fun e => ?_⟩
      have := (World.ownsRow.lt h.row x.blk e).2
      omega
  refine ⟨hrow, fun x hx => own_blk (key x hx).1 (fun k hk => by cases hk; exact hg.block x.blk (World.ownsRow.lt (key x hx).1 x.blk rfl).2 (fun e => (key x hx).2 e.symm)), fun x hx => ?_, ?_⟩
  rotate_left
  · rcases hp with rfl | ⟨x, rfl, hx⟩
    · exact h.pw
    · refine List.pairwise_append.2 ⟨h.pw, List.pairwise_singleton _ _, fun y hy z hz => ?_⟩
      rw [List.mem_singleton] at hz
      subst hz
      have := (World.ownsRow.lt (h.ed y hy) y.blk rfl).2
      omega
  rcases hat with e | ⟨g, e, hg'⟩
  · rw [e]; exact (key x hx).2
  · rw [e]
    intro e2
    have := (World.ownsRow.lt (key x hx).1 x.blk rfl).2
    cases e2
    omega
theorem Giv.ea {w : World} {lo : Nat} {v : Value} {S : List SecAt} {m : Nat} (h : Giv w lo v S m) (x : SecAt) (hx : x ∈ S) : EA w (some ⟨x.blk, 0, none⟩) (x.s.ed ++ marksE 1) := ⟨fun k hk => by
  have h0 := h.ed x hx
  have hl : (x.s.ed ++ marksE 1).length = x.s.ed.length + 1 := by rw [List.length_append, marksE, List.length_replicate]
  have c := cellsE_at _ k hk
  refine ⟨x.blk, 0, rfl, (World.ownsRow.lt h0 x.blk rfl).2, ?_, ?_⟩
  · rw [Nat.zero_add, World.ownsRow.cellAt h0 _ (by omega)]; exact c.1
  · rw [Nat.zero_add, World.ownsRow.cellAt h0 _ (by omega)]; exact c.2⟩
theorem EA.front {w : World} {a : Option Addr} {L M : List (Bool × ByteArray)} (h : EA w a (L ++ M)) : EA w a L := ⟨fun k hk => by
  obtain ⟨b, off, e, h1, h2, h3⟩ := h.at' k (by simp; omega)
  rw [List.getElem_append_left hk] at h2 h3
  exact ⟨b, off, e, h1, h2, h3⟩⟩
theorem Giv.xa {w : World} {lo g n cap m : Nat} {S : List SecAt} (h : Giv w lo (.slice (some ⟨g, 0, none⟩) n cap) S m) (hn : n = S.length + m) : XA w (some ⟨g, 0, none⟩) (S.map (·.s)) := ⟨fun k hk => by
  subst hn
  have hk2 : k < S.length := by simpa using hk
  obtain ⟨c0, c1, c2⟩ := cellsX_at S k hk2
  have e : (S.map (·.s))[k] = S[k].s := by simp
  have hl := cellsX_length S
  rw [e]
  refine ⟨g, 0, some ⟨S[k].blk, 0, none⟩, S[k].cap, rfl, (World.ownsRow.lt h.row g rfl).2, ?_, ?_, ?_, (h.ea S[k] (List.getElem_mem hk2)).front⟩
  · rw [Nat.zero_add, World.ownsRow.cellAt h.row _ (by omega), List.getElem?_append_left (by omega)]; exact c0
  · rw [Nat.zero_add, World.ownsRow.cellAt h.row _ (by omega), List.getElem?_append_left (by omega)]; exact c1
  · rw [Nat.zero_add, World.ownsRow.cellAt h.row _ (by omega), List.getElem?_append_left (by omega)]; exact c2⟩
end Go.Proofs.YtlfeiadgahdgoaaGreatDoor
namespace Go.Proofs.YtlfeiadgahdgoaaGreatDoor
open Go.RowKit Go.Shelf
theorem bldSize : (Tryz.prog.info? 50).map (·.size) = some 2 := by kernel_rfl
theorem bldLies : liesAt Tryz.prog Tryz.prog.depth 50 (2 / Tryz.prog.cellsOf 50) 0 50 1 = true := by kernel_rfl
theorem infoByte : (Tryz.prog.info? 5).map (fun i => (i.zero, i.size, i.bytes)) = some (some (.int .u8 0), 1, 1) := by kernel_rfl
set_option maxRecDepth 100000 in
set_option maxHeartbeats 800000 in
theorem ccUsed (b : Nat) (w : World) (h0 : w.cell? ⟨b, 0, none⟩ = some (.pointer (some ⟨b, 0, none⟩))) :
    Calls Tryz.prog 35 #[.pointer (some ⟨b, 0, none⟩)] w fun e w' => e = .returned (.tuple #[]) ∧ w' = w := by
  obtain ⟨j, hj, _⟩ := Option.map_eq_some_iff.1 bldSize
  go_enter Tryz.func35, Tryz.ntmps35
  go_wp2
  rw [Lib.run_neq_ptr_same w _ Tryz.underlying47 hj]
  go_wp2
  go_end0
  exact ⟨rfl, rfl⟩
set_option maxRecDepth 100000 in
set_option maxHeartbeats 800000 in
theorem ccNew (b : Nat) (w : World) (h0 : w.cell? ⟨b, 0, none⟩ = some (.pointer none)) (hsh : w.shape? b = some (50, 2)) (hfz : w.frozen? ⟨b, 0, none⟩ = false) :
    Calls Tryz.prog 35 #[.pointer (some ⟨b, 0, none⟩)] w fun e w' => e = .returned (.tuple #[]) ∧ w' = w.setCell ⟨b, 0, none⟩ (.pointer (some ⟨b, 0, none⟩)) := by
  obtain ⟨j, hj, hjs⟩ := Option.map_eq_some_iff.1 bldSize
  go_enter Tryz.func35, Tryz.ntmps35
  go_wp2
  rw [Lib.run_to_unsafe w ⟨b, 0, none⟩ Tryz.underlying47 Tryz.underlying95 hj (by rw [hjs]; decide) hsh (Nat.zero_lt_succ 1)]
  simp only [Result.andThen]
  rw [Oper.upon_value]
  go_wp2
  rw [run_callFunc_extern Tryz.func55 (by kernel_rfl) (by kernel_rfl) (by kernel_rfl) (e := Extern.AbiNoEscape.same) (by kernel_rfl)]
  rw [Lib.run_noEscape]
  simp only [Result.andThen]
  rw [Oper.upon_value]
  go_wp2
  rw [Lib.run_from_unsafe w ⟨b, 0, none⟩ Tryz.underlying95 Tryz.underlying47 hj hsh bldLies]
  simp only [Result.andThen]
  rw [Oper.upon_value]
  go_wp2
  go_end0
  exact ⟨rfl, rfl⟩
/-- A builder in memory, used or not. -/
abbrev Bl (B b : Nat) (bs : List Value) (w : World) : Prop := Lib.IsBuilder 50 5 B b bs w
abbrev Bu (B b : Nat) (bs : List Value) (w : World) : Prop := Lib.BuilderAt 50 5 B b (.pointer (some ⟨b, 0, none⟩)) bs w
/-- A write keeps what is no row of bytes. -/
def Kb (b : Nat) (w w' : World) : Prop := ∀ (i : Nat) (c : Array Value) (t : TypeId) (z : Nat × Nat), w.heap[i]? = some (Obj.cells c t z) → ¬ t = 5 → ¬ i = b → w'.heap[i]? = some (Obj.cells c t z)
theorem cc_any (B b : Nat) (bs : List Value) (w : World) (h : Bl B b bs w) : Calls Tryz.prog 35 #[.pointer (some ⟨b, 0, none⟩)] w fun e w' => e = .returned (.tuple #[]) ∧ Bu B b bs w' ∧ Below B w w' ∧ Kb b w w' := by
  rcases h with h | h
  · exact (ccNew b w h.cell0 h.shape h.frozen0).mono fun e w' ⟨h1, h2⟩ => ⟨h1, h2 ▸ h.used _, h2 ▸ (Below.refl B w).setCell (p := ⟨b, 0, none⟩) h.1 _, h2 ▸ fun i c t z hi _ hn => (Below.heap_setCell w ⟨b, 0, none⟩ _ i hn).trans hi⟩
  · exact (ccUsed b w h.cell0).mono fun e w' ⟨h1, h2⟩ => ⟨h1, h2 ▸ h, h2 ▸ Below.refl B _, h2 ▸ fun i c t z hi _ _ => hi⟩
/-- What a write leaves. -/
theorem bu_grown {B b : Nat} {bs bs' : List Value} {w w1 w2 : World} {v v' : Value} {o : Option Obj} (hB : B ≤ b) (hbk : w1.heap[b]? = some (.cells #[.pointer (some ⟨b, 0, none⟩), v] 50 (0, 0))) (hown : w1.ownsRow B 5 1 v bs.length bs) (hne : v.ownBlock ≠ some b) (hb1 : Below B w w1) (_hBw : B ≤ w.heap.size) (hk1 : Kb b w w1)
    (hgrow : ((match o with | some x => w1.alloc x | none => w1)).grownBy w2 v.ownBlock) (hown' : w2.ownsRow B 5 1 v' bs'.length bs') :
    w2.heap[b]? = some (.cells #[.pointer (some ⟨b, 0, none⟩), v] 50 (0, 0)) ∧ Bu B b bs' (w2.setCell ⟨b, 1, none⟩ v') ∧ Below B w (w2.setCell ⟨b, 1, none⟩ v') ∧ Kb b w (w2.setCell ⟨b, 1, none⟩ v') := by
  have hlt := (Array.getElem?_eq_some_iff.1 hbk).1
  have hb2 : w2.heap[b]? = some (.cells #[.pointer (some ⟨b, 0, none⟩), v] 50 (0, 0)) := by
    cases o with
    | none => exact (hgrow.block b hlt (fun e => hne e.symm)).trans hbk
    | some x => exact (hgrow.block b (by simp; omega) (fun e => hne e.symm)).trans ((Below.heap_alloc w1 x b hlt).trans hbk)
  have hs := hb1.size
  have hrow : ∀ i c t z, w1.heap[i]? = some (.cells c t z) → ¬ t = 5 → some i ≠ v.ownBlock := fun i c t z hi ht e => by
    rcases hown.2 with ⟨rfl, _⟩ | ⟨g, cap, cur, rfl, _, hg, _⟩
    · simp [Value.ownBlock] at e
    · simp only [Value.ownBlock, Option.some.injEq] at e
      subst e
      rw [hi] at hg
      simp only [Option.some.injEq, Obj.cells.injEq] at hg
      exact ht hg.2.1
  refine ⟨hb2, Lib.BuilderAt.put hB hb2 hown' (by decide), ?_, fun i c t z hi ht hn => ?_⟩
  rotate_left
  · have h1 := hk1 i c t z hi ht hn
    have hl := (Array.getElem?_eq_some_iff.1 h1).1
    rw [Below.heap_setCell w2 ⟨b, 1, none⟩ v' i hn]
    cases o with
    | none => exact (hgrow.block i hl (hrow i c t z h1 ht)).trans h1
    | some x => exact (hgrow.block i (by simp; omega) (hrow i c t z h1 ht)).trans ((Below.heap_alloc w1 x i hl).trans h1)
  cases o with
  | none => exact (hb1.grown hgrow (by omega) (fun k hk => (World.ownsRow.lt hown k hk).1)).setCell (p := ⟨b, 1, none⟩) hB _
  | some x => exact ((hb1.alloc (by omega) x).grown hgrow (by simp; omega) (fun k hk => (World.ownsRow.lt hown k hk).1)).setCell (p := ⟨b, 1, none⟩) hB _
theorem row_form {w : World} {B n : Nat} {v : Value} {xs : List Value} (h : w.ownsRow B 5 1 v n xs) : ∃ a c, v = .slice a n c := by
  rcases h.2 with ⟨rfl, hn⟩ | ⟨g, c, cur, rfl, _⟩
  · exact ⟨none, 0, by rw [hn]⟩
  · exact ⟨_, c, rfl⟩
set_option maxRecDepth 10000 in
set_option maxHeartbeats 800000 in
theorem writeByte_any (B b : Nat) (bs : List Value) (c : Int) (w : World) (h : Bl B b bs w) (hlen : bs.length + 1 ≤ 140737488355328) (hBw : B ≤ w.heap.size) :
    Calls Tryz.prog 163 #[.pointer (some ⟨b, 0, none⟩), .int .u8 c] w fun e w' => e = .returned .nilIface ∧ Bu B b (bs ++ [.int .u8 c]) w' ∧ Below B w w' ∧ Kb b w w' := by
  obtain ⟨i0, hi, hz0, hz1, hz2⟩ := info_parts infoByte
  have HC := hid0 (cc_any B b bs w h)
  clear h
  go_enter Tryz.func163, Tryz.ntmps163
  go_wp2_with (first
    | (go_at_call 35; refine HC.out.mono ?_; rintro e w1 ⟨rfl, ⟨hB, v, hbk, hown, hne⟩, hb1, hk1⟩; have HK1 := hid0 hk1; have c1 : w1.cell? ⟨b, 1, none⟩ = some v := (by rw [cell_of_row _ _ _ _ _ _ hbk]; rfl); have HK := hid0 hbk; have HO := hid0 hown; have HNe := hid0 hne; have HB1 := hid0 hb1; have hs1 := hb1.size; clear hbk hown hne hb1 hk1)
    | (at_builtin; refine wpList_append_own _ rfl _ _ 48 rfl B 5 i0 (.int .u8 0) 1 1 Tryz.underlying48 hi hz0 hz1 hz2 rfl (by decide) v bs.length bs rfl (HO.out.alloc _) ⟨w1.heap.size, 0, none⟩ 1 1 [.int .u8 c] rfl rfl (cell_one_new _ _ _) (by simp [Value.oneCell']) (by unfold maxLen; omega) (by omega) (by simp; omega) ?_; intro v' w2 hown' hgrow _; obtain ⟨a', c', rfl⟩ := row_form hown'; obtain ⟨r1, r2, r3, r4⟩ := bu_grown (bs' := bs ++ [.int .u8 c]) (o := some (.cells #[.int .u8 c] 5)) hB HK.out HO.out HNe.out HB1.out hBw HK1.out hgrow (by simpa using hown'); have d1 : w2.cell? ⟨b, 1, none⟩ = some v := (by rw [cell_of_row _ _ _ _ _ _ r1]; rfl); have f1 : w2.frozen? ⟨b, 1, none⟩ = false := frozen_of_row _ _ _ _ _ r1; have HR := hid0 (And.intro r2 (And.intro r3 r4)); clear hown' hgrow r1 r2 r3 r4)
    | fail)
  go_ret
  exact ⟨rfl, HR.out⟩
set_option maxRecDepth 10000 in
set_option maxHeartbeats 800000 in
theorem writeString_any (B b : Nat) (bs : List Value) (s : ByteArray) (w : World) (h : Bl B b bs w) (hlen : bs.length + s.size ≤ 140737488355328) (hBw : B ≤ w.heap.size) :
    Calls Tryz.prog 17 #[.pointer (some ⟨b, 0, none⟩), .string s] w fun e w' => e = .returned (.tuple #[.int .i64 s.size, .nilIface]) ∧ Bu B b (bs ++ Lib.strCells s) w' ∧ Below B w w' ∧ Kb b w w' := by
  obtain ⟨i0, hi, hz0, hz1, hz2⟩ := info_parts infoByte
  have HC := hid0 (cc_any B b bs w h)
  have hsl : (Lib.strCells s).length = s.size := by simp [Lib.strCells]
  have HSl := hid0 hsl
  clear h hsl
  go_enter Tryz.func17, Tryz.ntmps17
  go_wp2_with (first
    | (go_at_call 35; refine HC.out.mono ?_; rintro e w1 ⟨rfl, ⟨hB, v, hbk, hown, hne⟩, hb1, hk1⟩; have HK1 := hid0 hk1; have c1 : w1.cell? ⟨b, 1, none⟩ = some v := (by rw [cell_of_row _ _ _ _ _ _ hbk]; rfl); have HK := hid0 hbk; have HO := hid0 hown; have HNe := hid0 hne; have HB1 := hid0 hb1; have hs1 := hb1.size; clear hbk hown hne hb1 hk1)
    | (at_builtin; refine Go.Lib.wpList_append_own_string _ rfl _ _ 48 9 rfl B 5 i0 Tryz.underlying48 Tryz.underlying9 hi hz0 hz1 hz2 v bs.length bs rfl HO.out s rfl (by unfold maxLen; omega) (by omega) (by omega) ?_; intro v' w2 hown' hgrow _; obtain ⟨a', c', rfl⟩ := row_form hown'; obtain ⟨r1, r2, r3, r4⟩ := bu_grown (bs' := bs ++ Lib.strCells s) (o := none) hB HK.out HO.out HNe.out HB1.out hBw HK1.out hgrow (by rw [List.length_append, HSl.out]; exact hown'); have d1 : w2.cell? ⟨b, 1, none⟩ = some v := (by rw [cell_of_row _ _ _ _ _ _ r1]; rfl); have f1 : w2.frozen? ⟨b, 1, none⟩ = false := frozen_of_row _ _ _ _ _ r1; have HR := hid0 (And.intro r2 (And.intro r3 r4)); clear hown' hgrow r1 r2 r3 r4)
    | fail)
  go_ret2
  exact ⟨rfl, HR.out⟩
end Go.Proofs.YtlfeiadgahdgoaaGreatDoor
namespace Go.Proofs.YtlfeiadgahdgoaaGreatDoor
open Go.RowKit Go.Shelf Go.Lib
theorem app_nilE (w : World) (ty : TypeId) : (Builtin.append_ #[36, 36] ty #[.slice none 0 0, .slice none 0 0]).run Tryz.prog w = .ok (.slice none 0 0) w := by
  go_simp
theorem news_E {w : World} {ad : Addr} {L : List (Bool × ByteArray)} (ha : EA w (some ad) L) : ∀ j u, (cellsE L)[j]? = some u → w.cell? (ad.add j) = some u := by
  intro j u hu
  have hj : j < L.length * 2 := by have := (List.getElem?_eq_some_iff.1 hu).1; rwa [cellsE_length] at this
  obtain ⟨b, off, e, _, h1, h2⟩ := ha.at' (j / 2) (by omega)
  cases e
  rw [Addr.add_mid]
  obtain ⟨q0, q1⟩ := cellsE_at L (j / 2) (by omega)
  have h3 : j % 2 = 0 ∨ j % 2 = 1 := by omega
  rcases h3 with h3 | h3
  · have ej : j = j / 2 * 2 := by omega
    rw [ej] at hu
    rw [q0] at hu
    rw [show off + j = off + j / 2 * 2 by omega, h1]
    exact hu
  · have ej : j = j / 2 * 2 + 1 := by omega
    rw [ej] at hu
    rw [q1] at hu
    rw [show off + j = off + j / 2 * 2 + 1 by omega, h2]
    exact hu
/-- append of edits handed in onto nothing. -/
theorem wpList_spreadE {ops : Array Oper} {rest : List Oper} {op : Oper} {a : Act} {w : World} {Q : Exit → Act → World → Prop} (hgd : op.guard = none) (s x : Operand) (ho : op.op = .call { callee := .builtin .append, args := #[s, x], argTypes := #[36, 36] })
    (aN : Option Addr) (L : List (Bool × ByteArray)) (cN base : Nat) (hs : a.eval s = .slice none 0 0) (hx : a.eval x = .slice aN L.length cN) (hnil : aN = none → cN = 0) (ha : EA w aN L) (hl : L.length ≤ 1000000000) (hb : base ≤ w.heap.size)
    (h : ∀ v' w', OwnE w' base v' L.length L → w.grownBy w' none → wpList Tryz.prog ops Q rest (a.put op.dst v') w') : wpList Tryz.prog ops Q (op :: rest) a w := by
  obtain ⟨i0, hi, hz0, hz1, hz2⟩ := info_parts infoEdit
  cases aN with
  | none =>
    have hL : L = [] := by
      cases L with
      | nil => rfl
      | cons y r => obtain ⟨b, off, e, _⟩ := ha.at' 0 (by simp); cases e
    subst hL
    have hc := hnil rfl
    subst hc
    refine wpList_plain hgd fun K hK => ?_
    have hr := app_nilE w op.type
    unfold Oper.wp execOp
    simp only [ho, resolve, invoke, builtin, Sem.run_bind, Sem.run_pure, Result.andThen_ok, List.map_toArray, List.map_cons, List.map_nil, hs, hx, List.length_nil, hr]
    exact hK _ _ (h _ _ (World.ownsRow_nil _ _ _ _) ⟨rfl, rfl, rfl, Nat.le_refl _, fun _ _ _ => rfl⟩)
  | some ad =>
    refine wpList_append_own _ hgd s x 36 ho base 40 i0 (.agg #[.bool false, .string ⟨#[]⟩]) 2 24 Tryz.underlying36 hi hz0 hz1 hz2 rfl (by decide) (.slice none 0 0) 0 [] hs (World.ownsRow_nil _ _ _ _) ad L.length cN (cellsE L) hx (cellsE_length L) (news_E ha) (fun u hu => by simp only [cellsE, List.mem_flatMap, List.mem_cons, List.not_mem_nil, or_false] at hu; obtain ⟨y, _, rfl | rfl⟩ := hu <;> rfl) (by unfold maxLen; omega) (by omega) hb (fun v' w' h1 h2 _ => h v' w' (by rw [Nat.zero_add] at h1; exact h1) h2)
/-- Sections in memory; a list of edits that is none has no room. -/
structure XB (w : World) (a : Option Addr) (L : List Sec) : Prop where
  at' : ∀ k (h : k < L.length), ∃ b off ae ce, a = some ⟨b, off, none⟩ ∧ b < w.heap.size ∧ w.cell? ⟨b, off + k * 3, none⟩ = some (.string L[k].loc) ∧ w.cell? ⟨b, off + k * 3 + 1, none⟩ = some (.string L[k].par) ∧ w.cell? ⟨b, off + k * 3 + 2, none⟩ = some (.slice ae L[k].ed.length ce) ∧ EA w ae L[k].ed ∧ (ae = none → ce = 0)
theorem XB.xa {w : World} {a : Option Addr} {L : List Sec} (h : XB w a L) : XA w a L := ⟨fun k hk => by
  obtain ⟨b, off, ae, ce, h1, h2, h3, h4, h5, h6, _⟩ := h.at' k hk
  exact ⟨b, off, ae, ce, h1, h2, h3, h4, h5, h6⟩⟩
theorem XB.later {w w' : World} {a : Option Addr} {L : List Sec} (h : XB w a L) (hb : Below w.heap.size w w') : XB w' a L := ⟨fun k hk => by
  obtain ⟨b, off, ae, ce, rfl, hl, h0, h1, h2, h3, h4⟩ := h.at' k hk
  exact ⟨b, off, ae, ce, rfl, Nat.lt_of_lt_of_le hl hb.size, (hb.cell (p := ⟨b, off + k * 3, none⟩) hl).trans h0, (hb.cell (p := ⟨b, off + k * 3 + 1, none⟩) hl).trans h1, (hb.cell (p := ⟨b, off + k * 3 + 2, none⟩) hl).trans h2, h3.later hb, h4⟩⟩
/-- The bundle handed in, the one that is answered, the one that is made. -/
structure OS (W : World) (X : Nat) (sv v : Value) : Prop where
  box : W.heap[X]? = some (.cells #[sv] 24 (0, 0))
  res : W.heap[X + 1]? = some (.cells #[.slice none 0 0] 24 (0, 0))
  c : W.heap[X + 1 + 1]? = some (.cells #[v] 24 (0, 0))
theorem OS.cells {W : World} {X : Nat} {sv v : Value} (h : OS W X sv v) : W.cell? ⟨X, 0, none⟩ = some sv ∧ W.cell? ⟨X + 1 + 1, 0, none⟩ = some v ∧ W.frozen? ⟨X + 1 + 1, 0, none⟩ = false ∧ W.cell? ⟨X + 1, 0, none⟩ = some (.slice none 0 0) ∧ W.frozen? ⟨X + 1, 0, none⟩ = false :=
  ⟨by rw [cell_of_row _ _ _ _ _ _ h.box]; rfl, by rw [cell_of_row _ _ _ _ _ _ h.c]; rfl, by simp [World.frozen?, h.c], by rw [cell_of_row _ _ _ _ _ _ h.res]; rfl, by simp [World.frozen?, h.res]⟩
theorem OS.keep {W W' : World} {X : Nat} {sv v : Value} (h : OS W X sv v) (hk : ∀ k, k < X + 3 → W'.heap[k]? = W.heap[k]?) : OS W' X sv v :=
  ⟨(hk X (by omega)).trans h.box, (hk (X + 1) (by omega)).trans h.res, (hk (X + 1 + 1) (by omega)).trans h.c⟩
theorem OS.set {W : World} {X : Nat} {sv v : Value} (h : OS W X sv v) (u : Value) : OS (W.setCell ⟨X + 1 + 1, 0, none⟩ u) X sv u :=
  ⟨(Below.heap_setCell W _ u X (by simp; omega)).trans h.box, (Below.heap_setCell W _ u (X + 1) (by simp)).trans h.res, heap_setCell_same W _ 0 _ _ u h.c⟩
theorem cell_al {w : World} {p : Addr} {v : Value} (h : w.cell? p = some v) (o : Obj) : (w.alloc o).cell? p = some v := (((Below.refl w.heap.size w).alloc (Nat.le_refl _) o).cell (World.block_lt_of_cell? w p h)).trans h
theorem own_slice {w : World} {lo t s n : Nat} {v : Value} {xs : List Value} (h : w.ownsRow lo t s v n xs) : ∃ a cap, v = .slice a n cap := by
  rcases h.2 with ⟨rfl, rfl⟩ | ⟨g, cap, cur, rfl, _⟩
  · exact ⟨none, 0, rfl⟩
  · exact ⟨_, cap, rfl⟩
theorem below_grown {w w' : World} (h : w.grownBy w' none) : Below w.heap.size w w' := (Below.refl _ _).grown h (Nat.le_refl _) (fun k hk => by cases hk)
theorem below_grownD {w w' : World} (h : w.drew.grownBy w' none) : Below w.heap.size w w' := by
  have := below_grown h
  exact ⟨this.os, this.tape, this.output, this.size, this.block⟩
theorem use_key {G T : Prop} (main : Hid T → G) (cont : T) : G := main cont
theorem own_form {w : World} {base : Nat} {e : TypeId} {size : Nat} {v : Value} {n : Nat} {xs : List Value} (h : w.ownsRow base e size v n xs) (hn : 0 < n) : ∃ g cap, v = .slice (some ⟨g, 0, none⟩) n cap ∧ base ≤ g ∧ g < w.heap.size ∧ n ≤ cap := by
  have h0 := h
  rcases h.2 with ⟨_, h1⟩ | ⟨g, cap, cur, rfl, hb, hr, hc, _⟩
  · omega
  · exact ⟨g, cap, rfl, hb, (World.ownsRow.lt h0 g rfl).2, hc⟩
theorem cell2_new (w : World) (a b : Value) (t : TypeId) : ∀ j u, [a, b][j]? = some u → (w.alloc (.cells #[a, b] t)).cell? ((⟨w.heap.size, 0, none⟩ : Addr).add j) = some u := by
  intro j u h
  rw [Addr.add_lit, cell_of_row _ w.heap.size _ _ _ _ (heap_alloc_new w _), Nat.zero_add]
  simpa using h
theorem lt_of_row {W : World} {k : Nat} {o : Obj} (h : W.heap[k]? = some o) : k < W.heap.size := (Array.getElem?_eq_some_iff.1 h).1
theorem grown_low {w w' : World} {o : Obj} {lo t s n : Nat} {v : Value} {xs : List Value} (ho : w.ownsRow lo t s v n xs) (hg : (w.alloc o).grownBy w' v.ownBlock) (k : Nat) (hk : k < lo) (hw : k < w.heap.size) : w'.heap[k]? = w.heap[k]? :=
  (hg.block k (by simp; omega) (fun e => by have := (World.ownsRow.lt ho k e.symm).1; omega)).trans (Below.heap_alloc w o k hw)
theorem grown_below {B : Nat} {w wr w' : World} {o : Obj} {lo t s n : Nat} {v : Value} {xs : List Value} (hb : Below B w wr) (ho : wr.ownsRow lo t s v n xs) (hg : (wr.alloc o).grownBy w' v.ownBlock) (hB : B ≤ lo) (hw : B ≤ w.heap.size) : Below B w w' :=
  ⟨hg.os.trans hb.os, hg.tape.trans hb.tape, hg.output.trans hb.output, Nat.le_trans hb.size (Nat.le_trans (by simp) hg.size), fun k hk => (grown_low ho hg k (by omega) (by have := hb.size; omega)).trans (hb.block k hk)⟩
/-- A section's own variable. -/
theorem sec_cells {W : World} {B : Nat} {x y z : Value} (h : W.heap[B]? = some (.cells #[x, y, z] 38 (0, 0))) : W.cell? ⟨B, 0, none⟩ = some x ∧ W.cell? ⟨B, 1, none⟩ = some y ∧ W.cell? ⟨B, 2, none⟩ = some z ∧ W.frozen? ⟨B, 2, none⟩ = false :=
  ⟨by rw [cell_of_row _ _ _ _ _ _ h]; rfl, by rw [cell_of_row _ _ _ _ _ _ h]; rfl, by rw [cell_of_row _ _ _ _ _ _ h]; rfl, by simp [World.frozen?, h]⟩
/-- What own leaves. -/
def Owned (L : List Sec) (w : World) (e : Ending) (w' : World) : Prop :=
  ∃ g cap S, e = .returned (.agg #[.slice (some ⟨g, 0, none⟩) L.length cap]) ∧ L.length + 1 ≤ cap ∧ S.map (·.s) = L ∧ Giv w' w.heap.size (.slice (some ⟨g, 0, none⟩) (L.length + 1) cap) S 1 ∧ Below w.heap.size w w'
end Go.Proofs.YtlfeiadgahdgoaaGreatDoor
namespace Go.Proofs.YtlfeiadgahdgoaaGreatDoor
abbrev By := List UInt8
def isBl (c : UInt8) : Bool := c == 32 || c == 9
def isDg (c : UInt8) : Bool := decide (48 ≤ c.toNat) && decide (c.toNat ≤ 57)
def isLt (c : UInt8) : Bool := (decide (65 ≤ c.toNat) && decide (c.toNat ≤ 90)) || (decide (97 ≤ c.toNat) && decide (c.toNat ≤ 122))
def isHx (c : UInt8) : Bool := isDg c || (decide (65 ≤ c.toNat) && decide (c.toNat ≤ 70)) || (decide (97 ≤ c.toNat) && decide (c.toNat ≤ 102))
def isNb (c : UInt8) : Bool := isLt c || isDg c || c == 95
/-- The number of a hexadecimal digit. -/
def hxv (c : UInt8) : Nat := if c.toNat ≤ 57 then c.toNat - 48 else if c.toNat ≤ 70 then c.toNat - 55 else c.toNat - 87
def hexN (l : By) : Nat := l.foldl (fun n c => 16 * n + hxv c) 0
theorem hexN_snoc (l : By) (c : UInt8) : hexN (l ++ [c]) = 16 * hexN l + hxv c := by simp [hexN]
theorem hxv_lt (c : UInt8) (h : isHx c = true) : hxv c < 16 := by
  simp only [isHx, isDg, Bool.or_eq_true, Bool.and_eq_true, decide_eq_true_eq] at h
  unfold hxv
  split
  · omega
  · split <;> omega
theorem hexN_lt (l : By) (h : ∀ c ∈ l, isHx c = true) : hexN l < 16 ^ l.length := by
  suffices H : ∀ (l : By), (∀ c ∈ l.reverse, isHx c = true) → hexN l.reverse < 16 ^ l.length by
    have := H l.reverse (by simpa using h)
    simpa using this
  intro l
  induction l with
  | nil => intro _; simp [hexN]
  | cons c r ih =>
    intro h
    rw [List.reverse_cons, hexN_snoc]
    have h1 := ih (fun x hx => h x (by simp at hx ⊢; exact .inl hx))
    have h2 := hxv_lt c (h c (by simp))
    simp only [List.length_cons, Nat.pow_succ]
    omega
/-- A name. -/
def isNm (l : By) : Bool := decide (1 ≤ l.length) && decide (l.length ≤ 32) && (l.head?.any isLt) && l.all isNb
/-- A line's end is cut off. -/
def chopR (l : By) : By := if l.getLast? = some 13 then l.dropLast else l
/-- The lines, with what was read of the first one. -/
def linesGo (cur : By) : By → List By
  | [] => [cur]
  | c :: r => if c = 10 then chopR cur :: linesGo [] r else linesGo (cur ++ [c]) r
def linesOf (l : By) : List By := linesGo [] l
theorem linesGo_none (a cur : By) (h : ∀ c ∈ a, c ≠ 10) : linesGo cur a = [cur ++ a] := by
  induction a generalizing cur with
  | nil => simp [linesGo]
  | cons c r ih =>
    rw [linesGo, if_neg (h c (.head _)), ih _ (fun x hx => h x (.tail _ hx))]
    simp
theorem linesGo_cut (a b cur : By) (h : ∀ c ∈ a, c ≠ 10) : linesGo cur (a ++ 10 :: b) = chopR (cur ++ a) :: linesGo [] b := by
  induction a generalizing cur with
  | nil => simp [linesGo]
  | cons c r ih =>
    rw [List.cons_append, linesGo, if_neg (h c (.head _)), ih _ (fun x hx => h x (.tail _ hx))]
    simp
theorem linesGo_len (l cur : By) : (linesGo cur l).length ≤ l.length + 1 := by
  induction l generalizing cur with
  | nil => simp [linesGo]
  | cons c r ih =>
    rw [linesGo]
    split
    · have := ih []; simp; omega
    · have := ih (cur ++ [c]); simp; omega
/-- Blanks off both ends. -/
def trimB (l : By) : By := ((l.dropWhile isBl).reverse.dropWhile isBl).reverse
def bareOf (l : By) : By := trimB (l.takeWhile (fun c => c != 35))
/-- Behind the points of a line. -/
def tailL (lo hi : Nat) (r : By) : Option (Nat × Nat × By) :=
  match r.dropWhile isBl with
  | [] => none
  | c :: r2 => if c = 59 then (if isNm (r2.dropWhile isBl) then some (lo, hi, r2.dropWhile isBl) else none) else none
/-- Digits at the beginning: how many, what they say. -/
def ptLen (s : By) : Nat := (s.takeWhile isHx).length
def ptOk (s : By) : Bool := decide (4 ≤ ptLen s) && decide (ptLen s ≤ 6)
def ptVal (s : By) : Nat := hexN (s.takeWhile isHx)
/-- What a bare line says. -/
def saidL (s : By) : Option (Nat × Nat × By) :=
  if ptOk s then
    let r := s.drop (ptLen s)
    if r.take 2 = [46, 46] then (if ptOk (r.drop 2) then tailL (ptVal s) (ptVal (r.drop 2)) ((r.drop 2).drop (ptLen (r.drop 2))) else none)
    else tailL (ptVal s) (ptVal s) r
  else none
theorem ptVal_lt (s : By) (h : ptOk s = true) : ptVal s < 16777216 := by
  simp only [ptOk, Bool.and_eq_true, decide_eq_true_eq] at h
  have h1 := hexN_lt (s.takeWhile isHx) (fun c hc => List.all_eq_true.1 (List.all_takeWhile) c hc)
  have h2 : 16 ^ (s.takeWhile isHx).length ≤ 16 ^ 6 := Nat.pow_le_pow_right (by omega) h.2
  unfold ptVal
  omega
theorem takeWhile_len_drop (p : UInt8 → Bool) (s : By) : s.drop (s.takeWhile p).length = s.dropWhile p := by
  induction s with
  | nil => rfl
  | cons c r ih =>
    simp only [List.takeWhile_cons, List.dropWhile_cons]
    split
    · simpa using ih
    · rfl
/-- A scan that stands at k. -/
theorem scan_at (p : UInt8 → Bool) (s : By) (k : Nat) (h : ∀ j, j < k → ∃ c, s[j]? = some c ∧ p c = true) : k ≤ (s.takeWhile p).length := by
  induction s generalizing k with
  | nil =>
    cases k with
    | zero => simp
    | succ k => obtain ⟨c, hc, _⟩ := h 0 (by omega); simp at hc
  | cons c r ih =>
    cases k with
    | zero => simp
    | succ k =>
      obtain ⟨c', hc, hp⟩ := h 0 (by omega)
      simp at hc
      subst hc
      rw [List.takeWhile_cons, if_pos hp, List.length_cons]
      have := ih k (fun j hj => by obtain ⟨c', h1, h2⟩ := h (j + 1) (by omega); exact ⟨c', by simpa using h1, h2⟩)
      omega
theorem scan_end (p : UInt8 → Bool) (s : By) (k : Nat) (h : ∀ j, j < k → ∃ c, s[j]? = some c ∧ p c = true) (he : ∀ c, s[k]? = some c → p c = false) : (s.takeWhile p).length = k := by
  induction s generalizing k with
  | nil =>
    cases k with
    | zero => simp
    | succ k => obtain ⟨c, hc, _⟩ := h 0 (by omega); simp at hc
  | cons c r ih =>
    cases k with
    | zero => rw [List.takeWhile_cons, he c (by simp)]; simp
    | succ k =>
      obtain ⟨c', hc, hp⟩ := h 0 (by omega)
      simp at hc
      subst hc
      rw [List.takeWhile_cons, if_pos hp, List.length_cons, ih k (fun j hj => by obtain ⟨c', h1, h2⟩ := h (j + 1) (by omega); exact ⟨c', by simpa using h1, h2⟩) (fun c hc => he c (by simpa using hc))]
theorem scan_take (p : UInt8 → Bool) (s : By) : s.takeWhile p = s.take (s.takeWhile p).length := by
  induction s with
  | nil => rfl
  | cons c r ih =>
    simp only [List.takeWhile_cons]
    split
    · simpa using ih
    · rfl
end Go.Proofs.YtlfeiadgahdgoaaGreatDoor
