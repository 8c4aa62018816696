/-
  RGood2W, UtfGood, UtfEq, UnitW, UListW, NextW, NearM, Lc4W, LtAM, LtAW, LtBW, LtKW.
-/
import Derived.Test.YtlnejmmhhmmomaaGreatDoorMsb
import Derived.Deep.RegionHeld3
import Derived.Deep.RegionLaw
import Derived.Maps.AppendAt
import Derived.Test.YtlnejmmhhmmomaaGreatDoorMsa
import Derived.Shelf.Strings.BuilderK
import Derived.Lib.AppendStr
namespace Go.Proofs.YtlnejmmhhmmomaaGreatDoor
open Go.RowKit
/-- What the bytes behind a lead byte make of its point. -/
def ptL (l : List UInt8) (c0 : Int) : Nat → Int
  | 0 => c0
  | j + 1 => ptL l c0 j * 64 + ((l.getD (j + 1) 0).toNat : Int) - 128
def offL (n : Nat) : Int := if n = 2 then 192 else if n = 3 then 224 else if n = 4 then 240 else 0
/-- The point and the size of the well-formed sequence at the beginning, in the reference's way. -/
def refGood (l : List UInt8) : Option (Nat × Nat) := match l with
  | [] => none
  | a :: _ =>
    if sizeL a.toNat = 0 then none else if l.length < sizeL a.toNat then none
    else if scalarP (ptL l ((a.toNat : Int) - offL (sizeL a.toNat)) (sizeL a.toNat - 1)) = true ∧ encL (ptL l ((a.toNat : Int) - offL (sizeL a.toNat)) (sizeL a.toNat - 1)).toNat = l.take (sizeL a.toNat)
    then some ((ptL l ((a.toNat : Int) - offL (sizeL a.toNat)) (sizeL a.toNat - 1)).toNat, sizeL a.toNat) else none
def goodVal (o : Option (Nat × Nat)) : Value := match o with
  | none => .tuple #[.int .i64 0, .int .i64 0]
  | some (p, n) => .tuple #[.int .i64 p, .int .i64 n]
theorem size_le (c : Nat) : sizeL c ≤ 4 := by unfold sizeL; (repeat' split) <;> omega
theorem pt_bound (l : List UInt8) (c0 : Int) (h0 : -300 ≤ c0) (h1 : c0 ≤ 300) (j : Nat) (hj : j ≤ 3) : -100000000 ≤ ptL l c0 j ∧ ptL l c0 j ≤ 100000000 := by
  have a1 := (l.getD 1 0).toNat_lt
  have a2 := (l.getD 2 0).toNat_lt
  have a3 := (l.getD 3 0).toNat_lt
  obtain rfl | rfl | rfl | rfl : j = 0 ∨ j = 1 ∨ j = 2 ∨ j = 3 := by omega
  all_goals (simp only [ptL, Nat.zero_add, Nat.reduceAdd]; omega)
theorem off_bound (c n : Nat) (hc : c < 256) : -300 ≤ (c : Int) - offL n ∧ (c : Int) - offL n ≤ 300 := by unfold offL; (repeat' split) <;> omega
theorem getD_drop (s : ByteArray) (k j : Nat) (h : k + j < s.size) : (s.data.toList.drop k).getD j 0 = s[k + j] := by
  have h2 : k + j < s.data.toList.length := by simpa using h
  rw [List.getD_eq_getElem?_getD, List.getElem?_drop, List.getElem?_eq_getElem h2]
  rfl
theorem extract_take (s : ByteArray) (k n : Nat) : (s.extract k (k + n)).data.toList = (s.data.toList.drop k).take n := by
  simp [ByteArray.data_extract]
set_option maxRecDepth 10000 in
set_option maxHeartbeats 800000 in
theorem refGood_any (s : ByteArray) (k : Nat) (hk : k < s.size) (hs : s.size ≤ 140737488355328) (w : World) :
    Calls Tryz.prog 76 #[.string s, .int .i64 (k : Int)] w fun e w' => e = .returned (goodVal (refGood (s.data.toList.drop k))) ∧ Below w.heap.size w w' := by
  have HL : Hid (s.data.toList.drop k = s[k] :: s.data.toList.drop (k + 1)) := drop_cons s k hk
  have HLen : Hid ((s.data.toList.drop k).length = s.size - k) := by show _ = _; rw [List.length_drop, bsize]
  obtain ⟨n, hn⟩ : ∃ n, n = sizeL s[k].toNat := ⟨_, rfl⟩
  have hsz := fun w => refSize_any s[k] w
  rw [← hn] at hsz
  have hn4 := size_le s[k].toNat
  rw [← hn] at hn4
  by_cases h0 : n = 0
  · have HG : Hid (goodVal (refGood (s.data.toList.drop k)) = .tuple #[.int .i64 0, .int .i64 0]) := by show _ = _; rw [HL.out, refGood, if_pos (by rw [← hn]; exact h0)]; rfl
    clear hn
    subst h0
    clear HL HLen
    go_enter Tryz.func76, Tryz.ntmps76
    go_wp2_with (go_at_call 98; refine (hsz _).mono ?_; rintro e w' ⟨rfl, rfl⟩)
    go_ret2
    exact ⟨by rw [HG.out]; rfl, Below.refl _ _⟩
  · by_cases h1 : s.size < k + n
    · have HG : Hid (goodVal (refGood (s.data.toList.drop k)) = .tuple #[.int .i64 0, .int .i64 0]) := by
        show _ = _
        rw [HL.out, refGood, ← hn, if_neg h0, ← HL.out, HLen.out, if_pos (by omega)]; rfl
      clear HL HLen hn
      go_enter Tryz.func76, Tryz.ntmps76
      go_wp2_with (go_at_call 98; refine (hsz _).mono ?_; rintro e w' ⟨rfl, rfl⟩)
      go_ret2
      exact ⟨by rw [HG.out]; rfl, Below.refl _ _⟩
    · obtain ⟨l, hl⟩ : ∃ l, l = s.data.toList.drop k := ⟨_, rfl⟩
      obtain ⟨c0, hc0⟩ : ∃ c0 : Int, c0 = (s[k].toNat : Int) - offL n := ⟨_, rfl⟩
      have HG : Hid (goodVal (refGood (s.data.toList.drop k)) = goodVal (if scalarP (ptL l c0 (n - 1)) = true ∧ encL (ptL l c0 (n - 1)).toNat = l.take n then some ((ptL l c0 (n - 1)).toNat, n) else none)) := by
        show _ = _
        rw [HL.out, refGood, ← hn, if_neg h0, ← HL.out, HLen.out, if_neg (by omega), hc0, hl]
      have hld := fun w => refLead_any s[k] n (by omega) w
      have hob := off_bound s[k].toNat n s[k].toNat_lt
      have e0 : (s[k].toNat : Int) - (if n = 2 then 192 else if n = 3 then 224 else if n = 4 then 240 else 0) = c0 := hc0.symm
      rw [← hc0] at hob
      simp only [e0] at hld
      have HA : Hid (∀ j, (h : k + j < s.size) → l.getD j 0 = s[k + j]) := fun j hj => by rw [hl]; exact getD_drop s k j hj
      have HX : Hid ((s.extract k (k + n)).data.toList = l.take n) := by show _ = _; rw [hl]; exact extract_take s k n
      have hz : ((n : Int) == 0) = false := by simp; omega
      have hd : ¬ ((s.size : Int) < (k : Int) + (n : Int)) := by omega
      clear HL HLen hn e0 hc0 hl
      go_enter Tryz.func76, Tryz.ntmps76
      go_wp2_with (first
        | (go_at_call 98; refine (hsz _).mono ?_; rintro e w' ⟨rfl, rfl⟩)
        | (go_at_call 99; refine (hld _).mono ?_; rintro e w' ⟨rfl, rfl⟩)
        | fail)

      go_loop [7, 8] (fun p i => ∃ j : Nat, j + 1 ≤ n ∧ i = .int .i64 ((j : Int) + 1) ∧ p = .int .i64 (ptL l c0 j)) (fun _ i => 4 - (intOf i).toNat)
      case atStart => exact ⟨0, by omega, rfl, rfl⟩
      case round =>
        obtain ⟨j, hj, rfl, rfl⟩ := hrel
        by_cases hlt : j + 1 < n
        · have hb1 := pt_bound l c0 hob.1 hob.2 j (by omega)
          have HP : Hid (ptL l c0 (j + 1) = ptL l c0 j * 64 + (s[k + (j + 1)].toNat : Int) - 128) := by
            show _ = _
            rw [ptL, HA.out (j + 1) (by omega)]
          have hb2 := s[k + (j + 1)].toNat_lt
          clear HA HX HG hsz hld
          generalize ptL l c0 j = q at *
          go_wp2
          go_round
          case rel => exact ⟨j + 1, by omega, by go_num, by rw [HP.out]⟩
          case measure => simp [intOf]; omega
        · obtain rfl : n = j + 1 := by omega
          have e1 : j + 1 - 1 = j := by omega
          rw [e1] at HG
          have hb1 := pt_bound l c0 hob.1 hob.2 j (by omega)
          clear e1 hsz hld hob
          generalize ptL l c0 j = q at *
          have hsc := fun w => refScalar_any q w
          cases hq : scalarP q with
          | false =>
            rw [hq] at HG hsc
            have HN : Hid (goodVal (refGood (s.data.toList.drop k)) = .tuple #[.int .i64 0, .int .i64 0]) := by show _ = _; rw [HG.out, if_neg (by simp)]; rfl
            clear HG HX HA hq
            go_wp2_with (go_at_call 100; refine (hsc _).mono ?_; rintro e w1 ⟨rfl, rfl⟩)
            go_region
            all_goals go_wp2
            all_goals
              go_ret2
              exact ⟨by rw [HN.out]; rfl, by go_grown⟩
          | true =>
            have hq0 : 0 ≤ q ∧ q ≤ 1114111 := by
              simp only [scalarP, Bool.and_eq_true, decide_eq_true_eq] at hq
              exact hq.1
            obtain ⟨m, rfl⟩ : ∃ m : Nat, q = (m : Int) := ⟨q.toNat, by omega⟩
            rw [hq] at HG hsc
            have hone := fun w => refOne_any m w (by omega)
            by_cases he : (⟨(encL m).toArray⟩ : ByteArray) = s.extract k (k + (j + 1))
            · have HN : Hid (goodVal (refGood (s.data.toList.drop k)) = .tuple #[.int .i64 (m : Int), .int .i64 ((j + 1 : Nat) : Int)]) := by
                show _ = _
                rw [HG.out, if_pos ⟨rfl, by rw [← HX.out, ← he]; rfl⟩]; rfl
              clear HG HX HA hq
              go_wp2_with (go_at_call 100; refine (hsc _).mono ?_; rintro e w1 ⟨rfl, rfl⟩)
              have hd0 : (0 : Int) ≤ (k : Int) := by omega
              have hd1 : (k : Int) ≤ (k : Int) + ((j : Int) + 1) := by omega
              have hd2 : (k : Int) + ((j : Int) + 1) ≤ (s.size : Int) := by omega
              have hd3 : (0 : Int) ≤ (k : Int) + ((j : Int) + 1) := by omega
              have hw0 : IntKind.i64.wrap ((k : Int) + ((j : Int) + 1)) = (k : Int) + ((j : Int) + 1) := IntWalk.i64_in _ (by omega)
              have hw1 : wrap64 ((k : Int) + ((j : Int) + 1)) = (k : Int) + ((j : Int) + 1) := IntWalk.wrap64_in _ (by omega)
              have hd4 : ((k : Int) + ((j : Int) + 1)).toNat = k + (j + 1) := by omega
              go_region_held3 (fun _ => True) (trivial) ((first | (go_at_call 101; refine (hone _).mono ?_; rintro e w2 ⟨rfl, hB⟩)))
              all_goals go_wp2
              all_goals
                go_ret2
                exact ⟨by rw [HN.out]; rfl, by first | exact hB | exact ((Below.refl _ _).drew).trans hB | trace_state⟩
            · have HN : Hid (goodVal (refGood (s.data.toList.drop k)) = .tuple #[.int .i64 0, .int .i64 0]) := by
                show _ = _
                rw [HG.out, if_neg (fun h => he (by
                  have h2 := h.2
                  rw [← HX.out] at h2
                  apply ByteArray.ext
                  apply Array.toList_inj.1
                  exact h2))]; rfl
              have hne : (encL m == (s.extract k (k + (j + 1))).toList) = false := by
                rw [beq_eq_false_iff_ne]
                intro h2
                rw [ByteArray.toList_eq] at h2
                exact he (ByteArray.ext (Array.toList_inj.1 h2))
              clear HG HX HA hq
              go_wp2_with (go_at_call 100; refine (hsc _).mono ?_; rintro e w1 ⟨rfl, rfl⟩)
              have hd0 : (0 : Int) ≤ (k : Int) := by omega
              have hd1 : (k : Int) ≤ (k : Int) + ((j : Int) + 1) := by omega
              have hd2 : (k : Int) + ((j : Int) + 1) ≤ (s.size : Int) := by omega
              have hd3 : (0 : Int) ≤ (k : Int) + ((j : Int) + 1) := by omega
              have hw0 : IntKind.i64.wrap ((k : Int) + ((j : Int) + 1)) = (k : Int) + ((j : Int) + 1) := IntWalk.i64_in _ (by omega)
              have hw1 : wrap64 ((k : Int) + ((j : Int) + 1)) = (k : Int) + ((j : Int) + 1) := IntWalk.wrap64_in _ (by omega)
              have hd4 : ((k : Int) + ((j : Int) + 1)).toNat = k + (j + 1) := by omega
              go_region_held3 (fun _ => True) (trivial) ((first | (go_at_call 101; refine (hone _).mono ?_; rintro e w2 ⟨rfl, hB⟩)))
              all_goals go_wp2
              all_goals
                go_ret2
                exact ⟨by rw [HN.out]; rfl, by first | exact hB | exact ((Below.refl _ _).drew).trans hB | trace_state⟩
end Go.Proofs.YtlnejmmhhmmomaaGreatDoor
namespace Go.Proofs.YtlnejmmhhmmomaaGreatDoor
open Go.RowKit
/-- The point and the size of the well-formed sequence at the beginning, by the table. -/
def goodOf (l : List UInt8) : Option (Nat × Nat) := match begunOf l with
  | none => none
  | some (i, f) => if f < tSz i then none else some ((ptL l (((l.getD 0 0).toNat : Int) - tMk i) (tSz i - 1)).toNat, tSz i)
theorem row_if : ∀ c < 256, rowOf c = if c < 128 then some 0 else if c < 194 then none else if c < 224 then some 1 else if c = 224 then some 2 else if c < 237 then some 3 else if c = 237 then some 4 else if c < 240 then some 5 else if c = 240 then some 6 else if c < 244 then some 7 else if c = 244 then some 8 else none := by decide +kernel
theorem row_cases (c : Nat) (hc : c < 256) : (rowOf c = some 0 ∧ c < 128) ∨ (rowOf c = none ∧ 128 ≤ c ∧ c < 192) ∨ (rowOf c = none ∧ 192 ≤ c ∧ c < 194) ∨ (rowOf c = some 1 ∧ 194 ≤ c ∧ c < 224) ∨ (rowOf c = some 2 ∧ c = 224) ∨ (rowOf c = some 3 ∧ 225 ≤ c ∧ c < 237) ∨ (rowOf c = some 4 ∧ c = 237) ∨ (rowOf c = some 5 ∧ 238 ≤ c ∧ c < 240) ∨ (rowOf c = some 6 ∧ c = 240) ∨ (rowOf c = some 7 ∧ 241 ≤ c ∧ c < 244) ∨ (rowOf c = some 8 ∧ c = 244) ∨ (rowOf c = none ∧ 245 ≤ c ∧ c < 248) ∨ (rowOf c = none ∧ 248 ≤ c) := by
  rw [row_if c hc]
  (repeat' split) <;> (simp; try omega)
theorem u8eq (n : Nat) (a : UInt8) : UInt8.ofNat n = a ↔ n % 256 = a.toNat := by
  rw [← UInt8.toNat_inj, UInt8.toNat_ofNat']
theorem enc_one (n : Nat) (a : UInt8) : encL n = [a] ↔ n < 128 ∧ n % 256 = a.toNat := by
  unfold encL
  split
  · simp [u8eq]; omega
  · split
    · simp; omega
    · split <;> (simp; omega)
theorem enc_two (n : Nat) (a b : UInt8) : encL n = [a, b] ↔ (128 ≤ n ∧ n < 2048) ∧ 192 + n / 64 = a.toNat ∧ 128 + n % 64 = b.toNat := by
  unfold encL
  split
  · simp; omega
  · split
    · simp only [List.cons.injEq, and_true, u8eq]; omega
    · split <;> (simp; omega)
theorem enc_three (n : Nat) (a b c : UInt8) : encL n = [a, b, c] ↔ (2048 ≤ n ∧ n < 65536) ∧ 224 + n / 4096 = a.toNat ∧ 128 + n / 64 % 64 = b.toNat ∧ 128 + n % 64 = c.toNat := by
  unfold encL
  split
  · simp; omega
  · split
    · simp; omega
    · split
      · simp only [List.cons.injEq, and_true, u8eq]; omega
      · simp; omega
theorem enc_four (n : Nat) (hn : n < 1114112) (a b c d : UInt8) : encL n = [a, b, c, d] ↔ 65536 ≤ n ∧ 240 + n / 262144 = a.toNat ∧ 128 + n / 4096 % 64 = b.toNat ∧ 128 + n / 64 % 64 = c.toNat ∧ 128 + n % 64 = d.toNat := by
  unfold encL
  split
  · simp; omega
  · split
    · simp; omega
    · split
      · simp; omega
      · simp only [List.cons.injEq, and_true, u8eq]; omega
theorem scalar_iff (p : Int) : scalarP p = true ↔ 0 ≤ p ∧ p ≤ 1114111 ∧ (p < 55296 ∨ 57343 < p) := by
  simp [scalarP, Bool.and_eq_true, Bool.or_eq_true, and_assoc]
theorem begun_none {a : UInt8} {r : List UInt8} (h : rowOf a.toNat = none) : begunOf (a :: r) = none := by rw [begunOf]; simp only [h]
theorem begun_some {a : UInt8} {r : List UInt8} {i : Nat} (h : rowOf a.toNat = some i) : begunOf (a :: r) = some (i, fits (tLo2 i) (tHi2 i) (tSz i - 1) r + 1) := by rw [begunOf]; simp only [h]
theorem good_none {a : UInt8} {r : List UInt8} (h : rowOf a.toNat = none) : goodOf (a :: r) = none := by rw [goodOf, begun_none h]
theorem good_some {a : UInt8} {r : List UInt8} {i : Nat} (h : rowOf a.toNat = some i) : goodOf (a :: r) = if fits (tLo2 i) (tHi2 i) (tSz i - 1) r + 1 < tSz i then none else some ((ptL (a :: r) ((a.toNat : Int) - tMk i) (tSz i - 1)).toNat, tSz i) := by
  rw [goodOf, begun_some h]; rfl
theorem fits_le (lo hi n : Nat) (l : List UInt8) : fits lo hi n l ≤ l.length := by
  induction n generalizing lo hi l with
  | zero => simp [fits]
  | succ n ih =>
    cases l with
    | nil => simp [fits]
    | cons b l => rw [fits]; have := ih 128 191 l; split <;> (simp; try omega)
/-- Where the bytes are there: in the table's way and in the reference's way alike. -/
def refTest (l : List UInt8) (n : Nat) (c0 : Int) : Option (Nat × Nat) :=
  if scalarP (ptL l c0 (n - 1)) = true ∧ encL (ptL l c0 (n - 1)).toNat = l.take n then some ((ptL l c0 (n - 1)).toNat, n) else none
theorem ref_cons (a : UInt8) (r : List UInt8) (n : Nat) (hn : sizeL a.toNat = n) : refGood (a :: r) = if n = 0 then none else if r.length + 1 < n then none else refTest (a :: r) n ((a.toNat : Int) - offL n) := by
  rw [refGood, hn]; rfl
theorem test1 (a : UInt8) (r : List UInt8) (h : a.toNat < 128) : refTest (a :: r) 1 ((a.toNat : Int) - offL 1) = some (a.toNat, 1) := by
  have e : ptL (a :: r) ((a.toNat : Int) - offL 1) (1 - 1) = (a.toNat : Int) := by simp [ptL, offL]
  rw [refTest, e, if_pos ⟨(scalar_iff _).2 (by omega), by
    rw [List.take_succ_cons, List.take_zero, enc_one]; simp; omega⟩]
  rfl
theorem test2 (a b : UInt8) (r : List UInt8) (h0 : 192 ≤ a.toNat) (h1 : a.toNat < 224) :
    refTest (a :: b :: r) 2 ((a.toNat : Int) - offL 2) = if 194 ≤ a.toNat ∧ 128 ≤ b.toNat ∧ b.toNat ≤ 191 then some ((ptL (a :: b :: r) ((a.toNat : Int) - 192) 1).toNat, 2) else none := by
  have e : ptL (a :: b :: r) ((a.toNat : Int) - offL 2) (2 - 1) = ((a.toNat : Int) - 192) * 64 + (b.toNat : Int) - 128 := by simp [ptL, offL]
  have e' : ptL (a :: b :: r) ((a.toNat : Int) - 192) 1 = ((a.toNat : Int) - 192) * 64 + (b.toNat : Int) - 128 := by simp [ptL]
  have hb := b.toNat_lt
  rw [refTest, e, e', List.take_succ_cons, List.take_succ_cons, List.take_zero]
  by_cases h : 194 ≤ a.toNat ∧ 128 ≤ b.toNat ∧ b.toNat ≤ 191
  · rw [if_pos h, if_pos ⟨(scalar_iff _).2 (by omega), (enc_two _ _ _).2 (by omega)⟩]
  · rw [if_neg h, if_neg (fun q => h (by
      have q1 := (scalar_iff _).1 q.1
      have q2 := (enc_two _ _ _).1 q.2
      clear q h
      omega))]
theorem test3 (a b c : UInt8) (r : List UInt8) (h0 : 224 ≤ a.toNat) (h1 : a.toNat < 240) :
    refTest (a :: b :: c :: r) 3 ((a.toNat : Int) - offL 3) = if (128 ≤ b.toNat ∧ b.toNat ≤ 191 ∧ 128 ≤ c.toNat ∧ c.toNat ≤ 191) ∧ (a.toNat = 224 → 160 ≤ b.toNat) ∧ (a.toNat = 237 → b.toNat ≤ 159) then some ((ptL (a :: b :: c :: r) ((a.toNat : Int) - 224) 2).toNat, 3) else none := by
  have e : ptL (a :: b :: c :: r) ((a.toNat : Int) - offL 3) (3 - 1) = (((a.toNat : Int) - 224) * 64 + (b.toNat : Int) - 128) * 64 + (c.toNat : Int) - 128 := by simp [ptL, offL]
  have e' : ptL (a :: b :: c :: r) ((a.toNat : Int) - 224) 2 = (((a.toNat : Int) - 224) * 64 + (b.toNat : Int) - 128) * 64 + (c.toNat : Int) - 128 := by simp [ptL]
  have hb := b.toNat_lt
  have hc := c.toNat_lt
  rw [refTest, e, e', List.take_succ_cons, List.take_succ_cons, List.take_succ_cons, List.take_zero]
  by_cases h : (128 ≤ b.toNat ∧ b.toNat ≤ 191 ∧ 128 ≤ c.toNat ∧ c.toNat ≤ 191) ∧ (a.toNat = 224 → 160 ≤ b.toNat) ∧ (a.toNat = 237 → b.toNat ≤ 159)
  · rw [if_pos h, if_pos ⟨(scalar_iff _).2 (by omega), (enc_three _ _ _ _).2 (by omega)⟩]
  · rw [if_neg h, if_neg (fun q => h (by
      have q1 := (scalar_iff _).1 q.1
      have q2 := (enc_three _ _ _ _).1 q.2
      clear q h
      omega))]
theorem test4 (a b c d : UInt8) (r : List UInt8) (h0 : 240 ≤ a.toNat) (h1 : a.toNat < 248) :
    refTest (a :: b :: c :: d :: r) 4 ((a.toNat : Int) - offL 4) = if a.toNat ≤ 244 ∧ (128 ≤ b.toNat ∧ b.toNat ≤ 191 ∧ 128 ≤ c.toNat ∧ c.toNat ≤ 191 ∧ 128 ≤ d.toNat ∧ d.toNat ≤ 191) ∧ (a.toNat = 240 → 144 ≤ b.toNat) ∧ (a.toNat = 244 → b.toNat ≤ 143) then some ((ptL (a :: b :: c :: d :: r) ((a.toNat : Int) - 240) 3).toNat, 4) else none := by
  have e : ptL (a :: b :: c :: d :: r) ((a.toNat : Int) - offL 4) (4 - 1) = ((((a.toNat : Int) - 240) * 64 + (b.toNat : Int) - 128) * 64 + (c.toNat : Int) - 128) * 64 + (d.toNat : Int) - 128 := by simp [ptL, offL]
  have e' : ptL (a :: b :: c :: d :: r) ((a.toNat : Int) - 240) 3 = ((((a.toNat : Int) - 240) * 64 + (b.toNat : Int) - 128) * 64 + (c.toNat : Int) - 128) * 64 + (d.toNat : Int) - 128 := by simp [ptL]
  have hb := b.toNat_lt
  have hc := c.toNat_lt
  have hd := d.toNat_lt
  rw [refTest, e, e', List.take_succ_cons, List.take_succ_cons, List.take_succ_cons, List.take_succ_cons, List.take_zero]
  by_cases h : a.toNat ≤ 244 ∧ (128 ≤ b.toNat ∧ b.toNat ≤ 191 ∧ 128 ≤ c.toNat ∧ c.toNat ≤ 191 ∧ 128 ≤ d.toNat ∧ d.toNat ≤ 191) ∧ (a.toNat = 240 → 144 ≤ b.toNat) ∧ (a.toNat = 244 → b.toNat ≤ 143)
  · rw [if_pos h, if_pos ⟨(scalar_iff _).2 (by omega), (enc_four _ (by omega) _ _ _ _).2 (by omega)⟩]
  · rw [if_neg h, if_neg (fun q => h (by
      have q1 := (scalar_iff _).1 q.1
      have q2 := (enc_four _ (by omega) _ _ _ _).1 q.2
      clear q h
      omega))]
end Go.Proofs.YtlnejmmhhmmomaaGreatDoor
namespace Go.Proofs.YtlnejmmhhmmomaaGreatDoor
open Go.RowKit
theorem fits_cons (lo hi n : Nat) (b : UInt8) (l : List UInt8) : fits lo hi (n + 1) (b :: l) = if lo ≤ b.toNat ∧ b.toNat ≤ hi then fits 128 191 n l + 1 else 0 := rfl
theorem fits_zero (lo hi : Nat) (l : List UInt8) : fits lo hi 0 l = 0 := by cases l <;> rfl
theorem fits_nil (lo hi n : Nat) : fits lo hi n [] = 0 := by cases n <;> rfl
theorem good2 {a b : UInt8} {t : List UInt8} {i : Nat} (h : rowOf a.toNat = some i) (hs : tSz i = 2) : goodOf (a :: b :: t) = if tLo2 i ≤ b.toNat ∧ b.toNat ≤ tHi2 i then some ((ptL (a :: b :: t) ((a.toNat : Int) - tMk i) 1).toNat, 2) else none := by
  rw [good_some h, hs, fits_cons, fits_zero]
  by_cases h1 : tLo2 i ≤ b.toNat ∧ b.toNat ≤ tHi2 i
  · rw [if_pos h1, if_pos h1, if_neg (by omega)]
  · rw [if_neg h1, if_neg h1, if_pos (by omega)]
theorem good3 {a b c : UInt8} {t : List UInt8} {i : Nat} (h : rowOf a.toNat = some i) (hs : tSz i = 3) : goodOf (a :: b :: c :: t) = if (tLo2 i ≤ b.toNat ∧ b.toNat ≤ tHi2 i) ∧ 128 ≤ c.toNat ∧ c.toNat ≤ 191 then some ((ptL (a :: b :: c :: t) ((a.toNat : Int) - tMk i) 2).toNat, 3) else none := by
  rw [good_some h, hs, fits_cons, fits_cons, fits_zero]
  by_cases h1 : tLo2 i ≤ b.toNat ∧ b.toNat ≤ tHi2 i
  · by_cases h2 : 128 ≤ c.toNat ∧ c.toNat ≤ 191
    · rw [if_pos h1, if_pos h2, if_neg (by omega), if_pos ⟨h1, h2⟩]
    · rw [if_pos h1, if_neg h2, if_pos (by omega), if_neg (fun q => h2 q.2)]
  · rw [if_neg h1, if_pos (by omega), if_neg (fun q => h1 q.1)]
theorem good4 {a b c d : UInt8} {t : List UInt8} {i : Nat} (h : rowOf a.toNat = some i) (hs : tSz i = 4) : goodOf (a :: b :: c :: d :: t) = if (tLo2 i ≤ b.toNat ∧ b.toNat ≤ tHi2 i) ∧ (128 ≤ c.toNat ∧ c.toNat ≤ 191) ∧ 128 ≤ d.toNat ∧ d.toNat ≤ 191 then some ((ptL (a :: b :: c :: d :: t) ((a.toNat : Int) - tMk i) 3).toNat, 4) else none := by
  rw [good_some h, hs, fits_cons, fits_cons, fits_cons, fits_zero]
  by_cases h1 : tLo2 i ≤ b.toNat ∧ b.toNat ≤ tHi2 i
  · by_cases h2 : 128 ≤ c.toNat ∧ c.toNat ≤ 191
    · by_cases h3 : 128 ≤ d.toNat ∧ d.toNat ≤ 191
      · rw [if_pos h1, if_pos h2, if_pos h3, if_neg (by omega), if_pos ⟨h1, h2, h3⟩]
      · rw [if_pos h1, if_pos h2, if_neg h3, if_pos (by omega), if_neg (fun q => h3 q.2.2)]
    · rw [if_pos h1, if_neg h2, if_pos (by omega), if_neg (fun q => h2 q.2.1)]
  · rw [if_neg h1, if_pos (by omega), if_neg (fun q => h1 q.1)]
theorem good_short {a : UInt8} {r : List UInt8} {i : Nat} (h : rowOf a.toNat = some i) (hs : r.length + 1 < tSz i) : goodOf (a :: r) = none := by
  rw [good_some h, if_pos (by have := fits_le (tLo2 i) (tHi2 i) (tSz i - 1) r; omega)]
theorem size1 {c : Nat} (h : c < 128) : sizeL c = 1 := by rw [sizeL, if_pos h]
theorem size2 {c : Nat} (h : 192 ≤ c) (h1 : c < 224) : sizeL c = 2 := by rw [sizeL, if_neg (by omega), if_pos ⟨h, h1⟩]
theorem size3 {c : Nat} (h : 224 ≤ c) (h1 : c < 240) : sizeL c = 3 := by rw [sizeL, if_neg (by omega), if_neg (by omega), if_pos ⟨h, h1⟩]
theorem size4 {c : Nat} (h : 240 ≤ c) (h1 : c < 248) : sizeL c = 4 := by rw [sizeL, if_neg (by omega), if_neg (by omega), if_neg (by omega), if_pos ⟨h, h1⟩]
theorem size0 {c : Nat} (h : 128 ≤ c) (h1 : c < 192 ∨ 248 ≤ c) : sizeL c = 0 := by rw [sizeL, if_neg (by omega), if_neg (by omega), if_neg (by omega), if_neg (by omega)]
theorem eq_three {a : UInt8} {r : List UInt8} {i : Nat} (h : rowOf a.toNat = some i) (hs : tSz i = 3) (hmk : tMk i = 224) (h0 : 224 ≤ a.toNat) (h1 : a.toNat < 240)
    (hb : ∀ b : Nat, (tLo2 i ≤ b ∧ b ≤ tHi2 i) ↔ (128 ≤ b ∧ b ≤ 191 ∧ (a.toNat = 224 → 160 ≤ b) ∧ (a.toNat = 237 → b ≤ 159))) : refGood (a :: r) = goodOf (a :: r) := by
  rw [ref_cons a r 3 (size3 h0 h1), if_neg (by omega)]
  by_cases hl : r.length + 1 < 3
  · rw [if_pos hl, good_short h (by omega)]
  · rw [if_neg hl]
    match r, hl with
    | [], hl => simp at hl
    | [_], hl => simp at hl
    | b :: c :: t, _ =>
      rw [test3 a b c t h0 h1, good3 h hs, hmk]
      have := hb b.toNat
      by_cases hq : (tLo2 i ≤ b.toNat ∧ b.toNat ≤ tHi2 i) ∧ 128 ≤ c.toNat ∧ c.toNat ≤ 191
      · rw [if_pos hq, if_pos ⟨⟨(this.1 hq.1).1, (this.1 hq.1).2.1, hq.2.1, hq.2.2⟩, (this.1 hq.1).2.2⟩]; rfl
      · rw [if_neg hq, if_neg (fun q => hq ⟨this.2 ⟨q.1.1, q.1.2.1, q.2⟩, q.1.2.2⟩)]
theorem eq_four {a : UInt8} {r : List UInt8} {i : Nat} (h : rowOf a.toNat = some i) (hs : tSz i = 4) (hmk : tMk i = 240) (h0 : 240 ≤ a.toNat) (h1 : a.toNat ≤ 244)
    (hb : ∀ b : Nat, (tLo2 i ≤ b ∧ b ≤ tHi2 i) ↔ (128 ≤ b ∧ b ≤ 191 ∧ (a.toNat = 240 → 144 ≤ b) ∧ (a.toNat = 244 → b ≤ 143))) : refGood (a :: r) = goodOf (a :: r) := by
  rw [ref_cons a r 4 (size4 h0 (by omega)), if_neg (by omega)]
  by_cases hl : r.length + 1 < 4
  · rw [if_pos hl, good_short h (by omega)]
  · rw [if_neg hl]
    match r, hl with
    | [], hl => simp at hl
    | [_], hl => simp at hl
    | [_, _], hl => simp at hl
    | b :: c :: d :: t, _ =>
      rw [test4 a b c d t h0 (by omega), good4 h hs, hmk]
      have := hb b.toNat
      by_cases hq : (tLo2 i ≤ b.toNat ∧ b.toNat ≤ tHi2 i) ∧ (128 ≤ c.toNat ∧ c.toNat ≤ 191) ∧ 128 ≤ d.toNat ∧ d.toNat ≤ 191
      · rw [if_pos hq, if_pos ⟨h1, ⟨(this.1 hq.1).1, (this.1 hq.1).2.1, hq.2.1.1, hq.2.1.2, hq.2.2.1, hq.2.2.2⟩, (this.1 hq.1).2.2⟩]; rfl
      · rw [if_neg hq, if_neg (fun q => hq ⟨this.2 ⟨q.2.1.1, q.2.1.2.1, q.2.2⟩, ⟨q.2.1.2.2.1, q.2.1.2.2.2.1⟩, q.2.1.2.2.2.2⟩)]
theorem refGood_eq (l : List UInt8) : refGood l = goodOf l := by
  cases l with
  | nil => rfl
  | cons a r =>
    have ha := a.toNat_lt
    rcases row_cases a.toNat ha with h | h | h | h | h | h | h | h | h | h | h | h | h
    · rw [ref_cons a r 1 (size1 h.2), if_neg (by omega), if_neg (by omega), test1 a r h.2, good_some h.1, if_neg (by rw [show tSz 0 = 1 from rfl, show (1 : Nat) - 1 = 0 from rfl, fits_zero]; omega)]
      simp [tSz, tMk, ptL]
    · rw [ref_cons a r 0 (size0 h.2.1 (.inl h.2.2)), if_pos rfl, good_none h.1]
    · rw [ref_cons a r 2 (size2 h.2.1 (by omega)), if_neg (by omega), good_none h.1]
      split
      · rfl
      · rename_i hl
        match r, hl with
        | [], hl => simp at hl
        | b :: t, _ => rw [test2 a b t h.2.1 (by omega), if_neg (by omega)]
    · rw [ref_cons a r 2 (size2 (by omega) (by omega)), if_neg (by omega)]
      by_cases hl : r.length + 1 < 2
      · rw [if_pos hl, good_short h.1 (by rw [show tSz 1 = 2 from rfl]; omega)]
      · rw [if_neg hl]
        match r, hl with
        | [], hl => simp at hl
        | b :: t, _ =>
          rw [test2 a b t (by omega) (by omega), good2 h.1 rfl]
          by_cases hq : 128 ≤ b.toNat ∧ b.toNat ≤ 191
          · rw [if_pos ⟨h.2.1, hq⟩, if_pos (by exact hq)]; rfl
          · rw [if_neg (fun q => hq q.2), if_neg (by exact hq)]
    · exact eq_three h.1 rfl rfl (by omega) (by omega) (fun b => by show (160 ≤ b ∧ b ≤ 191) ↔ _; omega)
    · exact eq_three h.1 rfl rfl (by omega) (by omega) (fun b => by show (128 ≤ b ∧ b ≤ 191) ↔ _; omega)
    · exact eq_three h.1 rfl rfl (by omega) (by omega) (fun b => by show (128 ≤ b ∧ b ≤ 159) ↔ _; omega)
    · exact eq_three h.1 rfl rfl (by omega) (by omega) (fun b => by show (128 ≤ b ∧ b ≤ 191) ↔ _; omega)
    · exact eq_four h.1 rfl rfl (by omega) (by omega) (fun b => by show (144 ≤ b ∧ b ≤ 191) ↔ _; omega)
    · exact eq_four h.1 rfl rfl (by omega) (by omega) (fun b => by show (128 ≤ b ∧ b ≤ 191) ↔ _; omega)
    · exact eq_four h.1 rfl rfl (by omega) (by omega) (fun b => by show (128 ≤ b ∧ b ≤ 143) ↔ _; omega)
    · rw [ref_cons a r 4 (size4 (by omega) h.2.2), if_neg (by omega), good_none h.1]
      split
      · rfl
      · rename_i hl
        match r, hl with
        | [], hl => simp at hl
        | [_], hl => simp at hl
        | [_, _], hl => simp at hl
        | b :: c :: d :: t, _ => rw [test4 a b c d t (by omega) h.2.2, if_neg (by omega)]
    · rw [ref_cons a r 0 (size0 (by omega) (.inr h.2)), if_pos rfl, good_none h.1]
/-- The text made longer: a second byte, then 80s. -/
def padL (l : List UInt8) (sec : UInt8) (n : Nat) : List UInt8 :=
  let t := if l.length = 1 then l ++ [sec] else l
  t ++ List.replicate (n - t.length) 128
def refBegins (l : List UInt8) : Bool := match l with
  | [] => false
  | a :: _ => decide (l.length < sizeL a.toNat) && [128, 144, 160].any fun sec => (goodOf (padL l sec (sizeL a.toNat))).map (·.2) == some (sizeL a.toNat)
theorem pad_cons (a : UInt8) (r : List UInt8) (sec : UInt8) (n : Nat) : ∃ q, padL (a :: r) sec n = a :: q := by
  unfold padL
  cases r with
  | nil => exact ⟨_, rfl⟩
  | cons b r => exact ⟨_, rfl⟩
theorem rb_none {a : UInt8} {r : List UInt8} (h : rowOf a.toNat = none) : refBegins (a :: r) = beginsL (a :: r) := by
  have g : ∀ sec n, goodOf (padL (a :: r) sec n) = none := fun sec n => by obtain ⟨q, hq⟩ := pad_cons a r sec n; rw [hq, good_none h]
  rw [beginsL, begun_none h]
  simp [refBegins, g]
theorem begins_some {a : UInt8} {r : List UInt8} {i : Nat} (h : rowOf a.toNat = some i) : beginsL (a :: r) = (fits (tLo2 i) (tHi2 i) (tSz i - 1) r + 1 == (a :: r).length && decide ((a :: r).length < tSz i)) := by
  rw [beginsL, begun_some h]
theorem rb_long {a : UInt8} {r : List UInt8} {i : Nat} (h : rowOf a.toNat = some i) (hz : sizeL a.toNat = tSz i) (hl : tSz i ≤ r.length + 1) : refBegins (a :: r) = beginsL (a :: r) := by
  rw [begins_some h, refBegins, hz]
  have e : decide ((a :: r).length < tSz i) = false := by simpa using hl
  simp only [e, Bool.false_and, Bool.and_false]
theorem any3 (f : UInt8 → Bool) : [128, 144, 160].any f = (f 128 || f 144 || f 160) := by simp [Bool.or_assoc]
theorem some_beq (n : Nat) (q : Prop) [Decidable q] (p : Nat) : (Option.map (·.2) (if q then some (p, n) else none) == some n) = decide q := by
  by_cases h : q <;> simp [h]
theorem rb2 {a : UInt8} {i : Nat} (h : rowOf a.toNat = some i) (hs : tSz i = 2) (hz : sizeL a.toNat = 2) (hx : tLo2 i ≤ 128 ∧ 128 ≤ tHi2 i) : refBegins [a] = beginsL [a] := by
  have g : ∀ sec : UInt8, goodOf (padL [a] sec 2) = if tLo2 i ≤ sec.toNat ∧ sec.toNat ≤ tHi2 i then some ((ptL [a, sec] ((a.toNat : Int) - tMk i) 1).toNat, 2) else none := fun sec => by
    rw [show padL [a] sec 2 = [a, sec] from rfl, good2 h hs]
  rw [begins_some h, refBegins, hz, any3, g, g, g, some_beq, some_beq, some_beq, fits_nil, hs, show (128 : UInt8).toNat = 128 from rfl, decide_eq_true hx]
  simp
theorem rb3 {a : UInt8} {i : Nat} (h : rowOf a.toNat = some i) (hs : tSz i = 3) (hz : sizeL a.toNat = 3) (hx : (tLo2 i ≤ 128 ∧ 128 ≤ tHi2 i) ∨ (tLo2 i ≤ 144 ∧ 144 ≤ tHi2 i) ∨ (tLo2 i ≤ 160 ∧ 160 ≤ tHi2 i)) : refBegins [a] = beginsL [a] := by
  have g : ∀ sec : UInt8, (Option.map (·.2) (goodOf (padL [a] sec 3)) == some 3) = decide (tLo2 i ≤ sec.toNat ∧ sec.toNat ≤ tHi2 i) := fun sec => by
    rw [show padL [a] sec 3 = [a, sec, 128] from rfl, good3 h hs, some_beq, show (128 : UInt8).toNat = 128 from rfl]
    simp
  rw [begins_some h, refBegins, hz, any3, g, g, g, fits_nil, hs, show (128 : UInt8).toNat = 128 from rfl, show (144 : UInt8).toNat = 144 from rfl, show (160 : UInt8).toNat = 160 from rfl]
  rcases hx with hx | hx | hx <;> simp [hx]
theorem rb4 {a : UInt8} {i : Nat} (h : rowOf a.toNat = some i) (hs : tSz i = 4) (hz : sizeL a.toNat = 4) (hx : (tLo2 i ≤ 128 ∧ 128 ≤ tHi2 i) ∨ (tLo2 i ≤ 144 ∧ 144 ≤ tHi2 i) ∨ (tLo2 i ≤ 160 ∧ 160 ≤ tHi2 i)) : refBegins [a] = beginsL [a] := by
  have g : ∀ sec : UInt8, (Option.map (·.2) (goodOf (padL [a] sec 4)) == some 4) = decide (tLo2 i ≤ sec.toNat ∧ sec.toNat ≤ tHi2 i) := fun sec => by
    rw [show padL [a] sec 4 = [a, sec, 128, 128] from rfl, good4 h hs, some_beq, show (128 : UInt8).toNat = 128 from rfl]
    simp
  rw [begins_some h, refBegins, hz, any3, g, g, g, fits_nil, hs, show (128 : UInt8).toNat = 128 from rfl, show (144 : UInt8).toNat = 144 from rfl, show (160 : UInt8).toNat = 160 from rfl]
  rcases hx with hx | hx | hx <;> simp [hx]
theorem rb32 {a b : UInt8} {i : Nat} (h : rowOf a.toNat = some i) (hs : tSz i = 3) (hz : sizeL a.toNat = 3) : refBegins [a, b] = beginsL [a, b] := by
  have g : ∀ sec : UInt8, (Option.map (·.2) (goodOf (padL [a, b] sec 3)) == some 3) = decide (tLo2 i ≤ b.toNat ∧ b.toNat ≤ tHi2 i) := fun sec => by
    rw [show padL [a, b] sec 3 = [a, b, 128] from rfl, good3 h hs, some_beq, show (128 : UInt8).toNat = 128 from rfl]
    simp
  rw [begins_some h, refBegins, hz, any3, g, g, g, hs, fits_cons, fits_nil]
  by_cases hx : tLo2 i ≤ b.toNat ∧ b.toNat ≤ tHi2 i
  · rw [if_pos hx]; simp [hx]
  · rw [if_neg hx, decide_eq_false hx]; simp
theorem rb42 {a b : UInt8} {i : Nat} (h : rowOf a.toNat = some i) (hs : tSz i = 4) (hz : sizeL a.toNat = 4) : refBegins [a, b] = beginsL [a, b] := by
  have g : ∀ sec : UInt8, (Option.map (·.2) (goodOf (padL [a, b] sec 4)) == some 4) = decide (tLo2 i ≤ b.toNat ∧ b.toNat ≤ tHi2 i) := fun sec => by
    rw [show padL [a, b] sec 4 = [a, b, 128, 128] from rfl, good4 h hs, some_beq, show (128 : UInt8).toNat = 128 from rfl]
    simp
  rw [begins_some h, refBegins, hz, any3, g, g, g, hs, fits_cons, fits_nil]
  by_cases hx : tLo2 i ≤ b.toNat ∧ b.toNat ≤ tHi2 i
  · rw [if_pos hx]; simp [hx]
  · rw [if_neg hx, decide_eq_false hx]; simp
theorem rb43 {a b c : UInt8} {i : Nat} (h : rowOf a.toNat = some i) (hs : tSz i = 4) (hz : sizeL a.toNat = 4) : refBegins [a, b, c] = beginsL [a, b, c] := by
  have g : ∀ sec : UInt8, (Option.map (·.2) (goodOf (padL [a, b, c] sec 4)) == some 4) = decide ((tLo2 i ≤ b.toNat ∧ b.toNat ≤ tHi2 i) ∧ 128 ≤ c.toNat ∧ c.toNat ≤ 191) := fun sec => by
    rw [show padL [a, b, c] sec 4 = [a, b, c, 128] from rfl, good4 h hs, some_beq, show (128 : UInt8).toNat = 128 from rfl]
    simp
  rw [begins_some h, refBegins, hz, any3, g, g, g, hs, fits_cons, fits_cons, fits_nil]
  by_cases hx : tLo2 i ≤ b.toNat ∧ b.toNat ≤ tHi2 i
  · by_cases hy : 128 ≤ c.toNat ∧ c.toNat ≤ 191
    · rw [if_pos hx, if_pos hy, decide_eq_true (⟨hx, hy⟩ : _ ∧ _)]; simp
    · rw [if_pos hx, if_neg hy, decide_eq_false (show ¬ ((tLo2 i ≤ b.toNat ∧ b.toNat ≤ tHi2 i) ∧ 128 ≤ c.toNat ∧ c.toNat ≤ 191) from fun q => hy q.2)]; simp
  · rw [if_neg hx, decide_eq_false (show ¬ ((tLo2 i ≤ b.toNat ∧ b.toNat ≤ tHi2 i) ∧ 128 ≤ c.toNat ∧ c.toNat ≤ 191) from fun q => hx q.1)]; simp
theorem refBegins_eq (l : List UInt8) (h3 : l.length ≤ 3) : refBegins l = beginsL l := by
  cases l with
  | nil => rfl
  | cons a r =>
    have ha := a.toNat_lt
    have S3 : ∀ i, rowOf a.toNat = some i → tSz i = 3 → sizeL a.toNat = 3 → ((tLo2 i ≤ 128 ∧ 128 ≤ tHi2 i) ∨ (tLo2 i ≤ 144 ∧ 144 ≤ tHi2 i) ∨ (tLo2 i ≤ 160 ∧ 160 ≤ tHi2 i)) → refBegins (a :: r) = beginsL (a :: r) := by
      intro i h hs hz hx
      match r, h3 with
      | [], _ => exact rb3 h hs hz hx
      | [b], _ => exact rb32 h hs hz
      | b :: c :: t, _ => exact rb_long h (by rw [hz, hs]) (by rw [hs]; simp)
    have S4 : ∀ i, rowOf a.toNat = some i → tSz i = 4 → sizeL a.toNat = 4 → ((tLo2 i ≤ 128 ∧ 128 ≤ tHi2 i) ∨ (tLo2 i ≤ 144 ∧ 144 ≤ tHi2 i) ∨ (tLo2 i ≤ 160 ∧ 160 ≤ tHi2 i)) → refBegins (a :: r) = beginsL (a :: r) := by
      intro i h hs hz hx
      match r, h3 with
      | [], _ => exact rb4 h hs hz hx
      | [b], _ => exact rb42 h hs hz
      | [b, c], _ => exact rb43 h hs hz
      | b :: c :: d :: t, h3 => simp at h3
    rcases row_cases a.toNat ha with h | h | h | h | h | h | h | h | h | h | h | h | h
    · exact rb_long h.1 (size1 h.2) (by rw [show tSz 0 = 1 from rfl]; omega)
    · exact rb_none h.1
    · exact rb_none h.1
    · match r, h3 with
      | [], _ => exact rb2 h.1 rfl (size2 (by omega) (by omega)) (by decide)
      | b :: t, _ => exact rb_long h.1 (size2 (by omega) (by omega)) (by rw [show tSz 1 = 2 from rfl]; simp)
    · exact S3 2 h.1 rfl (size3 (by omega) (by omega)) (by decide)
    · exact S3 3 h.1 rfl (size3 (by omega) (by omega)) (by decide)
    · exact S3 4 h.1 rfl (size3 (by omega) (by omega)) (by decide)
    · exact S3 5 h.1 rfl (size3 (by omega) (by omega)) (by decide)
    · exact S4 6 h.1 rfl (size4 (by omega) (by omega)) (by decide)
    · exact S4 7 h.1 rfl (size4 (by omega) (by omega)) (by decide)
    · exact S4 8 h.1 rfl (size4 (by omega) (by omega)) (by decide)
    · exact rb_none h.1
    · exact rb_none h.1
end Go.Proofs.YtlnejmmhhmmomaaGreatDoor
namespace Go.Proofs.YtlnejmmhhmmomaaGreatDoor
open Go.RowKit
theorem i64_wrap_nat (x : Nat) (h : x < 9223372036854775808) : IntKind.i64.wrap (x : Int) = x := by
  simp [IntKind.wrap, IntKind.bits, IntKind.signed]
  omega
theorem i64_or_nat (a b : Nat) (ha : a < 9223372036854775808) (hb : b < 9223372036854775808) : bits .or .i64 (a : Int) (b : Int) = ((a ||| b : Nat) : Int) := by
  have hx : a ||| b < 2 ^ 63 := Nat.or_lt_two_pow (by omega) (by omega)
  show IntKind.i64.wrap ((BitVec.ofInt 64 (a : Int) ||| BitVec.ofInt 64 (b : Int)).toNat : Int) = _
  rw [BitVec.toNat_or, ofInt_u64 a (by omega), ofInt_u64 b (by omega)]
  exact i64_wrap_nat _ (by omega)
theorem or_six (m y : Nat) (hm : m < 33554432) (hy : y < 64) : bits .or .i64 ((m : Int) * 64) (y : Int) = (m : Int) * 64 + (y : Int) := by
  have e := i64_or_nat (m * 64) y (by omega) (by omega)
  have e2 := Nat.two_pow_add_eq_or_of_lt (i := 6) (b := y) (by omega) m
  rw [show (2 : Nat) ^ 6 * m = m * 64 by omega] at e2
  rw [← e2] at e
  simpa using e
set_option maxRecDepth 10000 in
set_option maxHeartbeats 400000 in
theorem pointOf_any (t : ByteArray) (mk : Nat) (w : World) (h1 : 0 < t.size) (h4 : t.size ≤ 4) (h0 : mk ≤ t[0].toNat) (hc0 : t[0].toNat - mk < 128)
    (hb : ∀ j (h : j < t.size), 0 < j → 128 ≤ t[j].toNat ∧ t[j].toNat ≤ 191) :
    Calls Tryz.prog 126 #[.string t, .int .u8 (mk : Int)] w fun e w' => e = .returned (.int .i64 (ptL t.data.toList ((t[0].toNat : Int) - mk) (t.size - 1))) ∧ w' = w := by
  have HB : Hid (∀ j (h : j < t.size), 0 < j → 128 ≤ t[j].toNat ∧ t[j].toNat ≤ 191) := hb
  clear hb
  go_enter Tryz.func126, Tryz.ntmps126
  go_wp2
  go_loop [5, 6] (fun p i => ∃ j m : Nat, j + 1 ≤ t.size ∧ m < 128 * 64 ^ j ∧ i = .int .i64 ((j : Int) + 1) ∧ p = .int .i64 (m : Int) ∧ (m : Int) = ptL t.data.toList ((t[0].toNat : Int) - mk) j) (fun _ i => 4 - (intOf i).toNat)
  case atStart => exact ⟨0, t[0].toNat - mk, by omega, by omega, rfl, by congr 1; omega, by rw [ptL]; omega⟩
  case round =>
    obtain ⟨j, m, hj, hm, rfl, rfl, hp⟩ := hrel
    have HP : Hid ((m : Int) = ptL t.data.toList ((t[0].toNat : Int) - mk) j) := hp
    clear hp
    by_cases hlt : j + 1 < t.size
    · obtain ⟨hb1, hb2⟩ := HB.out (j + 1) hlt (by omega)
      have hm2 : m * 64 + (t[j + 1].toNat - 128) < 128 * 64 ^ (j + 1) := by
        rw [Nat.pow_succ]; omega
      have hm3 : m < 33554432 := by
        have : (64 : Nat) ^ j ≤ 64 ^ 2 := Nat.pow_le_pow_right (by omega) (by omega)
        omega
      have HQ : Hid (((m * 64 + (t[j + 1].toNat - 128) : Nat) : Int) = ptL t.data.toList ((t[0].toNat : Int) - mk) (j + 1)) := by
        show _ = _
        have e := getD_drop t 0 (j + 1) (by omega)
        simp only [List.drop_zero, Nat.zero_add] at e
        rw [ptL, ← HP.out, e]
        omega
      have hor := or_six m (t[j + 1].toNat - 128) hm3 (by omega)
      have e1 : ((t[j + 1].toNat - 128 : Nat) : Int) = (t[j + 1].toNat : Int) - 128 := by omega
      rw [e1] at hor
      have hx : ((m * 64 + (t[j + 1].toNat - 128) : Nat) : Int) = (m : Int) * 64 + ((t[j + 1].toNat : Int) - 128) := by omega
      have HX := (show Hid _ from hx)
      clear HP hm e1 hx
      go_wp2
      go_round
      case rel => exact ⟨j + 1, m * 64 + (t[j + 1].toNat - 128), by omega, hm2, by go_num, by rw [HX.out], HQ.out⟩
      case measure => simp [intOf]; omega
    · have e1 : t.size - 1 = j := by omega
      go_wp2
      go_ret
      exact ⟨by rw [← HP.out]; rfl, rfl⟩
/-- The unit at the beginning: its point and its size. -/
def uniOf (l : List UInt8) : Int × Nat := match goodOf l with
  | none => (-1, 1)
  | some (p, n) => (p, n)
def unitVal (p : Int) (a b : Nat) : Value := .agg #[.int .i64 p, .int .i64 (a : Int), .int .i64 (b : Int)]
theorem fits_max (lo hi n : Nat) (l : List UInt8) : fits lo hi n l ≤ n := by
  induction n generalizing lo hi l with
  | zero => simp [fits]
  | succ n ih =>
    cases l with
    | nil => simp [fits]
    | cons b l => rw [fits]; have := ih 128 191 l; split <;> omega
theorem fits_all (n : Nat) : ∀ (lo hi : Nat) (l : List UInt8), 128 ≤ lo → hi ≤ 191 → fits lo hi n l = n → n ≤ l.length ∧ ∀ j < n, 128 ≤ (l.getD j 0).toNat ∧ (l.getD j 0).toNat ≤ 191 := by
  induction n with
  | zero => intro lo hi l _ _ _; exact ⟨Nat.zero_le _, fun j hj => by omega⟩
  | succ n ih =>
    intro lo hi l h1 h2 h
    cases l with
    | nil => simp [fits] at h
    | cons b l =>
      rw [fits] at h
      split at h
      · rename_i hb
        obtain ⟨x, y⟩ := ih 128 191 l (by omega) (by omega) (by omega)
        refine ⟨by simp; omega, fun j hj => ?_⟩
        cases j with
        | zero => simp; omega
        | succ j => simpa using y j (by omega)
      · omega
theorem tab_mk : ∀ i < 9, tMk i ≤ tLo i ∧ tHi i - tMk i < 128 ∧ (1 < tSz i → 128 ≤ tLo2 i ∧ tHi2 i ≤ 191) := by decide
theorem rowFrom_fits (c : Nat) : ∀ n i j, rowFrom c n i = some j → fitsRow c j = true := by
  intro n
  induction n with
  | zero => intro i j h; simp [rowFrom] at h
  | succ n ih =>
    intro i j h
    rw [rowFrom] at h
    split at h
    · rename_i hf; simp at h; subst h; exact hf
    · exact ih _ _ h
theorem rowOf_fits {c i : Nat} (h : rowOf c = some i) : tLo i ≤ c ∧ c ≤ tHi i := by
  have := rowFrom_fits c 9 0 i h
  simpa [fitsRow] using this
/-- What a whole sequence is made of. -/
theorem good_parts {a : UInt8} {r : List UInt8} {i : Nat} (h : rowOf a.toNat = some i) (hf : ¬ fits (tLo2 i) (tHi2 i) (tSz i - 1) r + 1 < tSz i) :
    tSz i ≤ r.length + 1 ∧ tMk i ≤ a.toNat ∧ a.toNat - tMk i < 128 ∧ ∀ j, 0 < j → j < tSz i → 128 ≤ ((a :: r).getD j 0).toNat ∧ ((a :: r).getD j 0).toNat ≤ 191 := by
  have hi := rowOf_lt h
  have hs := sz_pos i hi
  obtain ⟨m1, m2, m3⟩ := tab_mk i hi
  obtain ⟨r1, r2⟩ := rowOf_fits h
  have hm := fits_max (tLo2 i) (tHi2 i) (tSz i - 1) r
  have hl := fits_le (tLo2 i) (tHi2 i) (tSz i - 1) r
  refine ⟨by omega, by omega, by omega, fun j h0 hj => ?_⟩
  obtain ⟨x, y⟩ := fits_all (tSz i - 1) _ _ r (m3 (by omega)).1 (m3 (by omega)).2 (by omega)
  obtain ⟨k, rfl⟩ : ∃ k, j = k + 1 := ⟨j - 1, by omega⟩
  simpa using y k (by omega)
theorem pt_nonneg (l : List UInt8) (c0 : Int) (h0 : 0 ≤ c0) (n : Nat) (h : ∀ j, 0 < j → j < n + 1 → 128 ≤ (l.getD j 0).toNat) : 0 ≤ ptL l c0 n := by
  induction n with
  | zero => exact h0
  | succ n ih =>
    have a := ih (fun j h1 h2 => h j h1 (by omega))
    have b := h (n + 1) (by omega) (by omega)
    rw [ptL]
    omega
theorem ptL_take (l : List UInt8) (c0 : Int) (m : Nat) : ∀ j, j < m → ptL (l.take m) c0 j = ptL l c0 j := by
  intro j
  induction j with
  | zero => intro _; rfl
  | succ j ih =>
    intro hj
    rw [ptL, ptL, ih (by omega)]
    congr 3
    rw [List.getD_eq_getElem?_getD, List.getD_eq_getElem?_getD, List.getElem?_take, if_pos hj]
theorem row3 {w : World} {g : Nat} {a b c : Value} {t : TypeId} (h : w.heap[g]? = some (.cells #[a, b, c] t (0, 0))) :
    (w.cell? ⟨g, 0, none⟩ = some a ∧ w.cell? ⟨g, 1, none⟩ = some b ∧ w.cell? ⟨g, 2, none⟩ = some c) ∧ w.frozen? ⟨g, 0, none⟩ = false ∧ w.frozen? ⟨g, 1, none⟩ = false ∧ w.frozen? ⟨g, 2, none⟩ = false := by
  refine ⟨⟨?_, ?_, ?_⟩, frozen_of_row w g _ _ t h, frozen_of_row w g _ _ t h, frozen_of_row w g _ _ t h⟩ <;> (rw [cell_of_row w g _ _ t _ h]; rfl)
theorem set3 {w : World} {g : Nat} {a b c : Value} {t : TypeId} (a' b' c' : Value) (h : w.heap[g]? = some (.cells #[a, b, c] t (0, 0))) :
    (((w.setCell ⟨g, 0, none⟩ a').setCell ⟨g, 1, none⟩ b').setCell ⟨g, 2, none⟩ c').heap[g]? = some (.cells #[a', b', c'] t (0, 0)) := by
  have h0 := heap_setCell_same w g 0 _ t a' h
  have h1 := heap_setCell_same _ g 1 _ t b' h0
  exact heap_setCell_same _ g 2 _ t c' h1
theorem Own3.later {w w' : World} {g : Nat} {o : Obj} (h : w.heap[g]? = some o) (hb : Below w.heap.size w w') : w'.heap[g]? = some o := (hb.block g (Array.getElem?_eq_some_iff.1 h).1).trans h
set_option maxRecDepth 10000 in
set_option maxHeartbeats 800000 in
theorem unitAt_any (s : ByteArray) (k : Nat) (hk : k < s.size) (hs : s.size ≤ 140737488355328) (w : World) (hT : SeqAt w) :
    Calls Tryz.prog 108 #[.string s, .int .i64 (k : Int)] w fun e w' => e = .returned (unitVal (uniOf (s.data.toList.drop k)).1 k (k + (uniOf (s.data.toList.drop k)).2)) ∧ Below w.heap.size w w' := by
  have hm := fun w hT => begun_any s k hk hs w hT
  have hl := drop_cons s k hk
  have HT : Hid (SeqAt w) := hT
  clear hT
  cases hr : rowOf s[k].toNat with
  | none =>
    have HG : Hid (uniOf (s.data.toList.drop k) = (-1, 1)) := by show _ = _; rw [hl, uniOf, good_none hr]
    rw [hl, begunVal, begun_none hr] at hm
    have HM := (show Hid _ from hm)
    clear hl hr hm
    go_enter Tryz.func108, Tryz.ntmps108
    go_wp2_with (go_at_call 125; refine (HM.out _ (HT.out.later (by go_grown))).mono ?_; rintro e w' ⟨rfl, hb⟩; simp only [noRow]; have HR : Hid ((w'.alloc (.cells #[.int .u8 0, .int .u8 0, .int .u8 0, .int .u8 0, .int .i64 0, .int .u8 0] 154)).heap[w.heap.size]? = _) := Own3.later (boxRow hb) (alloc_below _ _); obtain ⟨⟨c0, c1, c2⟩, f0, f1, f2⟩ := row3 HR.out; have hB : Below w.heap.size w w' := ((Below.refl _ _).alloc (Nat.le_refl _) _).trans (hb.mono (by simp)); have hsz := hB.size; clear hb)
    (try simp only [Exit.inBlock, Exit.then])
    refine bodyPost_ret (results_cell_row rfl _ _ w.heap.size 88 _ (0, 0) _ rfl (set3 _ _ _ HR.out) Tryz.underlying88 rfl (by kernel_rfl)) rfl ?_
    rw [HG.out]
    exact ⟨by simp [unitVal], by go_grown⟩
  | some i =>
    have hi9 := rowOf_lt hr
    have hsz4 := sz_pos i hi9
    obtain ⟨hl0, hl1, hl2, hl3, hl4, hl5⟩ := tab_lt i hi9
    by_cases hf : fits (tLo2 i) (tHi2 i) (tSz i - 1) (s.data.toList.drop (k + 1)) + 1 < tSz i
    · have HG : Hid (uniOf (s.data.toList.drop k) = (-1, 1)) := by show _ = _; rw [hl, uniOf, good_some hr, if_pos hf]
      rw [hl, begunVal, begun_some hr] at hm
      generalize fits (tLo2 i) (tHi2 i) (tSz i - 1) (s.data.toList.drop (k + 1)) = f at *
      have HM := (show Hid _ from hm)
      have hf1 : ¬ ((f : Int) + 1 = 0) := by omega
      have hf2 : (f : Int) + 1 < (tSz i : Int) := by omega
      clear hl hr hm
      go_enter Tryz.func108, Tryz.ntmps108
      go_wp2_with (go_at_call 125; refine (HM.out _ (HT.out.later (by go_grown))).mono ?_; rintro e w' ⟨rfl, hb⟩; simp only [rowVal]; have HR : Hid ((w'.alloc (.cells #[.int .u8 (tLo i), .int .u8 (tHi i), .int .u8 (tLo2 i), .int .u8 (tHi2 i), .int .i64 (tSz i), .int .u8 (tMk i)] 154)).heap[w.heap.size]? = _) := Own3.later (boxRow hb) (alloc_below _ _); obtain ⟨⟨c0, c1, c2⟩, f0, f1, f2⟩ := row3 HR.out; have hB : Below w.heap.size w w' := ((Below.refl _ _).alloc (Nat.le_refl _) _).trans (hb.mono (by simp)); have hsz := hB.size; clear hb)
      (try simp only [Exit.inBlock, Exit.then])
      refine bodyPost_ret (results_cell_row rfl _ _ w.heap.size 88 _ (0, 0) _ rfl (set3 _ _ _ HR.out) Tryz.underlying88 rfl (by kernel_rfl)) rfl ?_
      rw [HG.out]
      exact ⟨by simp [unitVal], by go_grown⟩
    · have hfe : fits (tLo2 i) (tHi2 i) (tSz i - 1) (s.data.toList.drop (k + 1)) + 1 = tSz i := by
        have := fits_max (tLo2 i) (tHi2 i) (tSz i - 1) (s.data.toList.drop (k + 1)); omega
      obtain ⟨g1, g2, g3, g4⟩ := good_parts hr hf
      obtain ⟨P, hP⟩ : ∃ P : Nat, (P : Int) = ptL (s.data.toList.drop k) ((s[k].toNat : Int) - tMk i) (tSz i - 1) := by
        refine ⟨(ptL (s.data.toList.drop k) ((s[k].toNat : Int) - tMk i) (tSz i - 1)).toNat, Int.toNat_of_nonneg ?_⟩
        exact pt_nonneg _ _ (by omega) _ (fun j h0 hj => by rw [hl]; exact (g4 j h0 (by omega)).1)
      have HG : Hid (uniOf (s.data.toList.drop k) = ((P : Int), tSz i)) := by
        show _ = _
        rw [hl] at hP
        rw [hl, uniOf, good_some hr, if_neg hf, ← hP]
        rfl
      have hxl := extract_take s k (tSz i)
      have hg1 : k + tSz i ≤ s.size := by have := bsize s; rw [List.length_drop, this] at g1; omega
      have hxs : (s.extract k (k + tSz i)).size = tSz i := by rw [← bsize, hxl, List.length_take, List.length_drop, bsize]; omega
      have hat : ∀ j (h : j < (s.extract k (k + tSz i)).size), (s.extract k (k + tSz i))[j] = (s.data.toList.drop k).getD j 0 := fun j h => by
        have e := getD_drop (s.extract k (k + tSz i)) 0 j (by omega)
        simp only [List.drop_zero, Nat.zero_add] at e
        rw [← e, hxl, List.getD_eq_getElem?_getD, List.getD_eq_getElem?_getD, List.getElem?_take, if_pos (by omega)]
      have h00 : (s.data.toList.drop k).getD 0 0 = s[k] := by rw [hl]; rfl
      have hpo := fun w => pointOf_any (s.extract k (k + tSz i)) (tMk i) w (by omega) (by omega) (by rw [hat, h00]; exact g2) (by rw [hat, h00]; exact g3) (fun j h h0 => by rw [hat j h, hl]; exact g4 j h0 (by omega))
      have hpe : ptL (s.extract k (k + tSz i)).data.toList (((s.extract k (k + tSz i))[0].toNat : Int) - (tMk i : Int)) ((s.extract k (k + tSz i)).size - 1) = (P : Int) := by
        rw [hat, h00, hP, hxs, hxl]
        exact ptL_take _ _ _ _ (by omega)
      simp only [hpe] at hpo
      have HPO := (show Hid _ from hpo)
      rw [hl, begunVal, begun_some hr, hfe] at hm
      have HM := (show Hid _ from hm)
      have hd0 : (0 : Int) ≤ (k : Int) := by omega
      have hd1 : (k : Int) ≤ (k : Int) + (tSz i : Int) := by omega
      have hd2 : (k : Int) + (tSz i : Int) ≤ (s.size : Int) := by omega
      have hd4 : ((k : Int) + (tSz i : Int)).toNat = k + tSz i := by omega
      have hf1 : ¬ ((tSz i : Int) = 0) := by omega
      clear hl hr hm hf hfe g1 g2 g3 g4 hP hxl hxs hat h00 hpo hpe
      go_enter Tryz.func108, Tryz.ntmps108
      go_wp2_with (first
        | (go_at_call 125; refine (HM.out _ (HT.out.later (by go_grown))).mono ?_; rintro e w' ⟨rfl, hb⟩; simp only [rowVal]; have HR : Hid ((w'.alloc (.cells #[.int .u8 (tLo i), .int .u8 (tHi i), .int .u8 (tLo2 i), .int .u8 (tHi2 i), .int .i64 (tSz i), .int .u8 (tMk i)] 154)).heap[w.heap.size]? = _) := Own3.later (boxRow hb) (alloc_below _ _); obtain ⟨⟨c0, c1, c2⟩, f0, f1, f2⟩ := row3 HR.out; have hB : Below w.heap.size w w' := ((Below.refl _ _).alloc (Nat.le_refl _) _).trans (hb.mono (by simp)); have hsz := hB.size; clear hb)
        | fail)
      go_region_law (go_simp; go_at_call 126; refine (HPO.out _).mono ?_; rintro e w2 ⟨rfl, rfl⟩)
      all_goals go_wp2
      (try simp only [Exit.inBlock, Exit.then])
      refine bodyPost_ret (results_cell_row rfl _ _ w.heap.size 88 _ (0, 0) _ rfl (set3 _ _ _ HR.out) Tryz.underlying88 rfl (by kernel_rfl)) rfl ?_
      rw [HG.out]
      exact ⟨by simp [unitVal], by go_grown⟩
end Go.Proofs.YtlnejmmhhmmomaaGreatDoor
namespace Go.Proofs.YtlnejmmhhmmomaaGreatDoor
open Go.RowKit
/-- The units from a place on, and of a text. -/
def unitsF : Nat → Nat → List UInt8 → List (Int × Nat × Nat)
  | 0, _, _ => []
  | _ + 1, _, [] => []
  | f + 1, k, a :: l => ((uniOf (a :: l)).1, k, k + (uniOf (a :: l)).2) :: unitsF f (k + (uniOf (a :: l)).2) ((a :: l).drop (uniOf (a :: l)).2)
def unitsAt (l : List UInt8) (k : Nat) : List (Int × Nat × Nat) := unitsF (l.length - k) k (l.drop k)
def unitsOf (l : List UInt8) : List (Int × Nat × Nat) := unitsAt l 0
theorem uni_size (a : UInt8) (r : List UInt8) : 1 ≤ (uniOf (a :: r)).2 ∧ (uniOf (a :: r)).2 ≤ r.length + 1 ∧ (uniOf (a :: r)).2 ≤ 4 := by
  unfold uniOf
  cases hr : rowOf a.toNat with
  | none => rw [good_none hr]; simp
  | some i =>
    have hi := rowOf_lt hr
    have hs := sz_pos i hi
    rw [good_some hr]
    by_cases hf : fits (tLo2 i) (tHi2 i) (tSz i - 1) r + 1 < tSz i
    · rw [if_pos hf]; simp
    · rw [if_neg hf]
      have := fits_le (tLo2 i) (tHi2 i) (tSz i - 1) r
      simp only
      omega
theorem uni_bound (a : UInt8) (r : List UInt8) : -1 ≤ (uniOf (a :: r)).1 ∧ (uniOf (a :: r)).1 ≤ 100000000 := by
  unfold uniOf
  cases hr : rowOf a.toNat with
  | none => rw [good_none hr]; simp
  | some i =>
    have hs := sz_pos i (rowOf_lt hr)
    rw [good_some hr]
    by_cases hf : fits (tLo2 i) (tHi2 i) (tSz i - 1) r + 1 < tSz i
    · rw [if_pos hf]; simp
    · rw [if_neg hf]
      obtain ⟨_, g2, g3, _⟩ := good_parts hr hf
      have hb := pt_bound (a :: r) ((a.toNat : Int) - tMk i) (by omega) (by omega) (tSz i - 1) (by omega)
      simp only
      omega
theorem unitsF_fuel : ∀ (f g k : Nat) (l : List UInt8), l.length ≤ f → l.length ≤ g → unitsF f k l = unitsF g k l := by
  intro f
  induction f with
  | zero =>
    intro g k l hf hg
    have : l = [] := List.length_eq_zero_iff.1 (by omega)
    subst this
    cases g <;> rfl
  | succ f ih =>
    intro g k l hf hg
    cases l with
    | nil => cases g <;> rfl
    | cons a l =>
      cases g with
      | zero => simp at hg
      | succ g =>
        have hs := uni_size a l
        simp only [List.length_cons] at hf hg
        rw [unitsF, unitsF, ih g _ _ (by rw [List.length_drop, List.length_cons]; omega) (by rw [List.length_drop, List.length_cons]; omega)]
theorem unitsAt_end (l : List UInt8) (k : Nat) (h : l.length ≤ k) : unitsAt l k = [] := by
  rw [unitsAt, show l.length - k = 0 by omega]; rfl
theorem unitsAt_step (l : List UInt8) (k : Nat) (h : k < l.length) : unitsAt l k = ((uniOf (l.drop k)).1, k, k + (uniOf (l.drop k)).2) :: unitsAt l (k + (uniOf (l.drop k)).2) := by
  obtain ⟨a, r, e⟩ : ∃ a r, l.drop k = a :: r := by
    cases h' : l.drop k with
    | nil => have := congrArg List.length h'; simp at this; omega
    | cons a r => exact ⟨a, r, rfl⟩
  have hl := congrArg List.length e
  rw [List.length_drop, List.length_cons] at hl
  have hs := uni_size a r
  have e2 : l.drop (k + (uniOf (a :: r)).2) = (a :: r).drop (uniOf (a :: r)).2 := by rw [← List.drop_drop, e]
  rw [unitsAt, unitsAt, e, e2, show l.length - k = (l.length - k - 1) + 1 by omega, unitsF]
  rw [unitsF_fuel (l.length - k - 1) (l.length - (k + (uniOf (a :: r)).2)) _ _ (by rw [List.length_drop, List.length_cons]; omega) (by rw [List.length_drop, List.length_cons]; omega)]
/-- Units as cells. -/
def cellsU (us : List (Int × Nat × Nat)) : List Value := us.flatMap fun u => [.int .i64 u.1, .int .i64 (u.2.1 : Int), .int .i64 (u.2.2 : Int)]
theorem cellsU_length (us : List (Int × Nat × Nat)) : (cellsU us).length = us.length * 3 := by
  induction us with
  | nil => rfl
  | cons u us ih => rw [cellsU, List.flatMap_cons, List.length_append, List.length_cons]; rw [cellsU] at ih; rw [ih]; simp; omega
theorem cellsU_append (us vs : List (Int × Nat × Nat)) : cellsU (us ++ vs) = cellsU us ++ cellsU vs := by simp [cellsU]
/-- A slice of units of the call's own. -/
def OwnU (w : World) (base : Nat) (v : Value) (us : List (Int × Nat × Nat)) : Prop := w.ownsRow base 88 3 v us.length (cellsU us)
theorem infoUnit : (Tryz.prog.info? 88).map (fun i => (i.zero, i.size, i.bytes)) = some (some (.agg #[.int .i64 0, .int .i64 0, .int .i64 0]), 3, 24) := by kernel_rfl
theorem OwnU.nil (w : World) (base : Nat) : OwnU w base (.slice none 0 0) [] := World.ownsRow_nil _ _ _ _
theorem ownU_snoc {w wr w1 : World} {base : Nat} {v v' : Value} {us m : List (Int × Nat × Nat)} {u : Int × Nat × Nat} {o : Obj} {n : Nat} (hn : n = us.length) (hown : OwnU wr base v us)
    (hown' : w1.ownsRow base 88 3 v' (n + 1) (cellsU us ++ [.int .i64 u.1, .int .i64 (u.2.1 : Int), .int .i64 (u.2.2 : Int)])) (hgrow : (wr.alloc o).grownBy w1 v.ownBlock) (hm : m = us ++ [u]) (hbel : Below base w wr) (hb : base ≤ w.heap.size) :
    OwnU w1 base v' m ∧ Below base w w1 := by
  subst hm hn
  have hsz := hbel.size
  refine ⟨?_, (hbel.alloc (by omega) o).grown hgrow (by simp; omega) (fun k hk => (World.ownsRow.lt hown k hk).1)⟩
  have e2 : cellsU (us ++ [u]) = cellsU us ++ [.int .i64 u.1, .int .i64 (u.2.1 : Int), .int .i64 (u.2.2 : Int)] := by rw [cellsU_append]; rfl
  unfold OwnU
  rw [List.length_append, e2]
  exact hown'
theorem hid {p : Prop} (h : p) : Hid p := h
theorem OwnU.later {w w' : World} {base : Nat} {v : Value} {us : List (Int × Nat × Nat)} (h : OwnU w base v us) (hb : Below w.heap.size w w') : OwnU w' base v us := by
  obtain ⟨h1, h2⟩ := h
  refine ⟨h1, ?_⟩
  rcases h2 with h2 | ⟨g, cap, cur, hv, hg, hh, r⟩
  · exact .inl h2
  · exact .inr ⟨g, cap, cur, hv, hg, (hb.block g (Array.getElem?_eq_some_iff.1 hh).1).trans hh, r⟩
theorem cell3_new (w : World) (a b c : Value) (t : TypeId) : ∀ j u, [a, b, c][j]? = some u → (w.alloc (.cells #[a, b, c] t)).cell? ((⟨w.heap.size, 0, none⟩ : Addr).add j) = some u := by
  intro j u h
  rw [Addr.add_lit, cell_of_row _ w.heap.size _ _ _ _ (heap_alloc_new w _), Nat.zero_add]
  simpa using h
set_option maxRecDepth 10000 in
set_option maxHeartbeats 800000 in
theorem refSplit_any (s : ByteArray) (hs : s.size ≤ 4194400) (w : World) :
    Calls Tryz.prog 50 #[.string s] w fun e w' => ∃ v, e = .returned v ∧ OwnU w' w.heap.size v (unitsOf s.data.toList) ∧ Below w.heap.size w w' := by
  obtain ⟨i0, hi, hz0, hz1, hz2⟩ := info_parts infoUnit
  have hlen : s.data.toList.length = s.size := bsize s
  go_enter Tryz.func50, Tryz.ntmps50
  go_wp2
  go_loopw [3, 4] (fun v i wr => ∃ (k : Nat) (pre : List (Int × Nat × Nat)), k ≤ s.size ∧ pre.length ≤ k ∧ i = .int .i64 (k : Int) ∧ unitsOf s.data.toList = pre ++ unitsAt s.data.toList k ∧ OwnU wr w.heap.size v pre ∧ Below w.heap.size w wr) (fun _ i _ => s.size - (intOf i).toNat)
  case atStart => exact ⟨0, [], Nat.zero_le _, by simp, rfl, rfl, OwnU.nil _ _, Below.refl _ _⟩
  case round =>
    obtain ⟨k, pre, hk, hpl, rfl, hpre, hown, hbel⟩ := hrel
    have HPre := hid hpre
    clear hpre
    by_cases hlt : k < s.size
    · have hg := refGood_any s k hlt (by omega) wr
      rw [refGood_eq] at hg
      have hl := drop_cons s k hlt
      have hsz1 := uni_size s[k] (s.data.toList.drop (k + 1))
      have hbd := uni_bound s[k] (s.data.toList.drop (k + 1))
      rw [← hl] at hsz1 hbd
      have hll : (s.data.toList.drop (k + 1)).length = s.size - (k + 1) := by rw [List.length_drop, hlen]
      rw [hll] at hsz1
      have hltL : k < s.data.toList.length := by omega
      cases hq : goodOf (s.data.toList.drop k) with
      | none =>
        rw [hq] at hg
        have hu : uniOf (s.data.toList.drop k) = (-1, 1) := by rw [uniOf, hq]
        have HU : Hid (unitsAt s.data.toList k = (-1, k, k + 1) :: unitsAt s.data.toList (k + 1)) := by show _ = _; rw [unitsAt_step _ _ hltL, hu]
        rw [goodVal] at hg
        clear hq hl hu hll hltL hlen hsz1 hbd
        go_wp2_with (first
          | (go_at_call 76; refine hg.mono ?_; rintro e w2 ⟨rfl, hb⟩; have HO := hid (hown.later hb); have hB2 := hbel.trans (hb.mono hbel.size); have hsz := hB2.size; clear hown)
          | (at_builtin; refine wpList_append_own _ rfl _ _ 85 rfl w.heap.size 88 i0 (.agg #[.int .i64 0, .int .i64 0, .int .i64 0]) 3 24 Tryz.underlying85 hi hz0 hz1 hz2 rfl (by decide) _ _ _ rfl (HO.out.alloc _) ⟨w2.heap.size, 0, none⟩ 1 1 [.int .i64 (-1), .int .i64 (k : Int), .int .i64 ((k : Int) + 1)] rfl rfl ?c1a ?c2a ?c3a ?c4a ?c5a ?_)
          | fail)
        case c1a => exact cell3_new _ _ _ _ _
        case c2a => intro u hu; simp at hu; rcases hu with rfl | rfl | rfl <;> rfl
        case c3a => unfold maxLen; omega
        case c4a => omega
        case c5a => simp; omega
        · intro v' w1 hown' hgrow _
          have R := ownU_snoc (u := (-1, k, k + 1)) rfl HO.out (by simpa using hown') hgrow rfl hB2 (Nat.le_refl _)
          have HR := hid R
          clear R hown' hgrow HO
          go_wp2
          go_roundw
          case rel => exact ⟨k + 1, pre ++ [(-1, k, k + 1)], by omega, by simp; omega, by go_num, by rw [HPre.out, HU.out]; simp, HR.out.1, HR.out.2⟩
          case measure => simp [intOf]; omega
      | some q =>
        obtain ⟨p, n⟩ := q
        rw [hq] at hg
        have hu : uniOf (s.data.toList.drop k) = ((p : Int), n) := by rw [uniOf, hq]
        have HU : Hid (unitsAt s.data.toList k = ((p : Int), k, k + n) :: unitsAt s.data.toList (k + n)) := by show _ = _; rw [unitsAt_step _ _ hltL, hu]
        rw [hu] at hsz1 hbd
        simp only at hsz1 hbd
        have hn0 : ¬ (n : Int) = 0 := by omega
        have hnb : ((n : Int) == 0) = false := by simpa using hn0
        rw [goodVal] at hg
        clear hq hl hu hll hltL hlen
        go_wp2_with (first
          | (go_at_call 76; refine hg.mono ?_; rintro e w2 ⟨rfl, hb⟩; have HO := hid (hown.later hb); have hB2 := hbel.trans (hb.mono hbel.size); have hsz := hB2.size; clear hown)
          | (at_builtin; refine wpList_append_own _ rfl _ _ 85 rfl w.heap.size 88 i0 (.agg #[.int .i64 0, .int .i64 0, .int .i64 0]) 3 24 Tryz.underlying85 hi hz0 hz1 hz2 rfl (by decide) _ _ _ rfl (HO.out.alloc _) ⟨w2.heap.size, 0, none⟩ 1 1 [.int .i64 (p : Int), .int .i64 (k : Int), .int .i64 ((k : Int) + (n : Int))] rfl rfl ?c1b ?c2b ?c3b ?c4b ?c5b ?_)
          | fail)
        case c1b => exact cell3_new _ _ _ _ _
        case c2b => intro u hu; simp at hu; rcases hu with rfl | rfl | rfl <;> rfl
        case c3b => unfold maxLen; omega
        case c4b => omega
        case c5b => simp; omega
        · intro v' w1 hown' hgrow _
          have R := ownU_snoc (u := ((p : Int), k, k + n)) rfl HO.out (by simpa using hown') hgrow rfl hB2 (Nat.le_refl _)
          have HR := hid R
          clear R hown' hgrow HO
          go_wp2
          go_roundw
          case rel => exact ⟨k + n, pre ++ [((p : Int), k, k + n)], by omega, by simp; omega, by go_num, by rw [HPre.out, HU.out]; simp, HR.out.1, HR.out.2⟩
          case measure => simp [intOf]; omega
    · go_wp2
      go_ret
      have hkk : unitsAt s.data.toList k = [] := unitsAt_end _ _ (by omega)
      exact ⟨_, rfl, by rw [HPre.out, hkk, List.append_nil]; exact hown, hbel⟩
end Go.Proofs.YtlnejmmhhmmomaaGreatDoor
namespace Go.Proofs.YtlnejmmhhmmomaaGreatDoor
open Go.RowKit
/-- How many bytes the well-formed sequence at the beginning has; 0: there is none. -/
def wszOf (l : List UInt8) : Nat := match goodOf l with
  | none => 0
  | some (_, m) => m
set_option maxRecDepth 10000 in
set_option maxHeartbeats 400000 in
theorem whole_any (s : ByteArray) (k : Nat) (hk : k < s.size) (hs : s.size ≤ 140737488355328) (w : World) (hT : SeqAt w) :
    Calls Tryz.prog 124 #[.string s, .int .i64 (k : Int)] w fun e w' => e = .returned (.int .i64 (wszOf (s.data.toList.drop k) : Int)) ∧ Below w.heap.size w w' := by
  have hm := begun_any s k hk hs w hT
  have hl := drop_cons s k hk
  clear hT
  cases hr : rowOf s[k].toNat with
  | none =>
    have HG : Hid (wszOf (s.data.toList.drop k) = 0) := by show _ = _; rw [hl, wszOf, good_none hr]
    rw [hl, begunVal, begun_none hr] at hm
    have HM := hid hm
    clear hl hr hm
    go_enter Tryz.func124, Tryz.ntmps124
    go_wp2_with (go_at_call 125; refine HM.out.mono ?_; rintro e w' ⟨rfl, hb⟩; simp only [noRow])
    go_ret
    exact ⟨by rw [HG.out]; rfl, hb.alloc hb.size _⟩
  | some i =>
    have hi9 := rowOf_lt hr
    have hsz4 := sz_pos i hi9
    obtain ⟨hl0, hl1, hl2, hl3, hl4, hl5⟩ := tab_lt i hi9
    rw [hl, begunVal, begun_some hr] at hm
    by_cases hf : fits (tLo2 i) (tHi2 i) (tSz i - 1) (s.data.toList.drop (k + 1)) + 1 < tSz i
    · have HG : Hid (wszOf (s.data.toList.drop k) = 0) := by show _ = _; rw [hl, wszOf, good_some hr, if_pos hf]
      generalize fits (tLo2 i) (tHi2 i) (tSz i - 1) (s.data.toList.drop (k + 1)) = f at *
      have HM := hid hm
      have hf2 : (f : Int) + 1 < (tSz i : Int) := by omega
      clear hl hr hm
      go_enter Tryz.func124, Tryz.ntmps124
      go_wp2_with (go_at_call 125; refine HM.out.mono ?_; rintro e w' ⟨rfl, hb⟩; simp only [rowVal])
      go_ret
      exact ⟨by rw [HG.out]; rfl, hb.alloc hb.size _⟩
    · have HG : Hid (wszOf (s.data.toList.drop k) = tSz i) := by show _ = _; rw [hl, wszOf, good_some hr, if_neg hf]
      generalize fits (tLo2 i) (tHi2 i) (tSz i - 1) (s.data.toList.drop (k + 1)) = f at *
      have HM := hid hm
      have hf2 : ¬ (f : Int) + 1 < (tSz i : Int) := by omega
      clear hl hr hm
      go_enter Tryz.func124, Tryz.ntmps124
      go_wp2_with (go_at_call 125; refine HM.out.mono ?_; rintro e w' ⟨rfl, hb⟩; simp only [rowVal])
      go_ret
      exact ⟨by rw [HG.out]; rfl, hb.alloc hb.size _⟩
/-- Does no sequence that begins at one of these places go over the place? -/
def edgeFrom (l : List UInt8) (k : Nat) : Nat → Nat → Bool
  | 0, _ => true
  | n + 1, j => if k < j + wszOf (l.drop j) then false else edgeFrom l k n (j + 1)
def edgeL (l : List UInt8) (k : Nat) : Bool := edgeFrom l k (k - (k - 3)) (k - 3)
theorem wsz_le (l : List UInt8) : wszOf l ≤ 4 := by
  unfold wszOf
  cases h : goodOf l with
  | none => simp
  | some q =>
    obtain ⟨p, m⟩ := q
    cases l with
    | nil => simp [goodOf, begunOf] at h
    | cons a r => have := uni_size a r; rw [uniOf, h] at this; simp only at this ⊢; omega
set_option maxRecDepth 10000 in
set_option maxHeartbeats 800000 in
theorem edge_in (s : ByteArray) (k : Nat) (hk : k ≤ s.size) (hs : s.size ≤ 140737488355328) (w : World) (hT : SeqAt w) :
    Calls Tryz.prog 107 #[.string s, .int .i64 (k : Int)] w fun e w' => e = .returned (.bool (edgeL s.data.toList k)) ∧ Below w.heap.size w w' := by
  have hmax : ∀ ts t w, (Builtin.max_ ts t #[.int .i64 0, .int .i64 ((k : Int) - 4 + 1)]).run Tryz.prog w = .ok (.int .i64 ((k - 3 : Nat) : Int)) w := fun ts t w => by
    rw [run_max_int2]; split <;> (congr 2; omega)
  have HT := hid hT
  have h0 : ¬ ((k : Int) < 0) := by omega
  have h1 : ¬ ((s.size : Int) < (k : Int)) := by omega
  clear hT
  go_enter Tryz.func107, Tryz.ntmps107
  go_wp2
  clear hmax
  go_loopw [5] (fun i wr => ∃ j : Nat, k - 3 ≤ j ∧ j ≤ k ∧ i = .int .i64 (j : Int) ∧ edgeL s.data.toList k = edgeFrom s.data.toList k (k - j) j ∧ Below w.heap.size w wr) (fun i _ => k - (intOf i).toNat)
  case atStart => exact ⟨k - 3, Nat.le_refl _, by omega, rfl, rfl, Below.refl _ _⟩
  case round =>
    obtain ⟨j, hj1, hj2, rfl, he, hB⟩ := hrel
    have HE := hid he
    clear he
    by_cases hlt : j < k
    · have HU : Hid (edgeFrom s.data.toList k (k - j) j = if k < j + wszOf (s.data.toList.drop j) then false else edgeFrom s.data.toList k (k - (j + 1)) (j + 1)) := by
        show _ = _
        rw [show k - j = (k - (j + 1)) + 1 by omega, edgeFrom]
      have HM := hid (whole_any s j (by omega) hs wr (HT.out.later hB))
      have hw4 := wsz_le (s.data.toList.drop j)
      generalize wszOf (s.data.toList.drop j) = m at *
      have hji : (j : Int) < (k : Int) := by omega
      by_cases hov : k < j + m
      · have HN : Hid (edgeL s.data.toList k = false) := by show _ = _; rw [HE.out, HU.out, if_pos hov]
        have hoi : (k : Int) < (j : Int) + (m : Int) := by omega
        clear HU HE
        go_wp2_with (go_at_call 124; refine HM.out.mono ?_; rintro e w' ⟨rfl, hb⟩)
        go_ret
        exact ⟨by rw [HN.out]; rfl, hB.trans (hb.mono hB.size)⟩
      · have HN : Hid (edgeL s.data.toList k = edgeFrom s.data.toList k (k - (j + 1)) (j + 1)) := by show _ = _; rw [HE.out, HU.out, if_neg hov]
        have hoi : ¬ (k : Int) < (j : Int) + (m : Int) := by omega
        clear HU HE
        go_wp2_with (go_at_call 124; refine HM.out.mono ?_; rintro e w' ⟨rfl, hb⟩)
        go_roundw
        case rel => exact ⟨j + 1, by omega, by omega, by go_num, HN.out, hB.trans (hb.mono hB.size)⟩
        case measure => simp [intOf]; omega
    · have HN : Hid (edgeL s.data.toList k = true) := by show _ = _; rw [HE.out, show k - j = 0 by omega, edgeFrom]
      have hji : ¬ (j : Int) < (k : Int) := by omega
      go_wp2
      go_ret
      exact ⟨by rw [HN.out]; rfl, hB⟩
set_option maxRecDepth 10000 in
set_option maxHeartbeats 400000 in
theorem edge_out (s : ByteArray) (k : Int) (hk : k < 0 ∨ (s.size : Int) < k) (w : World) :
    Calls Tryz.prog 107 #[.string s, .int .i64 k] w fun e w' => e = .returned (.bool false) ∧ w' = w := by
  rcases hk with h | h
  · go_enter Tryz.func107, Tryz.ntmps107
    go_wp2
    all_goals
      go_ret
      exact ⟨rfl, rfl⟩
  · go_enter Tryz.func107, Tryz.ntmps107
    go_wp2
    all_goals
      go_ret
      exact ⟨rfl, rfl⟩
def noUnit : Value := .agg #[.int .i64 0, .int .i64 0, .int .i64 0]
/-- What Next answers. -/
def nextVal (l : List UInt8) (k : Nat) : Value := if edgeL l k then .tuple #[unitVal (uniOf (l.drop k)).1 k (k + (uniOf (l.drop k)).2), .bool true] else .tuple #[noUnit, .bool false]
set_option maxRecDepth 10000 in
set_option maxHeartbeats 800000 in
theorem next_in (s : ByteArray) (k : Nat) (hk : k < s.size) (hs : s.size ≤ 140737488355328) (w : World) (hT : SeqAt w) :
    Calls Tryz.prog 84 #[.string s, .int .i64 (k : Int)] w fun e w' => e = .returned (nextVal s.data.toList k) ∧ Below w.heap.size w w' := by
  have HE := hid (fun w hT => edge_in s k (by omega) hs w hT)
  have HU := hid (fun w hT => unitAt_any s k hk hs w hT)
  have HT := hid hT
  have h1 : ¬ ((s.size : Int) ≤ (k : Int)) := by omega
  clear hT
  cases he : edgeL s.data.toList k with
  | false =>
    have HN : Hid (nextVal s.data.toList k = .tuple #[noUnit, .bool false]) := by show _ = _; rw [nextVal, he]; rfl
    rw [he] at HE
    clear HU he
    go_enter Tryz.func84, Tryz.ntmps84
    go_wp2_with (go_at_call 107; refine (HE.out _ (HT.out.later (by go_grown))).mono ?_; rintro e w' ⟨rfl, hb⟩; have HR : Hid (w'.heap[w.heap.size]? = _) := boxRow hb; obtain ⟨⟨c0, c1, c2⟩, f0, f1, f2⟩ := row3 HR.out; have hB : Below w.heap.size w w' := ((Below.refl _ _).alloc (Nat.le_refl _) _).trans (hb.mono (by simp)); have hsz := hB.size; clear hb)
    (try simp only [Exit.inBlock, Exit.then])
    refine bodyPost_ret (ret_row rfl _ _ w.heap.size 88 _ _ _ rfl (set3 _ _ _ HR.out) Tryz.underlying88 rfl (by kernel_rfl) rfl) rfl ?_
    exact ⟨by rw [HN.out]; rfl, by go_grown⟩
  | true =>
    have HN : Hid (nextVal s.data.toList k = .tuple #[unitVal (uniOf (s.data.toList.drop k)).1 k (k + (uniOf (s.data.toList.drop k)).2), .bool true]) := by show _ = _; rw [nextVal, he]; rfl
    rw [he] at HE
    generalize (uniOf (s.data.toList.drop k)).1 = p at *
    generalize (uniOf (s.data.toList.drop k)).2 = m at *
    clear he
    go_enter Tryz.func84, Tryz.ntmps84
    go_wp2_with (first
      | (go_at_call 107; refine (HE.out _ (HT.out.later (by go_grown))).mono ?_; rintro e w1 ⟨rfl, hb⟩; have HR1 : Hid (w1.heap[w.heap.size]? = _) := boxRow hb; have hB1 : Below w.heap.size w w1 := ((Below.refl _ _).alloc (Nat.le_refl _) _).trans (hb.mono (by simp)); clear hb)
      | (go_at_call 108; refine (HU.out _ (HT.out.later hB1)).mono ?_; rintro e w2 ⟨rfl, hb⟩; simp only [unitVal]; have HR : Hid (w2.heap[w.heap.size]? = _) := Own3.later HR1.out hb; obtain ⟨⟨c0, c1, c2⟩, f0, f1, f2⟩ := row3 HR.out; have hB : Below w.heap.size w w2 := hB1.trans (hb.mono hB1.size); have hsz := hB.size; clear hb)
      | fail)
    (try simp only [Exit.inBlock, Exit.then])
    refine bodyPost_ret (ret_row rfl _ _ w.heap.size 88 _ _ _ rfl (set3 _ _ _ HR.out) Tryz.underlying88 rfl (by kernel_rfl) rfl) rfl ?_
    exact ⟨by rw [HN.out]; rfl, by go_grown⟩
end Go.Proofs.YtlnejmmhhmmomaaGreatDoor
namespace Go.Proofs.YtlnejmmhhmmomaaGreatDoor
open Go.RowKit
theorem good_cont {l : List UInt8} {p m : Nat} (h : goodOf l = some (p, m)) (j : Nat) (h0 : 0 < j) (hj : j < m) : goodOf (l.drop j) = none := by
  cases l with
  | nil => simp [goodOf, begunOf] at h
  | cons a r =>
    cases hr : rowOf a.toNat with
    | none => rw [good_none hr] at h; cases h
    | some i =>
      rw [good_some hr] at h
      split at h
      · cases h
      · rename_i hf
        simp only [Option.some.injEq, Prod.mk.injEq] at h
        obtain ⟨g1, _, _, g4⟩ := good_parts hr hf
        have hb := g4 j h0 (by omega)
        have hjl : j < (a :: r).length := by simp; omega
        rw [List.drop_eq_getElem_cons hjl]
        have hg : (a :: r).getD j 0 = (a :: r)[j] := by rw [List.getD_eq_getElem?_getD, List.getElem?_eq_getElem hjl]; rfl
        rw [hg] at hb
        cases hq : rowOf (a :: r)[j].toNat with
        | none => exact good_none hq
        | some i' =>
          rcases row_cases _ (a :: r)[j].toNat_lt with q | q | q | q | q | q | q | q | q | q | q | q | q
          case inr.inl => rw [q.1] at hq; cases hq
          all_goals omega
/-- No sequence ahead of the place goes over it. -/
def clean (l : List UInt8) (k : Nat) : Prop := ∀ i, i < k → i + wszOf (l.drop i) ≤ k
theorem clean_zero (l : List UInt8) : clean l 0 := fun i hi => by omega
theorem uni_wsz (l : List UInt8) : (uniOf l).2 = wszOf l ∨ ((uniOf l).2 = 1 ∧ wszOf l = 0) := by
  unfold uniOf wszOf
  cases goodOf l with
  | none => exact .inr ⟨rfl, rfl⟩
  | some q => exact .inl rfl
theorem inside {l : List UInt8} {j i : Nat} (h1 : j < i) (h2 : i < j + (uniOf (l.drop j)).2) : wszOf (l.drop i) = 0 := by
  have hg : goodOf ((l.drop j).drop (i - j)) = none := by
    cases h : goodOf (l.drop j) with
    | none => rw [uniOf, h] at h2; simp only at h2; omega
    | some q =>
      obtain ⟨p, m⟩ := q
      rw [uniOf, h] at h2
      exact good_cont h (i - j) (by omega) (by simp only at h2; omega)
  rw [List.drop_drop, show j + (i - j) = i by omega] at hg
  rw [wszOf, hg]
theorem clean_next {l : List UInt8} {j : Nat} (h : clean l j) : clean l (j + (uniOf (l.drop j)).2) := by
  intro i hi
  rcases Nat.lt_trichotomy i j with q | q | q
  · have := h i q; omega
  · subst q; rcases uni_wsz (l.drop i) with h' | h' <;> omega
  · rw [inside q hi]; omega
theorem edgeFrom_iff (l : List UInt8) (k : Nat) : ∀ n j, edgeFrom l k n j = true ↔ ∀ i, j ≤ i → i < j + n → i + wszOf (l.drop i) ≤ k := by
  intro n
  induction n with
  | zero => intro j; exact ⟨fun _ i h1 h2 => by omega, fun _ => rfl⟩
  | succ n ih =>
    intro j
    rw [edgeFrom]
    split
    · rename_i h
      constructor
      · intro q; cases q
      · intro q; have := q j (Nat.le_refl _) (by omega); omega
    · rename_i h
      rw [ih]
      constructor
      · intro q i h1 h2
        by_cases e : i = j
        · subst e; omega
        · exact q i (by omega) (by omega)
      · intro q i h1 h2; exact q i (by omega) (by omega)
theorem edge_clean {l : List UInt8} {k : Nat} (h : clean l k) : edgeL l k = true := (edgeFrom_iff l k _ _).2 (fun i h1 h2 => h i (by omega))
theorem edge_not {l : List UInt8} {j k : Nat} (h1 : j < k) (h2 : k < j + (uniOf (l.drop j)).2) (h4 : (uniOf (l.drop j)).2 ≤ 4) : edgeL l k = false := by
  cases h : edgeL l k with
  | false => rfl
  | true =>
    have := (edgeFrom_iff l k _ _).1 h j (by omega) (by omega)
    rcases uni_wsz (l.drop j) with q | q <;> omega
/-- The unit from a place on. -/
def unitU (l : List UInt8) (k : Nat) : Int × Nat × Nat := ((uniOf (l.drop k)).1, k, k + (uniOf (l.drop k)).2)
theorem drop_size (l : List UInt8) (k : Nat) (h : k < l.length) : 1 ≤ (uniOf (l.drop k)).2 ∧ k + (uniOf (l.drop k)).2 ≤ l.length ∧ (uniOf (l.drop k)).2 ≤ 4 := by
  cases h' : l.drop k with
  | nil => have := congrArg List.length h'; rw [List.length_drop] at this; simp at this; omega
  | cons a r =>
    have hl := congrArg List.length h'
    rw [List.length_drop, List.length_cons] at hl
    have := uni_size a r
    omega
theorem starts_ge (l : List UInt8) : ∀ (d j : Nat), l.length - j ≤ d → ∀ u ∈ unitsAt l j, j ≤ u.2.1 ∧ u.2.1 < l.length ∧ j < u.2.2 := by
  intro d
  induction d with
  | zero => intro j h u hu; rw [unitsAt_end l j (by omega)] at hu; simp at hu
  | succ d ih =>
    intro j h u hu
    by_cases hj : j < l.length
    · have hs := drop_size l j hj
      rw [unitsAt_step l j hj] at hu
      rcases List.mem_cons.1 hu with rfl | hu
      · simp only; omega
      · have := ih _ (by omega) u hu; omega
    · rw [unitsAt_end l j (by omega)] at hu; simp at hu
/-- The unit that begins at a place, in the list. -/
theorem find_start (l : List UInt8) (k : Nat) (hk : k < l.length) : ∀ (d j : Nat), l.length - j ≤ d → j ≤ k → clean l j → (unitsAt l j).find? (fun u => u.2.1 == k) = if edgeL l k then some (unitU l k) else none := by
  intro d
  induction d with
  | zero => intro j h hj; omega
  | succ d ih =>
    intro j h hjk hc
    have hs := drop_size l j (by omega)
    rw [unitsAt_step l j (by omega)]
    by_cases e : j = k
    · subst e
      rw [List.find?_cons_of_pos (by simp), edge_clean hc]
      rfl
    · rw [List.find?_cons_of_neg (by simpa using e)]
      by_cases hb : k < j + (uniOf (l.drop j)).2
      · rw [edge_not (by omega) hb hs.2.2]
        rw [List.find?_eq_none.2 (fun u hu => by have := starts_ge l _ _ (Nat.le_refl _) u hu; simp; omega)]
        rfl
      · exact ih _ (by omega) (by omega) (clean_next hc)
/-- The place at which the unit begins that ends here. -/
def prevFrom (l : List UInt8) (k : Nat) : Nat → Nat → Nat
  | 0, _ => k - 1
  | n + 1, j => if j + wszOf (l.drop j) = k then j else prevFrom l k n (j + 1)
def prevL (l : List UInt8) (k : Nat) : Nat := prevFrom l k (k - 1 - (k - 4)) (k - 4)
theorem prevFrom_at (l : List UInt8) (k b : Nat) : ∀ n j, (∀ i, j ≤ i → i < j + n → (i + wszOf (l.drop i) = k ↔ i = b)) → (b = k - 1 ∨ (j ≤ b ∧ b < j + n)) → (b = k - 1 → j + n ≤ b) → prevFrom l k n j = b := by
  intro n
  induction n with
  | zero =>
    intro j _ h _
    rw [prevFrom]
    rcases h with h | h <;> omega
  | succ n ih =>
    intro j hi hb hq
    rw [prevFrom]
    have h0 := hi j (Nat.le_refl _) (by omega)
    by_cases e : j = b
    · subst e; rw [if_pos (h0.2 rfl)]
    · rw [if_neg (fun q => e (h0.1 q))]
      refine ih (j + 1) (fun i h1 h2 => hi i (by omega) (by omega)) ?_ (fun q => by have := hq q; omega)
      rcases hb with h | h
      · exact .inl h
      · exact .inr (by omega)
/-- A unit of more than one byte is a sequence. -/
theorem prev_is {l : List UInt8} {b k : Nat} (hc : clean l b) (hb : b < l.length) (hk : k = b + (uniOf (l.drop b)).2) : prevL l k = b := by
  have hs := drop_size l b hb
  refine prevFrom_at l k b _ _ (fun i h1 h2 => ?_) ?_ (fun q => by omega)
  · constructor
    · intro h
      rcases Nat.lt_trichotomy i b with q | q | q
      · have := hc i q; omega
      · exact q
      · have := inside (l := l) q (by omega); omega
    · rintro rfl
      rcases uni_wsz (l.drop i) with q | q <;> omega
  · by_cases e : b = k - 1
    · exact .inl e
    · exact .inr (by omega)
/-- The unit that ends at a place, in the list. -/
theorem find_end (l : List UInt8) (k : Nat) (hk : k ≤ l.length) : ∀ (d j : Nat), l.length - j ≤ d → j < k → clean l j → (unitsAt l j).find? (fun u => u.2.2 == k) = if edgeL l k then some (unitU l (prevL l k)) else none := by
  intro d
  induction d with
  | zero => intro j h hj; omega
  | succ d ih =>
    intro j h hjk hc
    have hs := drop_size l j (by omega)
    rw [unitsAt_step l j (by omega)]
    by_cases e : j + (uniOf (l.drop j)).2 = k
    · rw [List.find?_cons_of_pos (by simpa using e), edge_clean (by rw [← e]; exact clean_next hc), prev_is hc (by omega) e.symm]
      rfl
    · rw [List.find?_cons_of_neg (by simpa using e)]
      by_cases hb : k < j + (uniOf (l.drop j)).2
      · rw [edge_not (by omega) hb hs.2.2]
        rw [List.find?_eq_none.2 (fun u hu => by have := starts_ge l _ _ (Nat.le_refl _) u hu; simp; omega)]
        rfl
      · exact ih _ (by omega) (by omega) (clean_next hc)
theorem next_find (l : List UInt8) (k : Nat) (hk : k < l.length) : (unitsOf l).find? (fun u => u.2.1 == k) = if edgeL l k then some (unitU l k) else none := find_start l k hk _ 0 (Nat.le_refl _) (Nat.zero_le _) (clean_zero l)
theorem prev_find (l : List UInt8) (k : Nat) (h0 : 0 < k) (hk : k ≤ l.length) : (unitsOf l).find? (fun u => u.2.2 == k) = if edgeL l k then some (unitU l (prevL l k)) else none := find_end l k hk _ 0 (Nat.le_refl _) h0 (clean_zero l)
end Go.Proofs.YtlnejmmhhmmomaaGreatDoor
namespace Go.Proofs.YtlnejmmhhmmomaaGreatDoor
open Go.RowKit Go.Shelf Go.Lib
/-- What checkEntry answers: the number of the refusal. -/
def entF (l : List UInt8) : Option Nat := if (unitsOf l).any (fun u => u.1 == -1) = true then some 1 else if (unitsOf l).length = 0 then some 1 else if 32 < (unitsOf l).length then some 2 else none
theorem units_len (l : List UInt8) : ∀ (d k : Nat), l.length - k ≤ d → (unitsAt l k).length ≤ l.length - k
  | 0, k, h => by rw [unitsAt_end l k (by omega)]; simp
  | d + 1, k, h => by
    by_cases hk : k < l.length
    · have h1 := drop_size l k hk
      have ih := units_len l d (k + (uniOf (l.drop k)).2) (by omega)
      rw [unitsAt_step l k hk, List.length_cons]
      omega
    · rw [unitsAt_end l k (by omega)]; simp
set_option maxRecDepth 10000 in
set_option maxHeartbeats 400000 in
theorem next_end (s : ByteArray) (k : Nat) (h : (s.size : Int) ≤ (k : Int)) (w : World) :
    Calls Tryz.prog 84 #[.string s, .int .i64 (k : Int)] w fun e w' => e = .returned (.tuple #[noUnit, .bool false]) ∧ Below w.heap.size w w' := by
  go_enter Tryz.func84, Tryz.ntmps84
  go_wp2
  go_returns
  exact ⟨rfl, by go_grown⟩
/-- The loop's state: the unit at k lies at g; n units are ahead of it, none of them bad. -/
structure Ent (w W : World) (l : List UInt8) (g k n : Nat) (v0 v1 v2 : Int) : Prop where
  bel : Below w.heap.size w W
  row : W.heap[g]? = some (.cells #[.int .i64 v0, .int .i64 v1, .int .i64 v2] 88 (0, 0))
  lo : w.heap.size ≤ g
  cl : clean l k
  kl : k ≤ l.length
  cnt : ∃ pre, unitsOf l = pre ++ unitsAt l k ∧ pre.length = n ∧ ∀ u ∈ pre, u.1 ≠ -1
theorem cnt_next {l : List UInt8} {k n : Nat} (hk : k < l.length) (hb : (uniOf (l.drop k)).1 ≠ -1) (h : ∃ pre, unitsOf l = pre ++ unitsAt l k ∧ pre.length = n ∧ ∀ u ∈ pre, u.1 ≠ -1) :
    (∃ pre, unitsOf l = pre ++ unitsAt l (k + (uniOf (l.drop k)).2) ∧ pre.length = n + 1 ∧ ∀ u ∈ pre, u.1 ≠ -1) ∧ n + 1 ≤ l.length := by
  obtain ⟨pre, h1, h2, h3⟩ := h
  rw [unitsAt_step l k hk] at h1
  have hl := units_len l l.length 0 (by omega)
  have hl2 : (unitsOf l).length ≤ l.length := hl
  rw [h1, List.length_append, List.length_cons] at hl2
  refine ⟨⟨pre ++ [((uniOf (l.drop k)).1, k, k + (uniOf (l.drop k)).2)], by rw [h1]; simp, by simp [h2], fun u hu => ?_⟩, by omega⟩
  rcases List.mem_append.1 hu with hu | hu
  · exact h3 u hu
  · rw [List.mem_singleton.1 hu]; exact hb
theorem ent_bad {l : List UInt8} {k n : Nat} (hk : k < l.length) (hb : (uniOf (l.drop k)).1 = -1) (h : ∃ pre, unitsOf l = pre ++ unitsAt l k ∧ pre.length = n ∧ ∀ u ∈ pre, u.1 ≠ -1) : entF l = some 1 := by
  obtain ⟨pre, h1, _, _⟩ := h
  rw [unitsAt_step l k hk] at h1
  unfold entF
  rw [if_pos]
  rw [List.any_eq_true]
  exact ⟨((uniOf (l.drop k)).1, k, k + (uniOf (l.drop k)).2), by rw [h1]; simp, by simp [hb]⟩
theorem ent_end {l : List UInt8} {k n : Nat} (hk : ¬ k < l.length) (h : ∃ pre, unitsOf l = pre ++ unitsAt l k ∧ pre.length = n ∧ ∀ u ∈ pre, u.1 ≠ -1) : entF l = if n = 0 then some 1 else if 32 < n then some 2 else none := by
  obtain ⟨pre, h1, h2, h3⟩ := h
  rw [unitsAt_end l k (by omega), List.append_nil] at h1
  unfold entF
  rw [h1, h2, if_neg]
  rw [List.any_eq_true]
  rintro ⟨u, hu, e⟩
  exact h3 u hu (by simpa using e)
theorem set3_below {w W : World} {g : Nat} (h : Below w.heap.size w W) (hg : w.heap.size ≤ g) (a b c : Value) : Below w.heap.size w (((W.setCell ⟨g, 0, none⟩ a).setCell ⟨g, 1, none⟩ b).setCell ⟨g, 2, none⟩ c) := ((h.setCell (p := ⟨g, 0, none⟩) hg a).setCell (p := ⟨g, 1, none⟩) hg b).setCell (p := ⟨g, 2, none⟩) hg c
set_option maxRecDepth 10000 in
set_option maxHeartbeats 3200000 in
theorem entry_any (A : Nat → Addr) (s : ByteArray) (w : World) (hs : s.size ≤ 140737488355328) (hT : SeqAt w) (he : Sents w A) :
    Calls Tryz.prog 57 #[.string s] w fun e w' => e = .returned (errO A (entF s.data.toList)) ∧ Below w.heap.size w w' := by
  obtain ⟨l, hl⟩ : ∃ l, l = s.data.toList := ⟨_, rfl⟩
  have hll : l.length = s.size := by rw [hl]; simp
  have HIn : Hid (∀ k W, clean l k → k < l.length → Below w.heap.size w W → Calls Tryz.prog 84 #[.string s, .int .i64 (k : Int)] W fun e w' => e = .returned (.tuple #[unitVal (uniOf (l.drop k)).1 k (k + (uniOf (l.drop k)).2), .bool true]) ∧ Below W.heap.size W w') := hid0 (fun k W hc hk hW => by
    have h0 := next_in s k (by omega) hs W (hT.later hW)
    rw [← hl, nextVal, edge_clean hc, if_pos rfl] at h0
    exact h0)
  have HOut : Hid (∀ k W, l.length ≤ k → Calls Tryz.prog 84 #[.string s, .int .i64 (k : Int)] W fun e w' => e = .returned (.tuple #[noUnit, .bool false]) ∧ Below W.heap.size W w') := hid0 (fun k W hk => next_end s k (by omega) W)
  have HEr : Hid (∀ W, Below w.heap.size w W → W.cell? ⟨2, 0, none⟩ = some (.iface 185 (.pointer (some (A 1)))) ∧ W.cell? ⟨0, 0, none⟩ = some (.iface 185 (.pointer (some (A 2))))) := hid0 (fun W hW => ⟨(he.below hW).c1, (he.below hW).c2⟩)
  have HB0 := hid0 (Below.refl w.heap.size w)
  rw [← hl]
  have hlb : l.length ≤ 140737488355328 := by omega
  clear hT he hl hll
  -- what the first call answers
  have HF : Hid (∃ v0 v1 v2 : Int, Calls Tryz.prog 84 #[.string s, .int .i64 0] w (fun e w' => e = .returned (.tuple #[.agg #[.int .i64 v0, .int .i64 v1, .int .i64 v2], .bool (decide (0 < l.length))]) ∧ Below w.heap.size w w') ∧ (0 < l.length → v0 = (uniOf (l.drop 0)).1 ∧ v2 = ((0 + (uniOf (l.drop 0)).2 : Nat) : Int))) := hid0 (by
    by_cases h : 0 < l.length
    · refine ⟨_, _, _, by rw [decide_eq_true h]; exact HIn.out 0 w (clean_zero l) h HB0.out, fun _ => ⟨rfl, rfl⟩⟩
    · refine ⟨_, _, _, by rw [decide_eq_false h]; exact HOut.out 0 w (by omega), fun h' => absurd h' h⟩)
  obtain ⟨v0, v1, v2, hF, hv⟩ := HF.out
  have HF1 := hid0 hF
  have HV1 := hid0 hv
  clear HF hF hv
  go_enter Tryz.func57, Tryz.ntmps57
  go_wp2_with (first
    | (go_at_call 84; refine HF1.out.mono ?_; rintro e w1 ⟨rfl, hb1⟩; have HB1 := hid0 hb1; clear hb1)
    | fail)
  have HE1 : Hid (Ent w (w1.alloc (.cells #[.int .i64 v0, .int .i64 v1, .int .i64 v2] 88)) l w1.heap.size 0 0 v0 v1 v2) := hid0 ⟨HB1.out.alloc HB1.out.size _, heap_alloc_new w1 _, HB1.out.size, clean_zero l, Nat.zero_le _, ⟨[], rfl, rfl, fun u h => by simp at h⟩⟩
  go_loopw [3, 4, 5] (fun t3 t4 t5 wr => ∃ (n k g : Nat) (v0 v1 v2 : Int), t3 = .int .i64 (n : Int) ∧ t4 = .pointer (some ⟨g, 0, none⟩) ∧ t5 = .bool (decide (k < l.length)) ∧ n ≤ l.length ∧ Hid (k < l.length → v0 = (uniOf (l.drop k)).1 ∧ v2 = ((k + (uniOf (l.drop k)).2 : Nat) : Int)) ∧ Hid (Ent w wr l g k n v0 v1 v2)) (fun t3 _ _ _ => l.length + 1 - (intOf t3).toNat)
  case atStart => exact ⟨0, 0, _, _, _, _, rfl, rfl, rfl, Nat.zero_le _, HV1, HE1⟩
  case round =>
    clear HE1 HB1 HF1 HV1
    obtain ⟨n, k, g, v0, v1, v2, rfl, rfl, rfl, hn, HV, HE⟩ := hrel
    obtain ⟨⟨c0, c1, c2⟩, f0, f1, f2⟩ := row3 HE.out.row
    obtain ⟨e1, e2⟩ := HEr.out wr HE.out.bel
    by_cases hk : k < l.length
    · rw [decide_eq_true hk]
      obtain ⟨rfl, rfl⟩ := HV.out hk
      have HD := hid0 (drop_size l k hk)
      by_cases hbad : (uniOf (l.drop k)).1 = -1
      · have HR := hid0 (ent_bad hk hbad HE.out.cnt)
        rw [hbad] at c0
        clear HD
        go_wp2
        go_ret
        exact ⟨by rw [HR.out]; rfl, HE.out.bel⟩
      · have HC := hid0 (cnt_next hk hbad HE.out.cnt)
        have hn2 := HC.out.2
        have HCl := hid0 (clean_next HE.out.cl)
        have hkl := HD.out.2.1
        have HW : Hid (Below w.heap.size w (wr.alloc (.cells #[.int .i64 (uniOf (l.drop k)).1, .int .i64 v1, .int .i64 ((k + (uniOf (l.drop k)).2 : Nat) : Int)] 88))) := hid0 (HE.out.bel.alloc HE.out.bel.size _)
        have HNx : Hid (∃ y0 y1 y2 : Int, Calls Tryz.prog 84 #[.string s, .int .i64 ((k + (uniOf (l.drop k)).2 : Nat) : Int)] (wr.alloc (.cells #[.int .i64 (uniOf (l.drop k)).1, .int .i64 v1, .int .i64 ((k + (uniOf (l.drop k)).2 : Nat) : Int)] 88)) (fun e w' => e = .returned (.tuple #[.agg #[.int .i64 y0, .int .i64 y1, .int .i64 y2], .bool (decide (k + (uniOf (l.drop k)).2 < l.length))]) ∧ Below (wr.alloc (.cells #[.int .i64 (uniOf (l.drop k)).1, .int .i64 v1, .int .i64 ((k + (uniOf (l.drop k)).2 : Nat) : Int)] 88)).heap.size (wr.alloc (.cells #[.int .i64 (uniOf (l.drop k)).1, .int .i64 v1, .int .i64 ((k + (uniOf (l.drop k)).2 : Nat) : Int)] 88)) w') ∧ (k + (uniOf (l.drop k)).2 < l.length → y0 = (uniOf (l.drop (k + (uniOf (l.drop k)).2))).1 ∧ y2 = ((k + (uniOf (l.drop k)).2 + (uniOf (l.drop (k + (uniOf (l.drop k)).2))).2 : Nat) : Int))) := hid0 (by
          by_cases h : k + (uniOf (l.drop k)).2 < l.length
          · exact ⟨_, _, _, by rw [decide_eq_true h]; exact HIn.out _ _ HCl.out h HW.out, fun _ => ⟨rfl, rfl⟩⟩
          · exact ⟨_, _, _, by rw [decide_eq_false h]; exact HOut.out _ _ (by omega), fun h' => absurd h' h⟩)
        obtain ⟨y0, y1, y2, hq, hy⟩ := HNx.out
        have HQ := hid0 hq
        have HY := hid0 hy
        clear HNx hq hy HIn HOut HV
        generalize hk2 : k + (uniOf (l.drop k)).2 = k2 at *
        generalize (uniOf (l.drop k)).1 = p at *
        clear HD hk2
        go_wp2_with (first
          | (go_at_call 84; refine HQ.out.mono ?_; rintro e w5 ⟨rfl, hb5⟩; have HR5 := hid0 (boxRow hb5); have HB5 := hid0 (HW.out.trans (hb5.mono HW.out.size)); obtain ⟨⟨d0, d1, d2⟩, g0, g1, g2⟩ := row3 HR5.out; clear hb5)
          | fail)
        have HE6 := hid0 (Ent.mk (set3_below HB5.out HE.out.bel.size (.int .i64 y0) (.int .i64 y1) (.int .i64 y2)) (set3 (.int .i64 y0) (.int .i64 y1) (.int .i64 y2) HR5.out) HE.out.bel.size HCl.out hkl HC.out.1)
        go_roundw
        case rel => exact ⟨n + 1, k2, wr.heap.size, y0, y1, y2, by go_num, rfl, rfl, hn2, HY, HE6⟩
        case measure => simp [intOf]; omega
    · rw [decide_eq_false hk]
      have HR := hid0 (ent_end hk HE.out.cnt)
      by_cases h0 : n = 0
      · have h0I : (n : Int) = 0 := by omega
        rw [h0] at HR
        simp only [if_true] at HR
        go_wp2
        go_ret
        exact ⟨by rw [HR.out]; rfl, HE.out.bel⟩
      · have h0I : ¬ (n : Int) = 0 := by omega
        rw [if_neg h0] at HR
        by_cases h3 : 32 < n
        · have h3I : (32 : Int) < (n : Int) := by omega
          rw [if_pos h3] at HR
          go_wp2
          go_ret
          exact ⟨by rw [HR.out]; rfl, HE.out.bel⟩
        · have h3I : ¬ (32 : Int) < (n : Int) := by omega
          rw [if_neg h3] at HR
          go_wp2
          go_ret
          exact ⟨by rw [HR.out]; rfl, HE.out.bel⟩
end Go.Proofs.YtlnejmmhhmmomaaGreatDoor
namespace Go.Proofs.YtlnejmmhhmmomaaGreatDoor
open Go.Lib
/-- A rune in its small form. -/
def fS (x : Int) : Int := if 65 ≤ x ∧ x ≤ 90 then x + 32 else x
/-- No letter. -/
def notL (x : Nat) : Bool := !(decide (97 ≤ x) && decide (x ≤ 122)) && !(decide (65 ≤ x) && decide (x ≤ 90))
def smL (p : List UInt8) : List UInt8 := mapD fS p
theorem fS_range (x : Nat) (hx : x ≤ 1114111) : 0 ≤ fS x ∧ fS x ≤ 2147483647 := by
  unfold fS
  split <;> omega
set_option maxRecDepth 100000 in
theorem small_byte : ∀ i : Fin 128, encodeRune (fS (i.val : Int)) = [lowerB (UInt8.ofNat i.val)] := by decide
theorem smL_ascii : ∀ (l : List UInt8), (∀ b ∈ l, b.toNat < 128) → smL l = l.map lowerB
  | [], _ => rfl
  | b :: t, ha => by
    have hb := ha b List.mem_cons_self
    have ih := smL_ascii t (fun x hx => ha x (List.mem_cons_of_mem _ hx))
    unfold smL at ih ⊢
    rw [mapD_step fS (b :: t) (by simp), decodeL_ascii b t hb]
    dsimp only
    rw [if_pos (fS_range b.toNat (by omega)).1, small_byte ⟨b.toNat, hb⟩, List.drop_succ_cons, List.drop_zero, ih]
    simp
theorem enc_high (r : Int) (h : 128 ≤ r) : ∃ x ∈ encodeRune r, 128 ≤ x.toNat := by
  have e : ∃ z ∈ encodeRuneZ r, 128 ≤ z ∧ z < 256 := by
    unfold encodeRuneZ
    split
    · omega
    · split
      · exact ⟨128 + r % 64, by simp, by omega, by omega⟩
      · split
        · exact ⟨128 + r % 64, by simp, by omega, by omega⟩
        · split
          · exact ⟨128 + r % 64, by simp, by omega, by omega⟩
          · exact ⟨189, by simp, by omega, by omega⟩
  obtain ⟨z, hz, h1, h2⟩ := e
  refine ⟨z.toNat.toUInt8, List.mem_map.2 ⟨z, hz, rfl⟩, ?_⟩
  have : z.toNat.toUInt8.toNat = z.toNat := by
    simp
    omega
  omega
theorem enc_len (r : Int) : (encodeRune r).length ≤ 4 := by
  unfold encodeRune encodeRuneZ
  (repeat' split) <;> simp
theorem decodeL_high (b : UInt8) (t : List UInt8) (h : 128 ≤ b.toNat) : 128 ≤ (decodeL (b :: t)).1 := by
  have := (decode_high ⟨(b :: t).toArray⟩ 0 (by simp [ByteArray.size]) h).1
  exact this
theorem smL_high : ∀ (n : Nat) (l : List UInt8), l.length ≤ n → (∃ b ∈ l, 128 ≤ b.toNat) → ∃ x ∈ smL l, 128 ≤ x.toNat
  | 0, l, hl, ⟨b, hb, _⟩ => by
    have : l = [] := List.length_eq_zero_iff.1 (by omega)
    subst this
    simp at hb
  | n + 1, [], _, ⟨b, hb, _⟩ => by simp at hb
  | n + 1, b :: t, hl, ⟨c, hc, h⟩ => by
    unfold smL
    rw [mapD_step fS (b :: t) (by simp)]
    by_cases hb : b.toNat < 128
    · rw [decodeL_ascii b t hb]
      dsimp only
      rcases List.mem_cons.1 hc with rfl | hc
      · omega
      · obtain ⟨x, hx, h2⟩ := smL_high n t (by simpa using hl) ⟨c, hc, h⟩
        rw [List.drop_succ_cons, List.drop_zero]
        exact ⟨x, List.mem_append_right _ hx, h2⟩
    · have hr := decodeL_high b t (by omega)
      have hf : fS ((decodeL (b :: t)).1 : Int) = ((decodeL (b :: t)).1 : Int) := by unfold fS; rw [if_neg (by omega)]
      rw [hf, if_pos (by omega)]
      obtain ⟨x, hx, h2⟩ := enc_high ((decodeL (b :: t)).1 : Int) (by omega)
      exact ⟨x, List.mem_append_left _ hx, h2⟩
theorem smL_len : ∀ (n : Nat) (l : List UInt8), l.length ≤ n → (smL l).length ≤ 4 * l.length
  | 0, l, hl => by
    have : l = [] := List.length_eq_zero_iff.1 (by omega)
    subst this
    simp [smL, mapD, mapGoD]
  | n + 1, [], _ => by simp [smL, mapD, mapGoD]
  | n + 1, b :: t, hl => by
    have hw := decodeL_width (b :: t)
    have hd : ((b :: t).drop (decodeL (b :: t)).2).length ≤ n := by simp at hl ⊢; omega
    have ih := smL_len n _ hd
    unfold smL at ih ⊢
    rw [mapD_step fS (b :: t) (by simp), List.length_append]
    have h4 : (if 0 ≤ fS ((decodeL (b :: t)).1 : Int) then encodeRune (fS ((decodeL (b :: t)).1 : Int)) else []).length ≤ 4 := by
      split
      · exact enc_len _
      · simp
    rw [List.length_drop] at ih
    simp at ih ⊢
    omega
theorem notL_of (b : UInt8) : notL b.toNat = !(isL b) := by
  unfold notL isL isUp isLo
  rw [Bool.not_or, Bool.and_comm]
theorem idx_letters (s : ByteArray) (h : s.data.toList.all isL = true) : ∀ (f pos : Nat), idxFuncFrom notL true s f pos = -1
  | 0, _ => rfl
  | f + 1, pos => by
    unfold idxFuncFrom
    split
    · rename_i hp
      have hb : isL s[pos] = true := List.all_eq_true.1 h _ (by
        have : s.data.toList[pos]? = some s[pos] := by rw [List.getElem?_eq_getElem (by simpa using hp)]; rfl
        exact List.mem_of_getElem? this)
      have ha : (s[pos]'hp).toNat < 128 := fine_ascii _ (by simp [fine, isN, hb])
      rw [decode_ascii s pos hp ha]
      simp only [notL_of, hb, Bool.not_true, Bool.false_eq_true, if_false]
      exact idx_letters s h f _
    · rfl
theorem idx_none (s : ByteArray) : ∀ (f pos : Nat), s.size - pos ≤ f → idxFuncFrom notL true s f pos = -1 → ∀ j (hj : j < s.size), pos ≤ j → isL s[j] = true
  | 0, pos, hf, _, j, hj, hp => by omega
  | f + 1, pos, hf, h, j, hj, hp => by
    unfold idxFuncFrom at h
    have hps : pos < s.size := by omega
    rw [if_pos hps] at h
    by_cases hq : notL (Utf8.decode s pos).1 = true
    · rw [if_pos hq] at h
      omega
    · rw [if_neg hq] at h
      have hq' : notL (Utf8.decode s pos).1 = false := by simpa using hq
      have ha : (s[pos]'hps).toNat < 128 := by
        by_cases hh : (s[pos]'hps).toNat < 128
        · exact hh
        · exfalso
          have h1 := (decode_high s pos hps (by omega)).1
          have : notL (Utf8.decode s pos).1 = true := by
            unfold notL
            simp
            omega
          rw [this] at hq'
          cases hq'
      rw [decode_ascii s pos hps ha] at hq' h
      simp only at hq' h
      by_cases e : j = pos
      · subst e
        rw [notL_of] at hq'
        simpa using hq'
      · exact idx_none s f (pos + 1) (by omega) h j hj (by omega)
theorem contains_letters (s : ByteArray) : decide (0 ≤ idxFunc notL true s) = !(s.data.toList.all isL) := by
  cases hq : s.data.toList.all isL with
  | true =>
    have := idx_letters s hq s.size 0
    unfold idxFunc
    rw [this]
    rfl
  | false =>
    rcases idxFunc_range notL true s with h | ⟨h, _⟩
    · exfalso
      have h1 := idx_none s s.size 0 (by omega) h
      have : s.data.toList.all isL = true := List.all_eq_true.2 (fun b hb => by
        obtain ⟨j, hj, e⟩ := List.getElem_of_mem hb
        have hj' : j < s.size := by simpa using hj
        have := h1 j hj' (Nat.zero_le _)
        rw [← e]
        exact this)
      rw [this] at hq
      cases hq
    · simpa using h
/-- What locale makes of a piece. -/
def pfL (first : Bool) (p : List UInt8) : List UInt8 :=
  if first then smL p else if p.all isL ∧ p.length = 2 then p.map upperB else if p.all isL ∧ p.length = 4 then (p.take 1).map upperB ++ (p.drop 1).map lowerB else smL p
def formL : List (List UInt8) → List (List UInt8)
  | [] => []
  | p :: r => pfL true p :: r.map (pfL false)
theorem N_low {p : List UInt8} (h : ∀ b ∈ p, isN b = true) : smL p = p.map lowerB := smL_ascii p (fun b hb => fine_ascii b (by simp [fine, h b hb]))
theorem pfL_N {p : List UInt8} (h : ∀ b ∈ p, isN b = true) : pfL true p = p.map lowerB ∧ pfL false p = formP p := by
  refine ⟨by rw [pfL, if_pos rfl]; exact N_low h, ?_⟩
  rw [pfL, if_neg (by simp), formP, N_low h]
  by_cases h2 : p.all isL = true ∧ p.length = 2
  · rw [if_pos h2, if_neg (by omega), if_pos h2]
  · rw [if_neg h2, if_neg h2]
theorem formL_N {ps : List (List UInt8)} (h : ∀ p ∈ ps, ∀ b ∈ p, isN b = true) : formL ps = canonP ps := by
  cases ps with
  | nil => rfl
  | cons p r =>
    simp only [formL, canonP]
    rw [(pfL_N (h p (by simp))).1]
    congr 1
    exact List.map_congr_left (fun q hq => (pfL_N (h q (by simp [hq]))).2)
theorem smL_bad {p : List UInt8} {b : UInt8} (hb : b ∈ p) (h : fine b = false) : ∃ x ∈ smL p, fine x = false := by
  by_cases ha : ∀ c ∈ p, c.toNat < 128
  · rw [smL_ascii p ha]
    exact ⟨lowerB b, List.mem_map.2 ⟨b, hb, rfl⟩, by rw [fine_lo]; exact h⟩
  · have : ∃ c ∈ p, 128 ≤ c.toNat := by
      apply Classical.byContradiction
      intro hn
      exact ha (fun c hc => by
        apply Classical.byContradiction
        intro h2
        exact hn ⟨c, hc, by omega⟩)
    obtain ⟨x, hx, h2⟩ := smL_high p.length p (Nat.le_refl _) this
    refine ⟨x, hx, ?_⟩
    rw [Bool.eq_false_iff]
    intro hf
    have := fine_ascii x hf
    omega
theorem pfL_bad {p : List UInt8} {b : UInt8} (first : Bool) (hb : b ∈ p) (h : fine b = false) : ∃ x ∈ pfL first p, fine x = false := by
  have hl : ¬ p.all isL = true := fun ha => by
    have := List.all_eq_true.1 ha b hb
    simp [fine, isN, this] at h
  unfold pfL
  split
  · exact smL_bad hb h
  · rw [if_neg (fun e => hl e.1), if_neg (fun e => hl e.1)]
    exact smL_bad hb h
theorem mem_join {ps : List (List UInt8)} {p : List UInt8} {x : UInt8} (hp : p ∈ ps) (hx : x ∈ p) : x ∈ joinU ps := by
  induction ps with
  | nil => simp at hp
  | cons q r ih =>
    cases r with
    | nil =>
      rw [joinU_one]
      rcases List.mem_cons.1 hp with rfl | h
      · exact hx
      · simp at h
    | cons q2 r =>
      rw [joinU_cons]
      rcases List.mem_cons.1 hp with rfl | h
      · exact List.mem_append_left _ hx
      · exact List.mem_append_right _ (List.mem_cons_of_mem _ (ih h))
theorem mem_pieces : ∀ (s : List UInt8) (b : UInt8), b ∈ s → isSep b = false → ∃ p ∈ pieces s, b ∈ p
  | [], b, hb, _ => by simp at hb
  | c :: r, b, hb, hs => by
    unfold pieces
    rcases List.mem_cons.1 hb with rfl | hb
    · rw [if_neg (by simp [hs])]
      cases hq : pieces r with
      | nil => exact absurd hq (pieces_ne r)
      | cons q qs => exact ⟨b :: q, by simp, by simp⟩
    · obtain ⟨p, hp, h2⟩ := mem_pieces r b hb hs
      split
      · exact ⟨p, by simp [hp], h2⟩
      · cases hq : pieces r with
        | nil => exact absurd hq (pieces_ne r)
        | cons q qs =>
          rw [hq] at hp
          rcases List.mem_cons.1 hp with rfl | hp
          · exact ⟨c :: p, by simp, by simp [h2]⟩
          · exact ⟨p, by simp [hp], h2⟩
theorem formL_mem {ps : List (List UInt8)} {p : List UInt8} (hp : p ∈ ps) : ∃ first, pfL first p ∈ formL ps := by
  cases ps with
  | nil => simp at hp
  | cons q r =>
    rcases List.mem_cons.1 hp with rfl | hp
    · exact ⟨true, by simp [formL]⟩
    · exact ⟨false, by simp [formL]; exact .inr ⟨p, hp, rfl⟩⟩
/-- What locale makes of a text is a tag in its one form, just if the text is a tag; then it is that. -/
theorem locale_form (t : List UInt8) (ht : t.length ≤ 64) : (tagF t = none → tagF (joinU (formL (pieces t))) ≠ some (joinU (formL (pieces t)))) ∧ (∀ c, tagF t = some c → joinU (formL (pieces t)) = c ∧ tagF c = some c) := by
  by_cases hf : ∀ b ∈ t, fine b = true
  · have e := formL_N (pieces_of_fine t hf)
    rw [e]
    have h1 := tagF_form hf ht
    refine ⟨fun h2 => ?_, fun c h2 => ?_⟩
    · rw [h1]
      unfold tagF at h2
      split at h2
      · cases h2
      · rename_i h3
        rw [if_neg (fun hv => h3 ⟨ht, hv⟩)]
        simp
    · unfold tagF at h2
      split at h2
      · rename_i h3
        have h4 := Option.some.inj h2
        refine ⟨h4, ?_⟩
        rw [← h4, h1, if_pos h3.2]
      · cases h2
  · have : ∃ b ∈ t, fine b = false := by
      apply Classical.byContradiction
      intro hn
      exact hf (fun b hb => by
        cases hq : fine b with
        | true => rfl
        | false => exact absurd ⟨b, hb, hq⟩ hn)
    obtain ⟨b, hb, h⟩ := this
    have hs : isSep b = false := by
      cases hq : isSep b with
      | false => rfl
      | true => simp [fine, hq] at h
    obtain ⟨p, hp, h2⟩ := mem_pieces t b hb hs
    obtain ⟨first, h3⟩ := formL_mem hp
    obtain ⟨x, hx, h4⟩ := pfL_bad first h2 h
    have h5 := tagF_bad (mem_join h3 hx) h4
    refine ⟨fun _ => by rw [h5]; simp, fun c hc => ?_⟩
    rw [tagF_bad hb h] at hc
    cases hc
end Go.Proofs.YtlnejmmhhmmomaaGreatDoor
namespace Go.Proofs.YtlnejmmhhmmomaaGreatDoor
open Go.RowKit Go.Shelf Go.Lib
set_option maxRecDepth 10000 in
set_option maxHeartbeats 400000 in
theorem isSmall_any (x : Nat) (w : World) : Calls Tryz.prog 117 #[.int .i32 (x : Int)] w fun e w' => e = .returned (.bool (decide (97 ≤ x) && decide (x ≤ 122))) ∧ w' = w := by
  by_cases a0 : 97 ≤ x
  · by_cases a1 : x ≤ 122
    · have hb : (decide (97 ≤ x) && decide (x ≤ 122)) = true := by simp [a0, a1]
      rw [hb]
      have h0 : (97 : Int) ≤ (x : Int) := by omega
      have h1 : (x : Int) ≤ 122 := by omega
      clear hb
      go_enter Tryz.func117, Tryz.ntmps117
      go_wp2
      go_ret
      exact ⟨rfl, rfl⟩
    · have hb : (decide (97 ≤ x) && decide (x ≤ 122)) = false := by simp [a1]
      rw [hb]
      have h0 : (97 : Int) ≤ (x : Int) := by omega
      have h1 : ¬ (x : Int) ≤ 122 := by omega
      have h2 : decide ((x : Int) ≤ 122) = false := by simpa using h1
      clear hb
      go_enter Tryz.func117, Tryz.ntmps117
      go_wp2
      go_ret
      exact ⟨rfl, rfl⟩
  · have hb : (decide (97 ≤ x) && decide (x ≤ 122)) = false := by simp [a0]
    rw [hb]
    have h0 : ¬ (97 : Int) ≤ (x : Int) := by omega
    clear hb
    go_enter Tryz.func117, Tryz.ntmps117
    go_wp2
    go_ret
    exact ⟨rfl, rfl⟩
set_option maxRecDepth 10000 in
set_option maxHeartbeats 400000 in
theorem isGreat_any (x : Nat) (w : World) : Calls Tryz.prog 118 #[.int .i32 (x : Int)] w fun e w' => e = .returned (.bool (decide (65 ≤ x) && decide (x ≤ 90))) ∧ w' = w := by
  by_cases a0 : 65 ≤ x
  · by_cases a1 : x ≤ 90
    · have hb : (decide (65 ≤ x) && decide (x ≤ 90)) = true := by simp [a0, a1]
      rw [hb]
      have h0 : (65 : Int) ≤ (x : Int) := by omega
      have h1 : (x : Int) ≤ 90 := by omega
      clear hb
      go_enter Tryz.func118, Tryz.ntmps118
      go_wp2
      go_ret
      exact ⟨rfl, rfl⟩
    · have hb : (decide (65 ≤ x) && decide (x ≤ 90)) = false := by simp [a1]
      rw [hb]
      have h0 : (65 : Int) ≤ (x : Int) := by omega
      have h1 : ¬ (x : Int) ≤ 90 := by omega
      have h2 : decide ((x : Int) ≤ 90) = false := by simpa using h1
      clear hb
      go_enter Tryz.func118, Tryz.ntmps118
      go_wp2
      go_ret
      exact ⟨rfl, rfl⟩
  · have hb : (decide (65 ≤ x) && decide (x ≤ 90)) = false := by simp [a0]
    rw [hb]
    have h0 : ¬ (65 : Int) ≤ (x : Int) := by omega
    clear hb
    go_enter Tryz.func118, Tryz.ntmps118
    go_wp2
    go_ret
    exact ⟨rfl, rfl⟩
set_option maxRecDepth 10000 in
set_option maxHeartbeats 400000 in
theorem small1_any (x : Nat) (hx : x ≤ 1114111) (w : World) : Calls Tryz.prog 120 #[.int .i32 (x : Int)] w fun e w' => e = .returned (.int .i32 (fS x)) ∧ w' = w := by
  have HG := hid0 (isGreat_any x w)
  cases hq : (decide (65 ≤ x) && decide (x ≤ 90)) with
  | true =>
    rw [hq] at HG
    simp only [Bool.and_eq_true, decide_eq_true_eq] at hq
    have hv : fS x = (x : Int) + 32 := by unfold fS; rw [if_pos (by omega)]
    have h1 : IntKind.i32.wrap ((x : Int) - 65) = (x : Int) - 65 := by simp [IntKind.wrap, IntKind.bits, IntKind.signed]; omega
    have h2 : IntKind.i32.wrap ((x : Int) - 65 + 97) = fS x := by rw [hv]; simp [IntKind.wrap, IntKind.bits, IntKind.signed]; omega
    generalize fS x = y at *
    clear hv hq
    go_enter Tryz.func120, Tryz.ntmps120
    go_wp2_with (go_at_call 118; refine HG.out.mono ?_; rintro e w1 ⟨rfl, rfl⟩)
    go_ret
    exact ⟨rfl, rfl⟩
  | false =>
    rw [hq] at HG
    have hv : fS x = (x : Int) := by
      unfold fS
      rw [if_neg]
      intro h
      simp at hq
      omega
    rw [hv]
    clear hv hq
    go_enter Tryz.func120, Tryz.ntmps120
    go_wp2_with (go_at_call 118; refine HG.out.mono ?_; rintro e w1 ⟨rfl, rfl⟩)
    go_ret
    exact ⟨rfl, rfl⟩
set_option maxRecDepth 10000 in
set_option maxHeartbeats 400000 in
theorem letters1_any (x : Nat) (w : World) : Calls Tryz.prog 116 #[.int .i32 (x : Int)] w fun e w' => e = .returned (.bool (notL x)) ∧ w' = w := by
  have HS := hid0 (isSmall_any x w)
  have HG := hid0 (isGreat_any x w)
  unfold notL
  cases hq1 : (decide (97 ≤ x) && decide (x ≤ 122)) with
  | true =>
    rw [hq1] at HS
    clear hq1
    go_enter Tryz.func116, Tryz.ntmps116
    go_wp2_with (first | (go_at_call 117; refine HS.out.mono ?_; rintro e w1 ⟨rfl, rfl⟩) | fail)
    go_ret
    exact ⟨rfl, rfl⟩
  | false =>
    rw [hq1] at HS
    clear hq1
    cases hq2 : (decide (65 ≤ x) && decide (x ≤ 90)) with
    | true =>
      rw [hq2] at HG
      clear hq2
      go_enter Tryz.func116, Tryz.ntmps116
      go_wp2_with (first
        | (go_at_call 117; refine HS.out.mono ?_; rintro e w1 ⟨rfl, rfl⟩)
        | (go_at_call 118; refine HG.out.mono ?_; rintro e w1 ⟨rfl, rfl⟩))
      go_ret
      exact ⟨rfl, rfl⟩
    | false =>
      rw [hq2] at HG
      clear hq2
      go_enter Tryz.func116, Tryz.ntmps116
      go_wp2_with (first
        | (go_at_call 117; refine HS.out.mono ?_; rintro e w1 ⟨rfl, rfl⟩)
        | (go_at_call 118; refine HG.out.mono ?_; rintro e w1 ⟨rfl, rfl⟩))
      go_ret
      exact ⟨rfl, rfl⟩
theorem contains_any (s : ByteArray) (w : World) : Calls Tryz.prog 115 #[.string s, .func (.func 116) #[] #[]] w fun e w' => e = .returned (.bool !(s.data.toList.all isL)) ∧ Below w.heap.size w w' := by
  have h := Any.strings_ContainsFunc Tryz.laysGw17 116 #[] (enters_of Tryz.func116 (by kernel_rfl) rfl) notL s w (fun W x _ => (letters1_any x W).mono (fun e w' h => ⟨h.1, 0, h.2⟩))
  rw [contains_letters] at h
  exact h
set_option maxRecDepth 10000 in
set_option maxHeartbeats 400000 in
theorem isLetters_any (s : ByteArray) (w : World) : Calls Tryz.prog 88 #[.string s] w fun e w' => e = .returned (.bool (s.data.toList.all isL)) ∧ Below w.heap.size w w' := by
  have HC := hid0 (contains_any s w)
  generalize s.data.toList.all isL = q at *
  go_enter Tryz.func88, Tryz.ntmps88
  go_wp2_with (go_at_call 115; refine HC.out.mono ?_; rintro e w1 ⟨rfl, hb⟩)
  go_ret
  exact ⟨by simp, hb⟩
/-- The tables of unicode/utf8. -/
def Tb (w : World) : Prop := Lib.Utf8Tabs 12 13 w
theorem Tb.below {w w' : World} (h : Tb w) (hb : Below w.heap.size w w') : Tb w' :=
  ⟨fun c hc => (hb.cell (World.block_lt_of_cell? _ _ (h.1 c hc))).trans (h.1 c hc), fun i hi => ⟨(hb.cell (World.block_lt_of_cell? _ _ (h.2 i hi).1)).trans (h.2 i hi).1, (hb.cell (World.block_lt_of_cell? _ _ (h.2 i hi).2)).trans (h.2 i hi).2⟩⟩
theorem map_any (s : ByteArray) (hs : s.size ≤ 1000000) (w : World) (hT : Tb w) : Calls Tryz.prog 119 #[.func (.func 120) #[] #[], .string s] w fun e w' => e = .returned (.string ⟨(smL s.data.toList).toArray⟩) ∧ Below w.heap.size w w' :=
  Any.strings_Map_runes Tryz.lays230 ext230 120 #[] (enters_of Tryz.func120 (by kernel_rfl) rfl) fS s w (by omega) (fun W x hx _ => (small1_any x hx W).mono (fun e w' h => ⟨h.1, 0, h.2⟩)) fS_range hT
set_option maxRecDepth 10000 in
set_option maxHeartbeats 400000 in
theorem small_any (p : List UInt8) (hp : p.length ≤ 1000000) (w : World) (hT : Tb w) : Calls Tryz.prog 89 #[.string (strOf p)] w fun e w' => e = .returned (.string (strOf (smL p))) ∧ Below w.heap.size w w' := by
  have h := map_any (strOf p) (by rw [strOf_size]; exact hp) w hT
  rw [strOf_data] at h
  have HC : Hid (Calls Tryz.prog 119 #[.func (.func 120) #[] #[], .string (strOf p)] w fun e w' => e = .returned (.string (strOf (smL p))) ∧ Below w.heap.size w w') := hid0 h
  clear h hT
  generalize strOf (smL p) = Y at *
  generalize strOf p = S at *
  go_enter Tryz.func89, Tryz.ntmps89
  go_wp2_with (go_at_call 119; refine HC.out.mono ?_; rintro e w1 ⟨rfl, hb⟩)
  go_ret
  exact ⟨rfl, hb⟩
end Go.Proofs.YtlnejmmhhmmomaaGreatDoor
namespace Go.Proofs.YtlnejmmhhmmomaaGreatDoor
open Go.RowKit Go.Shelf Go.Lib
theorem L_ascii {p : List UInt8} (h : p.all isL = true) : ∀ b ∈ p, b.toNat < 128 := fun b hb => fine_ascii b (by simp [fine, isN, List.all_eq_true.1 h b hb])
set_option maxRecDepth 10000 in
set_option maxHeartbeats 1600000 in
theorem partFormL_any (p : List UInt8) (first : Bool) (hp : p.length ≤ 64) (w : World) (hT : Tb w) : Calls Tryz.prog 62 #[.string (strOf p), .bool first] w fun e w' => e = .returned (.string (strOf (pfL first p))) ∧ Below w.heap.size w w' := by
  have HQ : Hid (Calls Tryz.prog 88 #[.string (strOf p)] w fun e w' => e = .returned (.bool (p.all isL)) ∧ Below w.heap.size w w') := hid0 (by have h := isLetters_any (strOf p) w; rw [strOf_data] at h; exact h)
  obtain ⟨lo, hlo⟩ : ∃ lo, lo = strOf (smL p) := ⟨_, rfl⟩
  have HS : Hid (∀ W, Below w.heap.size w W → Calls Tryz.prog 89 #[.string (strOf p)] W fun e w' => e = .returned (.string lo) ∧ Below w.heap.size w w') := hid0 (fun W hW => by rw [hlo]; exact (small_any p (by omega) W (hT.below hW)).mono (fun e w' h => ⟨h.1, Below.later hW h.2⟩))
  obtain ⟨Y, hY⟩ : ∃ Y, Y = strOf (pfL first p) := ⟨_, rfl⟩
  rw [← hY]
  have HY := hid0 hY
  have HLO := hid0 hlo
  have hsz : (strOf p).size = p.length := strOf_size p
  clear hY hlo
  cases first with
  | true =>
    have HV : Hid (Y = lo) := hid0 (by rw [HY.out, HLO.out]; rfl)
    generalize p.all isL = q at *
    generalize strOf p = S at *
    clear hT
    go_enter Tryz.func62, Tryz.ntmps62
    go_wp2_with (first
      | (go_at_call 88; refine HQ.out.mono ?_; rintro e w1 ⟨rfl, hb1⟩; have HB1 := hid0 hb1; clear hb1)
      | (go_at_call 89; refine (HS.out _ HB1.out).mono ?_; rintro e w2 ⟨rfl, hb2⟩))
    go_ret
    exact ⟨by rw [HV.out]; rfl, hb2⟩
  | false =>
    cases hq : p.all isL with
    | false =>
      rw [hq] at HQ
      have HV : Hid (Y = lo) := hid0 (by rw [HY.out, HLO.out, pfL, if_neg (by simp), if_neg (fun h => by rw [hq] at h; cases h.1), if_neg (fun h => by rw [hq] at h; cases h.1)])
      generalize strOf p = S at *
      clear hT hq
      go_enter Tryz.func62, Tryz.ntmps62
      go_wp2_with (first
        | (go_at_call 88; refine HQ.out.mono ?_; rintro e w1 ⟨rfl, hb1⟩; have HB1 := hid0 hb1; clear hb1)
        | (go_at_call 89; refine (HS.out _ HB1.out).mono ?_; rintro e w2 ⟨rfl, hb2⟩))
      go_ret
      exact ⟨by rw [HV.out]; rfl, hb2⟩
    | true =>
      rw [hq] at HQ
      by_cases h2 : (p.length : Int) = 2
      · have hb2' : ((p.length : Int) == 2) = true := by simpa using h2
        have HU : Hid (∀ W, Calls Tryz.prog 90 #[.string (strOf p)] W fun e w' => e = .returned (.string Y) ∧ Below W.heap.size W w') := hid0 (fun W => by
          have h := upper_any (strOf p) (by omega) (by rw [strOf_data]; exact L_ascii hq) W
          rw [strOf_data] at h
          rw [HY.out, pfL, if_neg (by simp), if_pos ⟨hq, by omega⟩]
          exact h)
        generalize strOf p = S at *
        clear hT hq
        go_enter Tryz.func62, Tryz.ntmps62
        go_wp2_with (first
          | (go_at_call 88; refine HQ.out.mono ?_; rintro e w1 ⟨rfl, hb1⟩; have HB1 := hid0 hb1; clear hb1)
          | (go_at_call 90; refine (HU.out _).mono ?_; rintro e w2 ⟨rfl, hb2⟩))
        go_ret
        exact ⟨rfl, Below.later HB1.out hb2⟩
      · have hb2' : ((p.length : Int) == 2) = false := by simpa using h2
        by_cases h4 : (p.length : Int) = 4
        · have hb4' : ((p.length : Int) == 4) = true := by simpa using h4
          obtain ⟨B1, hB1⟩ : ∃ B1, B1 = strOf ((p.take 1).map upperB) := ⟨_, rfl⟩
          obtain ⟨B2, hB2⟩ : ∃ B2, B2 = strOf ((p.drop 1).map lowerB) := ⟨_, rfl⟩
          have e1 : (strOf p).extract 0 1 = strOf (p.take 1) := by rw [← strOf_self ((strOf p).extract 0 1), ext_head, strOf_data]
          have e2 : (strOf p).extract 1 p.length = strOf (p.drop 1) := by
            rw [← strOf_self ((strOf p).extract 1 p.length)]
            have := ext_tail (strOf p) 1
            rw [strOf_size, strOf_data] at this
            rw [this]
          have HE : Hid (B1 ++ B2 = Y) := hid0 (by rw [hB1, hB2, strOf_app, HY.out, pfL, if_neg (by simp), if_neg (fun h => by omega), if_pos ⟨hq, by omega⟩])
          have hz1 : ¬ 9223372036854775807 < B1.size + B2.size := by
            have g1 : B1.size ≤ 1 := by rw [hB1, strOf_size, List.length_map, List.length_take]; omega
            have g2 : B2.size ≤ p.length := by rw [hB2, strOf_size, List.length_map, List.length_drop]; omega
            omega
          have HW : Hid (∀ w1, Below w.heap.size w w1 → ∀ W, Below w1.heap.size w1 W → (Calls Tryz.prog 90 #[.string ((strOf p).extract 0 1)] W fun e w' => e = .returned (.string B1) ∧ Below w1.heap.size w1 w') ∧ (Calls Tryz.prog 89 #[.string ((strOf p).extract 1 p.length)] W fun e w' => e = .returned (.string B2) ∧ Below w1.heap.size w1 w')) := hid0 (fun w1 h1 W hW => by
            refine ⟨?_, ?_⟩
            · rw [e1, hB1]
              have h := upper_any (strOf (p.take 1)) (by rw [strOf_size, List.length_take]; omega) (by rw [strOf_data]; exact fun b hb => L_ascii hq b (List.mem_of_mem_take hb)) W
              rw [strOf_data] at h
              exact h.mono (fun e w' h => ⟨h.1, Below.later hW h.2⟩)
            · rw [e2, hB2, ← smL_ascii (p.drop 1) (fun b hb => L_ascii hq b (List.mem_of_mem_drop hb))]
              exact (small_any (p.drop 1) (by rw [List.length_drop]; omega) W (hT.below (Below.later h1 hW))).mono (fun e w' h => ⟨h.1, Below.later hW h.2⟩))
          have hg1 : (1 : Int) ≤ (p.length : Int) := by omega
          clear hT hq hB1 hB2 e1 e2 HS h2 h4
          generalize strOf p = S at *
          generalize p.length = n at *
          go_enter Tryz.func62, Tryz.ntmps62
          go_wp2_with (first | (go_at_call 88; refine HQ.out.mono ?_; rintro e w1 ⟨rfl, hb1⟩; have HB1 := hid0 hb1; clear hb1) | fail)
          have hBr := Below.refl w1.heap.size w1
          have HW1 := hid0 (HW.out w1 HB1.out)
          go_region_held3 (fun W => Below w1.heap.size w1 W) (first | assumption | go_grown)
            (first
              | (go_at_call 90; refine (HW1.out _ (by assumption)).1.mono ?_; rintro e w2 ⟨rfl, hb2⟩)
              | (go_at_call 89; refine (HW1.out _ (by assumption)).2.mono ?_; rintro e w2 ⟨rfl, hb2⟩))
          all_goals
            go_wp2
            go_ret
            exact ⟨by rw [← HE.out]; rfl, Below.later HB1.out (by assumption)⟩
        · have hb4' : ((p.length : Int) == 4) = false := by simpa using h4
          have HV : Hid (Y = lo) := hid0 (by rw [HY.out, HLO.out, pfL, if_neg (by simp), if_neg (fun h => by omega), if_neg (fun h => by omega)])
          generalize strOf p = S at *
          clear hT hq
          go_enter Tryz.func62, Tryz.ntmps62
          go_wp2_with (first
            | (go_at_call 88; refine HQ.out.mono ?_; rintro e w1 ⟨rfl, hb1⟩; have HB1 := hid0 hb1; clear hb1)
            | (go_at_call 89; refine (HS.out _ HB1.out).mono ?_; rintro e w2 ⟨rfl, hb2⟩))
          go_ret
          exact ⟨by rw [HV.out]; rfl, hb2⟩
end Go.Proofs.YtlnejmmhhmmomaaGreatDoor
namespace Go.Proofs.YtlnejmmhhmmomaaGreatDoor
open Go.RowKit Go.Shelf
theorem bldSize : (Tryz.prog.info? 97).map (·.size) = some 2 := by kernel_rfl
theorem bldLies : liesAt Tryz.prog Tryz.prog.depth 97 (2 / Tryz.prog.cellsOf 97) 0 97 1 = true := by kernel_rfl
theorem infoByte : (Tryz.prog.info? 5).map (fun i => (i.zero, i.size, i.bytes)) = some (some (.int .u8 0), 1, 1) := by kernel_rfl
set_option maxRecDepth 100000 in
set_option maxHeartbeats 800000 in
theorem ccUsed (b : Nat) (w : World) (h0 : w.cell? ⟨b, 0, none⟩ = some (.pointer (some ⟨b, 0, none⟩))) :
    Calls Tryz.prog 87 #[.pointer (some ⟨b, 0, none⟩)] w fun e w' => e = .returned (.tuple #[]) ∧ w' = w := by
  obtain ⟨j, hj, _⟩ := Option.map_eq_some_iff.1 bldSize
  go_enter Tryz.func87, Tryz.ntmps87
  go_wp2
  rw [Lib.run_neq_ptr_same w _ Tryz.underlying94 hj]
  go_wp2
  go_end0
  exact ⟨rfl, rfl⟩
set_option maxRecDepth 100000 in
set_option maxHeartbeats 800000 in
theorem ccNew (b : Nat) (w : World) (h0 : w.cell? ⟨b, 0, none⟩ = some (.pointer none)) (hsh : w.shape? b = some (97, 2)) (hfz : w.frozen? ⟨b, 0, none⟩ = false) :
    Calls Tryz.prog 87 #[.pointer (some ⟨b, 0, none⟩)] w fun e w' => e = .returned (.tuple #[]) ∧ w' = w.setCell ⟨b, 0, none⟩ (.pointer (some ⟨b, 0, none⟩)) := by
  obtain ⟨j, hj, hjs⟩ := Option.map_eq_some_iff.1 bldSize
  go_enter Tryz.func87, Tryz.ntmps87
  go_wp2
  rw [Lib.run_to_unsafe w ⟨b, 0, none⟩ Tryz.underlying94 Tryz.underlying144 hj (by rw [hjs]; decide) hsh (Nat.zero_lt_succ 1)]
  simp only [Result.andThen]
  rw [Oper.upon_value]
  go_wp2
  rw [run_callFunc_extern Tryz.func114 (by kernel_rfl) (by kernel_rfl) (by kernel_rfl) (e := Extern.AbiNoEscape.same) (by kernel_rfl)]
  rw [Lib.run_noEscape]
  simp only [Result.andThen]
  rw [Oper.upon_value]
  go_wp2
  rw [Lib.run_from_unsafe w ⟨b, 0, none⟩ Tryz.underlying144 Tryz.underlying94 hj hsh bldLies]
  simp only [Result.andThen]
  rw [Oper.upon_value]
  go_wp2
  go_end0
  exact ⟨rfl, rfl⟩
/-- A builder in memory, used or not. -/
abbrev Bl (B b : Nat) (bs : List Value) (w : World) : Prop := Lib.IsBuilder 97 5 B b bs w
abbrev Bu (B b : Nat) (bs : List Value) (w : World) : Prop := Lib.BuilderAt 97 5 B b (.pointer (some ⟨b, 0, none⟩)) bs w
/-- A write keeps what is no row of bytes. -/
def Kb (b : Nat) (w w' : World) : Prop := ∀ (i : Nat) (c : Array Value) (t : TypeId) (z : Nat × Nat), w.heap[i]? = some (Obj.cells c t z) → ¬ t = 5 → ¬ i = b → w'.heap[i]? = some (Obj.cells c t z)
theorem cc_any (B b : Nat) (bs : List Value) (w : World) (h : Bl B b bs w) : Calls Tryz.prog 87 #[.pointer (some ⟨b, 0, none⟩)] w fun e w' => e = .returned (.tuple #[]) ∧ Bu B b bs w' ∧ Below B w w' ∧ Kb b w w' := by
  rcases h with h | h
  · exact (ccNew b w h.cell0 h.shape h.frozen0).mono fun e w' ⟨h1, h2⟩ => ⟨h1, h2 ▸ h.used _, h2 ▸ (Below.refl B w).setCell (p := ⟨b, 0, none⟩) h.1 _, h2 ▸ fun i c t z hi _ hn => (Below.heap_setCell w ⟨b, 0, none⟩ _ i hn).trans hi⟩
  · exact (ccUsed b w h.cell0).mono fun e w' ⟨h1, h2⟩ => ⟨h1, h2 ▸ h, h2 ▸ Below.refl B _, h2 ▸ fun i c t z hi _ _ => hi⟩
/-- What a write leaves. -/
theorem bu_grown {B b : Nat} {bs bs' : List Value} {w w1 w2 : World} {v v' : Value} {o : Option Obj} (hB : B ≤ b) (hbk : w1.heap[b]? = some (.cells #[.pointer (some ⟨b, 0, none⟩), v] 97 (0, 0))) (hown : w1.ownsRow B 5 1 v bs.length bs) (hne : v.ownBlock ≠ some b) (hb1 : Below B w w1) (_hBw : B ≤ w.heap.size) (hk1 : Kb b w w1)
    (hgrow : ((match o with | some x => w1.alloc x | none => w1)).grownBy w2 v.ownBlock) (hown' : w2.ownsRow B 5 1 v' bs'.length bs') :
    w2.heap[b]? = some (.cells #[.pointer (some ⟨b, 0, none⟩), v] 97 (0, 0)) ∧ Bu B b bs' (w2.setCell ⟨b, 1, none⟩ v') ∧ Below B w (w2.setCell ⟨b, 1, none⟩ v') ∧ Kb b w (w2.setCell ⟨b, 1, none⟩ v') := by
  have hlt := (Array.getElem?_eq_some_iff.1 hbk).1
  have hb2 : w2.heap[b]? = some (.cells #[.pointer (some ⟨b, 0, none⟩), v] 97 (0, 0)) := by
    cases o with
    | none => exact (hgrow.block b hlt (fun e => hne e.symm)).trans hbk
    | some x => exact (hgrow.block b (by simp; omega) (fun e => hne e.symm)).trans ((Below.heap_alloc w1 x b hlt).trans hbk)
  have hs := hb1.size
  have hrow : ∀ i c t z, w1.heap[i]? = some (.cells c t z) → ¬ t = 5 → some i ≠ v.ownBlock := fun i c t z hi ht e => by
    rcases hown.2 with ⟨rfl, _⟩ | ⟨g, cap, cur, rfl, _, hg, _⟩
    · simp [Value.ownBlock] at e
    · simp only [Value.ownBlock, Option.some.injEq] at e
      subst e
      rw [hi] at hg
      simp only [Option.some.injEq, Obj.cells.injEq] at hg
      exact ht hg.2.1
  refine ⟨hb2, Lib.BuilderAt.put hB hb2 hown' (by decide), ?_, fun i c t z hi ht hn => ?_⟩
  rotate_left
  · have h1 := hk1 i c t z hi ht hn
    have hl := (Array.getElem?_eq_some_iff.1 h1).1
    rw [Below.heap_setCell w2 ⟨b, 1, none⟩ v' i hn]
    cases o with
    | none => exact (hgrow.block i hl (hrow i c t z h1 ht)).trans h1
    | some x => exact (hgrow.block i (by simp; omega) (hrow i c t z h1 ht)).trans ((Below.heap_alloc w1 x i hl).trans h1)
  cases o with
  | none => exact (hb1.grown hgrow (by omega) (fun k hk => (World.ownsRow.lt hown k hk).1)).setCell (p := ⟨b, 1, none⟩) hB _
  | some x => exact ((hb1.alloc (by omega) x).grown hgrow (by simp; omega) (fun k hk => (World.ownsRow.lt hown k hk).1)).setCell (p := ⟨b, 1, none⟩) hB _
theorem row_form {w : World} {B n : Nat} {v : Value} {xs : List Value} (h : w.ownsRow B 5 1 v n xs) : ∃ a c, v = .slice a n c := by
  rcases h.2 with ⟨rfl, hn⟩ | ⟨g, c, cur, rfl, _⟩
  · exact ⟨none, 0, by rw [hn]⟩
  · exact ⟨_, c, rfl⟩
set_option maxRecDepth 10000 in
set_option maxHeartbeats 800000 in
theorem writeByte_any (B b : Nat) (bs : List Value) (c : Int) (w : World) (h : Bl B b bs w) (hlen : bs.length + 1 ≤ 140737488355328) (hBw : B ≤ w.heap.size) :
    Calls Tryz.prog 60 #[.pointer (some ⟨b, 0, none⟩), .int .u8 c] w fun e w' => e = .returned .nilIface ∧ Bu B b (bs ++ [.int .u8 c]) w' ∧ Below B w w' ∧ Kb b w w' := by
  obtain ⟨i0, hi, hz0, hz1, hz2⟩ := info_parts infoByte
  have HC := hid0 (cc_any B b bs w h)
  clear h
  go_enter Tryz.func60, Tryz.ntmps60
  go_wp2_with (first
    | (go_at_call 87; refine HC.out.mono ?_; rintro e w1 ⟨rfl, ⟨hB, v, hbk, hown, hne⟩, hb1, hk1⟩; have HK1 := hid0 hk1; have c1 : w1.cell? ⟨b, 1, none⟩ = some v := (by rw [cell_of_row _ _ _ _ _ _ hbk]; rfl); have HK := hid0 hbk; have HO := hid0 hown; have HNe := hid0 hne; have HB1 := hid0 hb1; have hs1 := hb1.size; clear hbk hown hne hb1 hk1)
    | (at_builtin; refine wpList_append_own _ rfl _ _ 95 rfl B 5 i0 (.int .u8 0) 1 1 Tryz.underlying95 hi hz0 hz1 hz2 rfl (by decide) v bs.length bs rfl (HO.out.alloc _) ⟨w1.heap.size, 0, none⟩ 1 1 [.int .u8 c] rfl rfl (cell_one_new _ _ _) (by simp [Value.oneCell']) (by unfold maxLen; omega) (by omega) (by simp; omega) ?_; intro v' w2 hown' hgrow _; obtain ⟨a', c', rfl⟩ := row_form hown'; obtain ⟨r1, r2, r3, r4⟩ := bu_grown (bs' := bs ++ [.int .u8 c]) (o := some (.cells #[.int .u8 c] 5)) hB HK.out HO.out HNe.out HB1.out hBw HK1.out hgrow (by simpa using hown'); have d1 : w2.cell? ⟨b, 1, none⟩ = some v := (by rw [cell_of_row _ _ _ _ _ _ r1]; rfl); have f1 : w2.frozen? ⟨b, 1, none⟩ = false := frozen_of_row _ _ _ _ _ r1; have HR := hid0 (And.intro r2 (And.intro r3 r4)); clear hown' hgrow r1 r2 r3 r4)
    | fail)
  go_ret
  exact ⟨rfl, HR.out⟩
set_option maxRecDepth 10000 in
set_option maxHeartbeats 800000 in
theorem writeString_any (B b : Nat) (bs : List Value) (s : ByteArray) (w : World) (h : Bl B b bs w) (hlen : bs.length + s.size ≤ 140737488355328) (hBw : B ≤ w.heap.size) :
    Calls Tryz.prog 61 #[.pointer (some ⟨b, 0, none⟩), .string s] w fun e w' => e = .returned (.tuple #[.int .i64 s.size, .nilIface]) ∧ Bu B b (bs ++ Lib.strCells s) w' ∧ Below B w w' ∧ Kb b w w' := by
  obtain ⟨i0, hi, hz0, hz1, hz2⟩ := info_parts infoByte
  have HC := hid0 (cc_any B b bs w h)
  have hsl : (Lib.strCells s).length = s.size := by simp [Lib.strCells]
  have HSl := hid0 hsl
  clear h hsl
  go_enter Tryz.func61, Tryz.ntmps61
  go_wp2_with (first
    | (go_at_call 87; refine HC.out.mono ?_; rintro e w1 ⟨rfl, ⟨hB, v, hbk, hown, hne⟩, hb1, hk1⟩; have HK1 := hid0 hk1; have c1 : w1.cell? ⟨b, 1, none⟩ = some v := (by rw [cell_of_row _ _ _ _ _ _ hbk]; rfl); have HK := hid0 hbk; have HO := hid0 hown; have HNe := hid0 hne; have HB1 := hid0 hb1; have hs1 := hb1.size; clear hbk hown hne hb1 hk1)
    | (at_builtin; refine Go.Lib.wpList_append_own_string _ rfl _ _ 95 9 rfl B 5 i0 Tryz.underlying95 Tryz.underlying9 hi hz0 hz1 hz2 v bs.length bs rfl HO.out s rfl (by unfold maxLen; omega) (by omega) (by omega) ?_; intro v' w2 hown' hgrow _; obtain ⟨a', c', rfl⟩ := row_form hown'; obtain ⟨r1, r2, r3, r4⟩ := bu_grown (bs' := bs ++ Lib.strCells s) (o := none) hB HK.out HO.out HNe.out HB1.out hBw HK1.out hgrow (by rw [List.length_append, HSl.out]; exact hown'); have d1 : w2.cell? ⟨b, 1, none⟩ = some v := (by rw [cell_of_row _ _ _ _ _ _ r1]; rfl); have f1 : w2.frozen? ⟨b, 1, none⟩ = false := frozen_of_row _ _ _ _ _ r1; have HR := hid0 (And.intro r2 (And.intro r3 r4)); clear hown' hgrow r1 r2 r3 r4)
    | fail)
  go_ret2
  exact ⟨rfl, HR.out⟩
end Go.Proofs.YtlnejmmhhmmomaaGreatDoor
