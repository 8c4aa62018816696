/-
  The walks of caesuraref2.Next, caesuraref2.Prev, caesurakit.Pick, caesuralaw2.UnitsSteps.
-/
import Derived.Test.YtoopigkndomdgabDoorStepsW
import Derived.Test.YtoopigkndomdgabDoorSameUW
namespace Go.Proofs.YtoopigkndomdgabDoor
open Go.RowKit
def atS (x : Int) (u : Int × Nat × Nat) : Bool := ((u.2.1 : Int) == x)
def atE (x : Int) (u : Int × Nat × Nat) : Bool := ((u.2.2 : Int) == x)
theorem unit_le (l : List UInt8) : ∀ u ∈ unitsOf l, u.2.1 < l.length ∧ 0 < u.2.2 ∧ u.2.2 ≤ l.length := by
  intro u hu
  have h1 := starts_ge l _ 0 (Nat.le_refl _) u hu
  have h2 : ∀ (d j : Nat), l.length - j ≤ d → ∀ u ∈ unitsAt l j, u.2.2 ≤ l.length := by
    intro d
    induction d with
    | zero => intro j h u hu; rw [unitsAt_end l j (by omega)] at hu; simp at hu
    | succ d ih =>
      intro j h u hu
      by_cases hj : j < l.length
      · have hs := drop_size l j hj
        rw [unitsAt_step l j hj] at hu
        rcases List.mem_cons.1 hu with rfl | hu
        · simp only; omega
        · exact ih _ (by omega) u hu
      · rw [unitsAt_end l j (by omega)] at hu; simp at hu
  have := h2 _ 0 (Nat.le_refl _) u hu
  omega
theorem find_nat (us : List (Int × Nat × Nat)) (k : Nat) : us.find? (atS (k : Int)) = us.find? (fun u => u.2.1 == k) ∧ us.find? (atE (k : Int)) = us.find? (fun u => u.2.2 == k) := by
  have e1 : atS (k : Int) = fun u => u.2.1 == k := by funext u; rw [atS, Bool.eq_iff_iff]; simp; omega
  have e2 : atE (k : Int) = fun u => u.2.2 == k := by funext u; rw [atE, Bool.eq_iff_iff]; simp; omega
  rw [e1, e2]
  exact ⟨rfl, rfl⟩
theorem next_all (s : ByteArray) (x : Int) (hs : s.size ≤ 140737488355328) (w : World) (hT : SeqAt w) :
    Calls Tryd.prog 9 #[.string s, .int .i64 x] w fun e w' => e = .returned (optVal ((unitsOf s.data.toList).find? (atS x))) ∧ Below w.heap.size w w' := by
  by_cases h : x < 0 ∨ (s.size : Int) ≤ x
  · have hn : (unitsOf s.data.toList).find? (atS x) = none := List.find?_eq_none.2 (fun u hu => by
      have := unit_le _ u hu
      rw [bsize] at this
      simp only [atS, beq_iff_eq]
      omega)
    rw [hn]
    exact next_out s x h w
  · obtain ⟨k, rfl⟩ : ∃ k : Nat, x = (k : Int) := ⟨x.toNat, by omega⟩
    rw [(find_nat _ k).1, next_find _ k (by rw [bsize]; omega), ← nextVal_eq]
    exact next_in s k (by omega) hs w hT
theorem prev_all (s : ByteArray) (x : Int) (hs : s.size ≤ 140737488355328) (w : World) (hT : SeqAt w) :
    Calls Tryd.prog 10 #[.string s, .int .i64 x] w fun e w' => e = .returned (optVal ((unitsOf s.data.toList).find? (atE x))) ∧ Below w.heap.size w w' := by
  by_cases h : x ≤ 0 ∨ (s.size : Int) < x
  · have hn : (unitsOf s.data.toList).find? (atE x) = none := List.find?_eq_none.2 (fun u hu => by
      have := unit_le _ u hu
      rw [bsize] at this
      simp only [atE, beq_iff_eq]
      omega)
    rw [hn]
    exact prev_out s x h w
  · obtain ⟨k, rfl⟩ : ∃ k : Nat, x = (k : Int) := ⟨x.toNat, by omega⟩
    rw [(find_nat _ k).2, prev_find _ k (by omega) (by rw [bsize]; omega)]
    exact prev_in s k (by omega) (by omega) hs w hT
theorem find_step (us : List (Int × Nat × Nat)) (f : Int × Nat × Nat → Bool) (k : Nat) (hk : k < us.length) : (us.drop k).find? f = if f us[k] then some us[k] else (us.drop (k + 1)).find? f := by
  rw [List.drop_eq_getElem_cons hk, List.find?_cons]
  cases f us[k] <;> rfl
set_option maxRecDepth 10000 in
set_option maxHeartbeats 800000 in
theorem refNext_any (s : ByteArray) (x : Int) (hs : s.size ≤ 4194400) (w : World) :
    Calls Tryd.prog 15 #[.string s, .int .i64 x] w fun e w' => e = .returned (optVal ((unitsOf s.data.toList).find? (atS x))) ∧ Below w.heap.size w w' := by
  have HS := hid (fun w => refSplit_any s hs w)
  have hle : (unitsOf s.data.toList).length ≤ s.size := units_le s
  generalize unitsOf s.data.toList = U at *
  go_enter Tryd.func15, Tryd.ntmps15
  go_wp2_with (go_at_call 25; refine (HS.out _).mono ?_; rintro e w1 ⟨v, rfl, ho, hb⟩; have HR : Hid (w1.heap[w.heap.size]? = _) := boxRow hb; obtain ⟨⟨c0, c1, c2⟩, f0, f1, f2⟩ := row3 HR.out; have hB : Below w.heap.size w w1 := ((Below.refl _ _).alloc (Nat.le_refl _) _).trans (hb.mono (by simp)); obtain ⟨a, cap, rfl, hua⟩ := ho.at.ua; have HA := hid hua; have hsz := hB.size; clear hb ho hua)
  go_loop [7] (fun i => ∃ k : Nat, k ≤ U.length ∧ i = .int .i64 (k : Int) ∧ U.find? (atS x) = (U.drop k).find? (atS x)) (fun i => U.length - (intOf i).toNat)
  case atStart => exact ⟨0, Nat.zero_le _, rfl, rfl⟩
  case round =>
    obtain ⟨k, hk, rfl, hf⟩ := hrel
    have HF := hid hf
    clear hf
    by_cases hlt : k < U.length
    · obtain ⟨b1, o1, rfl, d0, d1, d2⟩ := HA.out.at' k hlt
      have HU := hid (find_step U (atS x) k hlt)
      generalize U[k] = u at *
      have hki : (k : Int) < (U.length : Int) := by omega
      by_cases hq : (u.2.1 : Int) = x
      · have HV : Hid (optVal (U.find? (atS x)) = .tuple #[unitVal u.1 u.2.1 u.2.2, .bool true]) := by show _ = _; rw [HF.out, HU.out, if_pos (by simpa [atS] using hq)]; rfl
        have hqb : ((u.2.1 : Int) == x) = true := by simpa using hq
        clear HF HU hq
        go_wp2
        (try simp only [Exit.inBlock, Exit.then])
        refine bodyPost_ret (ret_row rfl _ _ w.heap.size 26 _ _ _ rfl (set3 _ _ _ HR.out) Tryd.underlying26 rfl (by kernel_rfl) rfl) rfl ?_
        exact ⟨by rw [HV.out]; rfl, by go_grown⟩
      · have HV : Hid (U.find? (atS x) = (U.drop (k + 1)).find? (atS x)) := by show _ = _; rw [HF.out, HU.out, if_neg (by simpa [atS] using hq)]
        have hqb : ((u.2.1 : Int) == x) = false := by simpa using hq
        clear HF HU hq
        go_wp2
        go_round
        case rel => exact ⟨k + 1, by omega, by go_num, HV.out⟩
        case measure => simp [intOf]; omega
    · have HV : Hid (optVal (U.find? (atS x)) = .tuple #[noUnit, .bool false]) := by show _ = _; rw [HF.out, List.drop_of_length_le (by omega)]; rfl
      have hki : ¬ (k : Int) < (U.length : Int) := by omega
      go_wp2
      (try simp only [Exit.inBlock, Exit.then])
      refine bodyPost_ret (ret_row rfl _ _ w.heap.size 26 _ _ _ rfl (set3 _ _ _ HR.out) Tryd.underlying26 rfl (by kernel_rfl) rfl) rfl ?_
      exact ⟨by rw [HV.out]; rfl, by go_grown⟩
set_option maxRecDepth 10000 in
set_option maxHeartbeats 800000 in
theorem refPrev_any (s : ByteArray) (x : Int) (hs : s.size ≤ 4194400) (w : World) :
    Calls Tryd.prog 16 #[.string s, .int .i64 x] w fun e w' => e = .returned (optVal ((unitsOf s.data.toList).find? (atE x))) ∧ Below w.heap.size w w' := by
  have HS := hid (fun w => refSplit_any s hs w)
  have hle : (unitsOf s.data.toList).length ≤ s.size := units_le s
  generalize unitsOf s.data.toList = U at *
  go_enter Tryd.func16, Tryd.ntmps16
  go_wp2_with (go_at_call 25; refine (HS.out _).mono ?_; rintro e w1 ⟨v, rfl, ho, hb⟩; have HR : Hid (w1.heap[w.heap.size]? = _) := boxRow hb; obtain ⟨⟨c0, c1, c2⟩, f0, f1, f2⟩ := row3 HR.out; have hB : Below w.heap.size w w1 := ((Below.refl _ _).alloc (Nat.le_refl _) _).trans (hb.mono (by simp)); obtain ⟨a, cap, rfl, hua⟩ := ho.at.ua; have HA := hid hua; have hsz := hB.size; clear hb ho hua)
  go_loop [7] (fun i => ∃ k : Nat, k ≤ U.length ∧ i = .int .i64 (k : Int) ∧ U.find? (atE x) = (U.drop k).find? (atE x)) (fun i => U.length - (intOf i).toNat)
  case atStart => exact ⟨0, Nat.zero_le _, rfl, rfl⟩
  case round =>
    obtain ⟨k, hk, rfl, hf⟩ := hrel
    have HF := hid hf
    clear hf
    by_cases hlt : k < U.length
    · obtain ⟨b1, o1, rfl, d0, d1, d2⟩ := HA.out.at' k hlt
      have HU := hid (find_step U (atE x) k hlt)
      generalize U[k] = u at *
      have hki : (k : Int) < (U.length : Int) := by omega
      by_cases hq : (u.2.2 : Int) = x
      · have HV : Hid (optVal (U.find? (atE x)) = .tuple #[unitVal u.1 u.2.1 u.2.2, .bool true]) := by show _ = _; rw [HF.out, HU.out, if_pos (by simpa [atE] using hq)]; rfl
        have hqb : ((u.2.2 : Int) == x) = true := by simpa using hq
        clear HF HU hq
        go_wp2
        (try simp only [Exit.inBlock, Exit.then])
        refine bodyPost_ret (ret_row rfl _ _ w.heap.size 26 _ _ _ rfl (set3 _ _ _ HR.out) Tryd.underlying26 rfl (by kernel_rfl) rfl) rfl ?_
        exact ⟨by rw [HV.out]; rfl, by go_grown⟩
      · have HV : Hid (U.find? (atE x) = (U.drop (k + 1)).find? (atE x)) := by show _ = _; rw [HF.out, HU.out, if_neg (by simpa [atE] using hq)]
        have hqb : ((u.2.2 : Int) == x) = false := by simpa using hq
        clear HF HU hq
        go_wp2
        go_round
        case rel => exact ⟨k + 1, by omega, by go_num, HV.out⟩
        case measure => simp [intOf]; omega
    · have HV : Hid (optVal (U.find? (atE x)) = .tuple #[noUnit, .bool false]) := by show _ = _; rw [HF.out, List.drop_of_length_le (by omega)]; rfl
      have hki : ¬ (k : Int) < (U.length : Int) := by omega
      go_wp2
      (try simp only [Exit.inBlock, Exit.then])
      refine bodyPost_ret (ret_row rfl _ _ w.heap.size 26 _ _ _ rfl (set3 _ _ _ HR.out) Tryd.underlying26 rfl (by kernel_rfl) rfl) rfl ?_
      exact ⟨by rw [HV.out]; rfl, by go_grown⟩
set_option maxRecDepth 10000 in
set_option maxHeartbeats 400000 in
theorem pick_any (k : Int) (n : Nat) (hn : 0 < n) (hn2 : n ≤ 2000000) (w : World) :
    Calls Tryd.prog 14 #[.int .i64 k, .int .i64 (n : Int)] w fun e w' => (∃ r : Nat, r < n ∧ e = .returned (.int .i64 (r : Int))) ∧ w' = w := by
  have hm1 := Int.tmod_lt_of_pos k (b := (n : Int)) (by omega)
  have hm2 : -(n : Int) < k.tmod n := by
    have := Int.tmod_lt_of_pos (-k) (b := (n : Int)) (by omega)
    rw [Int.neg_tmod] at this
    omega
  have hz : ((n : Int) == 0) = false := by simp; omega
  have hz2 : ¬ (n : Int) = 0 := by omega
  have hz3 : ¬ (n : Int) < 1 := by omega
  by_cases hneg : k.tmod n < 0
  · go_enter Tryd.func14, Tryd.ntmps14
    go_wp2
    go_ret
    refine ⟨⟨(k.tmod n + n).toNat, by omega, ?_⟩, rfl⟩
    have e : (((k.tmod n + n).toNat : Nat) : Int) = k.tmod n + n := by omega
    rw [e]
    rfl
  · go_enter Tryd.func14, Tryd.ntmps14
    go_wp2
    go_ret
    refine ⟨⟨(k.tmod n).toNat, by omega, ?_⟩, rfl⟩
    have e : (((k.tmod n).toNat : Nat) : Int) = k.tmod n := by omega
    rw [e]
    rfl
theorem rowB {w : World} {g : Nat} {a b c : Value} {t : TypeId} (h : w.heap[g]? = some (.cells #[a, b, c] t (0, 0))) : w.cell? ⟨g, 0, none⟩ = some a ∧ w.cell? ⟨g, 1, none⟩ = some b ∧ w.cell? ⟨g, 2, none⟩ = some c := (row3 h).1
theorem opt_eq (o : Option (Int × Nat × Nat)) : ∃ p a b : Int, ∃ ok : Bool, optVal o = .tuple #[.agg #[.int .i64 p, .int .i64 a, .int .i64 b], .bool ok] := by
  cases o with
  | none => exact ⟨0, 0, 0, false, rfl⟩
  | some u => exact ⟨u.1, u.2.1, u.2.2, true, rfl⟩
set_option maxRecDepth 10000 in
set_option maxHeartbeats 1600000 in
theorem steps_walk (T : ByteArray) (x : Int) (far : Bool) (hs : T.size ≤ 1048576) (w : World) (hT : SeqAt w) :
    Calls Tryd.prog 5 #[.agg #[.string T, .int .i64 x, .bool far]] w fun e w' => e = .returned (.bool true) ∧ Below w.heap.size w w' := by
  have HP := hid (fun w => pick_any x (T.size + 3) (by omega) (by omega) w)
  rw [show ((T.size + 3 : Nat) : Int) = (T.size : Int) + 3 by omega] at HP
  have HT := hid hT
  have HN := hid (fun x w hT => next_all T x (by omega) w hT)
  have HV := hid (fun x w hT => prev_all T x (by omega) w hT)
  have HRN := hid (fun x w => refNext_any T x (by omega) w)
  have HRV := hid (fun x w => refPrev_any T x (by omega) w)
  clear hT
  cases far with
  | true =>
    go_enter Tryd.func5, Tryd.ntmps5
    go_wp2_with (first
      | (go_at_call 9; obtain ⟨p, a, b, ok, e1⟩ := opt_eq ((unitsOf T.data.toList).find? (atS (x))); obtain ⟨p', a', b', ok', e2⟩ := opt_eq ((unitsOf T.data.toList).find? (atE (x))); have hq := fun W hT => HN.out (x) W hT; have HRN1 := hid (HRN.out (x)); have HV1 := hid (HV.out (x)); have HRV1 := hid (HRV.out (x)); rw [e1] at hq HRN1; rw [e2] at HV1 HRV1; refine (hq _ (HT.out.later (by go_grown))).mono ?_; rintro e w1 ⟨rfl, hb1⟩; have HX1 := hid (boxRow hb1); obtain ⟨x0, x1, x2⟩ := rowB HX1.out; have HB1 : Hid (Below w.heap.size w w1) := ((Below.refl _ _).alloc (Nat.le_refl _) _).trans (hb1.mono (by simp)); have X1 := hid (Own3.later HX1.out (alloc_below w1 (.cells #[.int .i64 p, .int .i64 a, .int .i64 b] 26))); obtain ⟨y0, y1, y2⟩ := rowB X1.out; have hz1 := HB1.out.size; clear hq hb1 e1 e2)
      | (go_at_call 15; have hq := HRN1.out; clear HRN1; refine (hq _).mono ?_; rintro e w2 ⟨rfl, hb2⟩; have HA2 := hid (Own3.later (heap_alloc_new w1 (.cells #[.int .i64 p, .int .i64 a, .int .i64 b] 26)) hb2); have HX2 := hid (Own3.later X1.out hb2); have HB2 : Hid (Below w.heap.size w w2) := (HB1.out.alloc HB1.out.size _).trans (hb2.mono (by simp; omega)); have hz2 := hb2.size; simp only [World.size_alloc] at hz2; have X2 := hid (Own3.later HX2.out (alloc_below w2 (.cells #[.int .i64 p, .int .i64 a, .int .i64 b] 26))); have A2 := hid (Own3.later HA2.out (alloc_below w2 (.cells #[.int .i64 p, .int .i64 a, .int .i64 b] 26))); obtain ⟨z0, z1, z2⟩ := rowB X2.out; clear hq hb2 x0 x1 x2 y0 y1 y2)
      | (go_at_call 10; have hq := HV1.out; clear HV1; refine (hq _ (HT.out.later (HB2.out.alloc HB2.out.size _))).mono ?_; rintro e w3 ⟨rfl, hb3⟩; have HA3 := hid (Own3.later A2.out hb3); have HC3 := hid (Own3.later (heap_alloc_new w2 (.cells #[.int .i64 p, .int .i64 a, .int .i64 b] 26)) hb3); have HX3 := hid (Own3.later X2.out hb3); have HB3 : Hid (Below w.heap.size w w3) := (HB2.out.alloc HB2.out.size _).trans (hb3.mono (by simp; omega)); have hz3 := hb3.size; simp only [World.size_alloc] at hz3; have X3 := hid (Own3.later HX3.out (alloc_below w3 (.cells #[.int .i64 p', .int .i64 a', .int .i64 b'] 26))); have A3 := hid (Own3.later HA3.out (alloc_below w3 (.cells #[.int .i64 p', .int .i64 a', .int .i64 b'] 26))); have C3 := hid (Own3.later HC3.out (alloc_below w3 (.cells #[.int .i64 p', .int .i64 a', .int .i64 b'] 26))); obtain ⟨t0, t1, t2⟩ := rowB X3.out; clear hq hb3 z0 z1 z2)
      | (go_at_call 16; have hq := HRV1.out; clear HRV1; refine (hq _).mono ?_; rintro e w4 ⟨rfl, hb4⟩; have HA4 := hid (Own3.later A3.out hb4); have HC4 := hid (Own3.later C3.out hb4); have HD4 := hid (Own3.later (heap_alloc_new w3 (.cells #[.int .i64 p', .int .i64 a', .int .i64 b'] 26)) hb4); have HB4 : Hid (Below w.heap.size w w4) := (HB3.out.alloc HB3.out.size _).trans (hb4.mono (by simp; omega)); have hz4 := hb4.size; simp only [World.size_alloc] at hz4; have A4 := hid (Own3.later HA4.out (alloc_below w4 (.cells #[.int .i64 p', .int .i64 a', .int .i64 b'] 26))); have C4 := hid (Own3.later HC4.out (alloc_below w4 (.cells #[.int .i64 p', .int .i64 a', .int .i64 b'] 26))); have D4 := hid (Own3.later HD4.out (alloc_below w4 (.cells #[.int .i64 p', .int .i64 a', .int .i64 b'] 26))); obtain ⟨q0, q1, q2⟩ := rowB A4.out; obtain ⟨r0, r1, r2⟩ := rowB C4.out; obtain ⟨s0, s1, s2⟩ := rowB D4.out; clear hq hb4 t0 t1 t2)
      | fail)
    go_ret
    exact ⟨rfl, HB4.out.alloc HB4.out.size _⟩
  | false =>
    go_enter Tryd.func5, Tryd.ntmps5
    go_wp2_with (first
      | (go_at_call 14; refine (HP.out _).mono ?_; rintro e w0 ⟨⟨r, hr, rfl⟩, rfl⟩)
      | (go_at_call 9; obtain ⟨p, a, b, ok, e1⟩ := opt_eq ((unitsOf T.data.toList).find? (atS ((r : Int) - 1))); obtain ⟨p', a', b', ok', e2⟩ := opt_eq ((unitsOf T.data.toList).find? (atE ((r : Int) - 1))); have hq := fun W hT => HN.out ((r : Int) - 1) W hT; have HRN1 := hid (HRN.out ((r : Int) - 1)); have HV1 := hid (HV.out ((r : Int) - 1)); have HRV1 := hid (HRV.out ((r : Int) - 1)); rw [e1] at hq HRN1; rw [e2] at HV1 HRV1; refine (hq _ (HT.out.later (by go_grown))).mono ?_; rintro e w1 ⟨rfl, hb1⟩; have HX1 := hid (boxRow hb1); obtain ⟨x0, x1, x2⟩ := rowB HX1.out; have HB1 : Hid (Below w.heap.size w w1) := ((Below.refl _ _).alloc (Nat.le_refl _) _).trans (hb1.mono (by simp)); have X1 := hid (Own3.later HX1.out (alloc_below w1 (.cells #[.int .i64 p, .int .i64 a, .int .i64 b] 26))); obtain ⟨y0, y1, y2⟩ := rowB X1.out; have hz1 := HB1.out.size; clear hq hb1 e1 e2)
      | (go_at_call 15; have hq := HRN1.out; clear HRN1; refine (hq _).mono ?_; rintro e w2 ⟨rfl, hb2⟩; have HA2 := hid (Own3.later (heap_alloc_new w1 (.cells #[.int .i64 p, .int .i64 a, .int .i64 b] 26)) hb2); have HX2 := hid (Own3.later X1.out hb2); have HB2 : Hid (Below w.heap.size w w2) := (HB1.out.alloc HB1.out.size _).trans (hb2.mono (by simp; omega)); have hz2 := hb2.size; simp only [World.size_alloc] at hz2; have X2 := hid (Own3.later HX2.out (alloc_below w2 (.cells #[.int .i64 p, .int .i64 a, .int .i64 b] 26))); have A2 := hid (Own3.later HA2.out (alloc_below w2 (.cells #[.int .i64 p, .int .i64 a, .int .i64 b] 26))); obtain ⟨z0, z1, z2⟩ := rowB X2.out; clear hq hb2 x0 x1 x2 y0 y1 y2)
      | (go_at_call 10; have hq := HV1.out; clear HV1; refine (hq _ (HT.out.later (HB2.out.alloc HB2.out.size _))).mono ?_; rintro e w3 ⟨rfl, hb3⟩; have HA3 := hid (Own3.later A2.out hb3); have HC3 := hid (Own3.later (heap_alloc_new w2 (.cells #[.int .i64 p, .int .i64 a, .int .i64 b] 26)) hb3); have HX3 := hid (Own3.later X2.out hb3); have HB3 : Hid (Below w.heap.size w w3) := (HB2.out.alloc HB2.out.size _).trans (hb3.mono (by simp; omega)); have hz3 := hb3.size; simp only [World.size_alloc] at hz3; have X3 := hid (Own3.later HX3.out (alloc_below w3 (.cells #[.int .i64 p', .int .i64 a', .int .i64 b'] 26))); have A3 := hid (Own3.later HA3.out (alloc_below w3 (.cells #[.int .i64 p', .int .i64 a', .int .i64 b'] 26))); have C3 := hid (Own3.later HC3.out (alloc_below w3 (.cells #[.int .i64 p', .int .i64 a', .int .i64 b'] 26))); obtain ⟨t0, t1, t2⟩ := rowB X3.out; clear hq hb3 z0 z1 z2)
      | (go_at_call 16; have hq := HRV1.out; clear HRV1; refine (hq _).mono ?_; rintro e w4 ⟨rfl, hb4⟩; have HA4 := hid (Own3.later A3.out hb4); have HC4 := hid (Own3.later C3.out hb4); have HD4 := hid (Own3.later (heap_alloc_new w3 (.cells #[.int .i64 p', .int .i64 a', .int .i64 b'] 26)) hb4); have HB4 : Hid (Below w.heap.size w w4) := (HB3.out.alloc HB3.out.size _).trans (hb4.mono (by simp; omega)); have hz4 := hb4.size; simp only [World.size_alloc] at hz4; have A4 := hid (Own3.later HA4.out (alloc_below w4 (.cells #[.int .i64 p', .int .i64 a', .int .i64 b'] 26))); have C4 := hid (Own3.later HC4.out (alloc_below w4 (.cells #[.int .i64 p', .int .i64 a', .int .i64 b'] 26))); have D4 := hid (Own3.later HD4.out (alloc_below w4 (.cells #[.int .i64 p', .int .i64 a', .int .i64 b'] 26))); obtain ⟨q0, q1, q2⟩ := rowB A4.out; obtain ⟨r0, r1, r2⟩ := rowB C4.out; obtain ⟨s0, s1, s2⟩ := rowB D4.out; clear hq hb4 t0 t1 t2)
      | fail)
    go_ret
    exact ⟨rfl, HB4.out.alloc HB4.out.size _⟩
end Go.Proofs.YtoopigkndomdgabDoor
