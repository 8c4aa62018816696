/-
  The walk of caesuraref4.said.
-/
import Derived.Test.YthdmhelgmejicaaGreatDoorPfRc4W
namespace Go.Proofs.YthdmhelgmejicaaGreatDoor
open Go.RowKit Go.Shelf
def strSize : Value → Nat
  | .string t => t.size
  | _ => 0
theorem ext_tail (t : ByteArray) (c : UInt8) (y : By) (h : t.data.toList = c :: y) : (t.extract 1 t.size).data.toList = y := by
  rw [extract_drop4, h]; rfl
theorem size_of (t : ByteArray) (y : By) (h : t.data.toList = y) : t.size = y.length := by rw [← h]; exact (bsize0 t).symm
theorem head_of (t : ByteArray) (c : UInt8) (y : By) (h : t.data.toList = c :: y) (h0 : 0 < t.size) : t[0] = c := by
  have := bget t 0 h0
  rw [h] at this
  exact (Option.some.inj this).symm
theorem second_of (t : ByteArray) (a b : UInt8) (y : By) (h : t.data.toList = a :: b :: y) (h0 : 1 < t.size) : t[1] = b := by
  have h1 := bget t 1 h0
  generalize t[1] = c at h1
  rw [h] at h1
  exact (Option.some.inj h1).symm
theorem ne46 (c : UInt8) (h : ¬ c = 46) : ((c.toNat : Int) == 46) = false := by
  have h1 := u8_eq c 46 (by omega)
  rw [show UInt8.ofNat 46 = 46 from rfl, show (c == 46) = false by simpa using h] at h1
  exact h1.symm
/-- What said answers. -/
def SaidIs (x : By) (e : Ending) : Prop := ∃ (a b : Nat) (t : ByteArray) (ok : Bool), e = .returned (.tuple #[.int .i64 (a : Int), .int .i64 (b : Int), .string t, .bool ok]) ∧ (ok = true → saidL x = some (a, b, t.data.toList)) ∧ (ok = false → saidL x = none)
theorem saidNone (x : By) (h : saidL x = none) : SaidIs x (.returned (.tuple #[.int .i64 0, .int .i64 0, .string ⟨#[]⟩, .bool false])) := ⟨0, 0, ⟨#[]⟩, false, rfl, fun h => by simp at h, fun _ => h⟩
set_option maxRecDepth 10000 in
set_option maxHeartbeats 400000 in
theorem said_pre0 (x : By) (hx : x.length ≤ 4194400) (w : World) (h1 : ptOk x = false) : Calls Tryz.prog 30 #[.string (rd x)] w fun e w' => SaidIs x e ∧ w' = w := by
  have hP := refPoint_any (rd x) (by rw [rd_size]; exact hx) w
  have e1 : ptV (rd x).data.toList = 0 := by rw [ptV, show ptOk (rd x).data.toList = false from h1]; rfl
  have e2 : ptK (rd x).data.toList = 0 := by rw [ptK, show ptOk (rd x).data.toList = false from h1]; rfl
  rw [e1, e2] at hP
  have HSn := hid0 (saidNone x (by rw [saidL, h1]; rfl))
  clear e1 e2 h1 hx
  generalize rd x = s at hP
  go_enter Tryz.func30, Tryz.ntmps30
  go_wp2_with (go_at_call 54; refine hP.mono ?_; rintro e w1 ⟨rfl, rfl⟩)
  go_returns
  exact ⟨HSn.out, rfl⟩
set_option maxRecDepth 10000 in
set_option maxHeartbeats 800000 in
theorem said_short (x : By) (hx : x.length ≤ 4194400) (w : World) (h1 : ptOk x = true) (r : By) (hr : r = x.drop (ptLen x)) (h2 : r.length < 2) : Calls Tryz.prog 30 #[.string (rd x)] w fun e w' => SaidIs x e ∧ w' = w := by
  have hP := refPoint_any (rd x) (by rw [rd_size]; exact hx) w
  have e1 : ptV (rd x).data.toList = ptVal x := by rw [ptV, if_pos (show ptOk (rd x).data.toList = true from h1)]
  have e2 : ptK (rd x).data.toList = ptLen x := by rw [ptK, if_pos (show ptOk (rd x).data.toList = true from h1)]
  rw [e1, e2] at hP
  have hk : 4 ≤ ptLen x ∧ ptLen x ≤ 6 := by simpa [ptOk] using h1
  have hkx : ptLen x ≤ x.length := (List.takeWhile_sublist isHx).length_le
  obtain ⟨t0, ht0⟩ : ∃ t0, (rd x).extract (ptLen x) (rd x).size = t0 := ⟨_, rfl⟩
  have HR : Hid (t0.data.toList = r) := hid0 (by rw [← ht0, extract_drop4, hr])
  have hz : t0.size = r.length := size_of _ _ HR.out
  have hrl : r.length ≤ x.length := by rw [hr]; exact len_drop_le _ _
  have hz4 : t0.size ≤ 4194400 := by omega
  have hk0 : ((ptLen x : Int) == 0) = false := by simpa using (show ¬ ptLen x = 0 by omega)
  have hkI : (ptLen x : Int) ≤ ((rd x).size : Int) := by rw [rd_size]; omega
  have hkI0 : (0 : Int) ≤ (ptLen x : Int) := by omega
  have HTl : Hid (saidL x = tailL (ptVal x) (ptVal x) r) := hid0 (by
    rw [saidL, if_pos h1]
    simp only
    rw [← hr, if_neg (by intro h; have := congrArg List.length h; simp at this; omega)])
  have hz2 : ¬ (2 : Int) ≤ (t0.size : Int) := by omega
  obtain ⟨s, hs⟩ : ∃ s, s = rd x := ⟨_, rfl⟩
  rw [← hs] at hP hkI ht0 ⊢
  obtain ⟨k, hk'⟩ : ∃ k, k = ptLen x := ⟨_, rfl⟩
  rw [← hk'] at hP hk0 hkI hkI0 ht0
  have HR3 := HR
  generalize ptVal x = lo at hP HTl
  clear e1 e2 h1 hx hr hk hkx hs hk' hz hrl h2
  go_enter Tryz.func30, Tryz.ntmps30
  go_wp2_with (go_at_call 54; refine hP.mono ?_; rintro e w1 ⟨rfl, rfl⟩)
  go_loopw [0] (fun v wr => ∃ t : ByteArray, v = .string t ∧ t.size ≤ 4194400 ∧ Hid (t.data.toList.dropWhile isBl = r.dropWhile isBl) ∧ wr = w1) (fun v _ => strSize v)
  case atStart => exact ⟨_, rfl, hz4, hid0 (by rw [HR.out]), rfl⟩
  case round =>
    obtain ⟨t, rfl, hz, ht, rfl⟩ := hrel
    cases hy : t.data.toList with
    | nil =>
      have h0 : (t.size : Int) = 0 := by rw [size_of t _ hy]; rfl
      have hS : saidL x = none := by
        rw [HTl.out, tailL, ← ht.out, hy]; rfl
      have HSn := hid0 (saidNone x hS)
      clear ht hS HTl
      go_wp2
      go_returns
      exact ⟨HSn.out, rfl⟩
    | cons c y =>
      have hs0 : 0 < t.size := by rw [size_of t _ hy]; simp
      have h0 : (0 : Int) < (t.size : Int) := by omega
      have h00 : ((t.size : Int) == 0) = false := by simpa using (show ¬ (t.size : Int) = 0 by omega)
      have hc := head_of t c y hy hs0
      have HB := hid0 (refBlank_any t[0])
      have hext := ext_tail t c y hy
      have hsz : (t.extract 1 t.size).size = t.size - 1 := by rw [size_of _ _ hext, size_of t _ hy]; rfl
      by_cases hb : isBl c = true
      · rw [hc, hb, ← hc] at HB
        have HN : Hid ((t.extract 1 t.size).data.toList.dropWhile isBl = r.dropWhile isBl) := hid0 (by rw [hext, ← ht.out, hy, List.dropWhile_cons, if_pos hb])
        have h1I : (1 : Int) ≤ (t.size : Int) := by omega
        clear hc hext ht hy hb
        go_wp2_with (go_at_call 53; refine (HB.out _).mono ?_; rintro e w1 ⟨rfl, rfl⟩)
        go_roundw
        case rel => exact ⟨_, rfl, by omega, HN, trivial⟩
        case measure => simp only [strSize]; omega
      · have hb' : isBl c = false := by simpa using hb
        rw [hc, hb', ← hc] at HB
        have hD : r.dropWhile isBl = c :: y := by rw [← ht.out, hy, List.dropWhile_cons, if_neg hb]
        have hTl := HTl.out
        rw [tailL, hD] at hTl
        simp only at hTl
        by_cases h59 : c = 59
        · subst h59
          rw [if_pos rfl] at hTl
          have h59I : (t[0].toNat : Int) = 59 := by rw [hc]; rfl
          have h1I : (1 : Int) ≤ (t.size : Int) := by omega
          have HTl2 := hid0 hTl
          have HX := hid0 hext
          have HB59 : Hid (∀ w, Calls Tryz.prog 53 #[.int .u8 59] w fun e w' => e = .returned (.bool false) ∧ w' = w) := hid0 (fun w => refBlank_any 59 w)
          have hzz : (t.extract 1 t.size).size ≤ 4194400 := by omega
          clear hc hext ht hy hb hb' hD hTl HTl hsz HB
          go_wp2_with (go_at_call 53; refine (HB59.out _).mono ?_; rintro e w2 ⟨rfl, rfl⟩)
          clear HB59
          go_loopw [0] (fun v wr => ∃ t : ByteArray, v = .string t ∧ t.size ≤ 4194400 ∧ Hid (t.data.toList.dropWhile isBl = y.dropWhile isBl) ∧ wr = w2) (fun v _ => strSize v)
          case atStart => exact ⟨_, rfl, hzz, hid0 (by rw [HX.out]), rfl⟩
          case round =>
            obtain ⟨t', rfl, hz', ht', rfl⟩ := hrel
            clear hzz HX
            have HI := hid0 (refIsName_any t' hz')
            cases hy' : t'.data.toList with
            | nil =>
              have h0' : (t'.size : Int) = 0 := by rw [size_of t' _ hy']; rfl
              have hS : saidL x = none := by rw [HTl2.out, ← ht'.out, hy']; rfl
              have HSn : Hid (∀ (a b : Nat), SaidIs x (.returned (.tuple #[.int .i64 (a : Int), .int .i64 (b : Int), .string t', .bool false]))) := hid0 (fun a b => ⟨a, b, t', false, rfl, fun h => by simp at h, fun _ => hS⟩)
              have hi0 : isNm t'.data.toList = false := by rw [hy']; rfl
              rw [hi0] at HI
              clear ht' hS HTl2 hi0 hy'
              go_wp2_with (go_at_call 55; refine (HI.out _).mono ?_; rintro e w3 ⟨rfl, rfl⟩)
              go_returns
              exact ⟨HSn.out _ _, rfl⟩
            | cons c' y' =>
              have hs0' : 0 < t'.size := by rw [size_of t' _ hy']; simp
              have h0' : (0 : Int) < (t'.size : Int) := by omega
              have hc' := head_of t' c' y' hy' hs0'
              have HB' := hid0 (refBlank_any t'[0])
              have hext' := ext_tail t' c' y' hy'
              have hsz' : (t'.extract 1 t'.size).size = t'.size - 1 := by rw [size_of _ _ hext', size_of t' _ hy']; rfl
              by_cases hb2 : isBl c' = true
              · rw [hc', hb2, ← hc'] at HB'
                have HN : Hid ((t'.extract 1 t'.size).data.toList.dropWhile isBl = y.dropWhile isBl) := hid0 (by rw [hext', ← ht'.out, hy', List.dropWhile_cons, if_pos hb2])
                have h1I' : (1 : Int) ≤ (t'.size : Int) := by omega
                clear hc' hext' ht' hy' hb2 HI
                go_wp2_with (go_at_call 53; refine (HB'.out _).mono ?_; rintro e w3 ⟨rfl, rfl⟩)
                go_roundw
                case rel => exact ⟨_, rfl, by omega, HN, trivial⟩
                case measure => simp only [strSize]; omega
              · have hb3 : isBl c' = false := by simpa using hb2
                rw [hc', hb3, ← hc'] at HB'
                have hD' : y.dropWhile isBl = t'.data.toList := by rw [← ht'.out, hy', List.dropWhile_cons, if_neg hb2]
                have hTl3 := HTl2.out
                rw [hD'] at hTl3
                have HSn : Hid (SaidIs x (.returned (.tuple #[.int .i64 (lo : Int), .int .i64 (lo : Int), .string t', .bool (isNm t'.data.toList)]))) := hid0 ⟨lo, lo, t', isNm t'.data.toList, rfl, fun h => by rw [hTl3, if_pos h], fun h => by rw [hTl3, if_neg (by rw [h]; simp)]⟩
                generalize isNm t'.data.toList = ok at HI HSn
                clear hc' hext' ht' hy' hb2 hb3 hD' hTl3 HTl2 hsz'
                go_wp2_with (first
                  | (go_at_call 53; refine (HB'.out _).mono ?_; rintro e w3 ⟨rfl, rfl⟩)
                  | (go_at_call 55; refine (HI.out _).mono ?_; rintro e w4 ⟨rfl, rfl⟩))
                go_returns
                exact ⟨HSn.out, rfl⟩
        · rw [if_neg h59] at hTl
          have HSn := hid0 (saidNone x hTl)
          have h59I : ¬ (t[0].toNat : Int) = 59 := fun h => h59 (by
            rw [hc] at h
            apply UInt8.toNat_inj.1
            have : (59 : UInt8).toNat = 59 := rfl
            omega)
          have h59B : ((t[0].toNat : Int) == 59) = false := by simpa using h59I
          clear hc hext ht hy hb hb' hD hTl HTl hsz h59
          go_wp2_with (go_at_call 53; refine (HB.out _).mono ?_; rintro e w2 ⟨rfl, rfl⟩)
          go_returns
          exact ⟨HSn.out, rfl⟩
set_option maxRecDepth 10000 in
set_option maxHeartbeats 800000 in
theorem said_a (x : By) (hx : x.length ≤ 4194400) (w : World) (h1 : ptOk x = true) (r : By) (hr : r = x.drop (ptLen x)) (a b : UInt8) (r' : By) (hab : r = a :: b :: r') (ha : ¬ a = 46) : Calls Tryz.prog 30 #[.string (rd x)] w fun e w' => SaidIs x e ∧ w' = w := by
  have hP := refPoint_any (rd x) (by rw [rd_size]; exact hx) w
  have e1 : ptV (rd x).data.toList = ptVal x := by rw [ptV, if_pos (show ptOk (rd x).data.toList = true from h1)]
  have e2 : ptK (rd x).data.toList = ptLen x := by rw [ptK, if_pos (show ptOk (rd x).data.toList = true from h1)]
  rw [e1, e2] at hP
  have hk : 4 ≤ ptLen x ∧ ptLen x ≤ 6 := by simpa [ptOk] using h1
  have hkx : ptLen x ≤ x.length := (List.takeWhile_sublist isHx).length_le
  obtain ⟨t0, ht0⟩ : ∃ t0, (rd x).extract (ptLen x) (rd x).size = t0 := ⟨_, rfl⟩
  have HR : Hid (t0.data.toList = r) := hid0 (by rw [← ht0, extract_drop4, hr])
  have hz : t0.size = r.length := size_of _ _ HR.out
  have hrl : r.length ≤ x.length := by rw [hr]; exact len_drop_le _ _
  have hz4 : t0.size ≤ 4194400 := by omega
  have hk0 : ((ptLen x : Int) == 0) = false := by simpa using (show ¬ ptLen x = 0 by omega)
  have hkI : (ptLen x : Int) ≤ ((rd x).size : Int) := by rw [rd_size]; omega
  have hkI0 : (0 : Int) ≤ (ptLen x : Int) := by omega
  have HTl : Hid (saidL x = tailL (ptVal x) (ptVal x) r) := hid0 (by
    rw [saidL, if_pos h1]
    simp only
    rw [← hr, if_neg (by intro h; rw [hab] at h; simp at h; exact ha h.1)])
  have hz1 : 2 ≤ t0.size := by rw [hz, hab]; simp
  have hz2 : (2 : Int) ≤ (t0.size : Int) := by omega
  have i0 : 0 < t0.size := Nat.lt_of_lt_of_le (by decide) hz1
  have i1 : 1 < t0.size := Nat.lt_of_lt_of_le (by decide) hz1
  have c0 : t0[0]'i0 = a := head_of t0 _ _ (HR.out.trans hab) i0
  have c1 : t0[1]'i1 = b := second_of t0 _ _ _ (HR.out.trans hab) i1
  obtain ⟨x0, hx0⟩ : ∃ x0 : Int, ((t0[0]'i0).toNat : Int) = x0 := ⟨_, rfl⟩
  have d0 : (x0 == 46) = false := by rw [← hx0, c0]; exact ne46 a ha
  obtain ⟨s, hs⟩ : ∃ s, s = rd x := ⟨_, rfl⟩
  rw [← hs] at hP hkI ht0 ⊢
  obtain ⟨k, hk'⟩ : ∃ k, k = ptLen x := ⟨_, rfl⟩
  rw [← hk'] at hP hk0 hkI hkI0 ht0
  generalize ptVal x = lo at hP HTl
  clear e1 e2 h1 hx hr hk hkx hs hk' hz hrl hab ha c0 c1
  go_enter Tryz.func30, Tryz.ntmps30
  go_wp2_with (go_at_call 54; refine hP.mono ?_; rintro e w1 ⟨rfl, rfl⟩)
  clear d0 hx0
  go_loopw [0] (fun v wr => ∃ t : ByteArray, v = .string t ∧ t.size ≤ 4194400 ∧ Hid (t.data.toList.dropWhile isBl = r.dropWhile isBl) ∧ wr = w1) (fun v _ => strSize v)
  case atStart => exact ⟨_, rfl, hz4, hid0 (by rw [HR.out]), rfl⟩
  case round =>
    obtain ⟨t, rfl, hz, ht, rfl⟩ := hrel
    cases hy : t.data.toList with
    | nil =>
      have h0 : (t.size : Int) = 0 := by rw [size_of t _ hy]; rfl
      have hS : saidL x = none := by
        rw [HTl.out, tailL, ← ht.out, hy]; rfl
      have HSn := hid0 (saidNone x hS)
      clear ht hS HTl
      go_wp2
      go_returns
      exact ⟨HSn.out, rfl⟩
    | cons c y =>
      have hs0 : 0 < t.size := by rw [size_of t _ hy]; simp
      have h0 : (0 : Int) < (t.size : Int) := by omega
      have h00 : ((t.size : Int) == 0) = false := by simpa using (show ¬ (t.size : Int) = 0 by omega)
      have hc := head_of t c y hy hs0
      have HB := hid0 (refBlank_any t[0])
      have hext := ext_tail t c y hy
      have hsz : (t.extract 1 t.size).size = t.size - 1 := by rw [size_of _ _ hext, size_of t _ hy]; rfl
      by_cases hb : isBl c = true
      · rw [hc, hb, ← hc] at HB
        have HN : Hid ((t.extract 1 t.size).data.toList.dropWhile isBl = r.dropWhile isBl) := hid0 (by rw [hext, ← ht.out, hy, List.dropWhile_cons, if_pos hb])
        have h1I : (1 : Int) ≤ (t.size : Int) := by omega
        clear hc hext ht hy hb
        go_wp2_with (go_at_call 53; refine (HB.out _).mono ?_; rintro e w1 ⟨rfl, rfl⟩)
        go_roundw
        case rel => exact ⟨_, rfl, by omega, HN, trivial⟩
        case measure => simp only [strSize]; omega
      · have hb' : isBl c = false := by simpa using hb
        rw [hc, hb', ← hc] at HB
        have hD : r.dropWhile isBl = c :: y := by rw [← ht.out, hy, List.dropWhile_cons, if_neg hb]
        have hTl := HTl.out
        rw [tailL, hD] at hTl
        simp only at hTl
        by_cases h59 : c = 59
        · subst h59
          rw [if_pos rfl] at hTl
          have h59I : (t[0].toNat : Int) = 59 := by rw [hc]; rfl
          have h1I : (1 : Int) ≤ (t.size : Int) := by omega
          have HTl2 := hid0 hTl
          have HX := hid0 hext
          have HB59 : Hid (∀ w, Calls Tryz.prog 53 #[.int .u8 59] w fun e w' => e = .returned (.bool false) ∧ w' = w) := hid0 (fun w => refBlank_any 59 w)
          have hzz : (t.extract 1 t.size).size ≤ 4194400 := by omega
          clear hc hext ht hy hb hb' hD hTl HTl hsz HB
          go_wp2_with (go_at_call 53; refine (HB59.out _).mono ?_; rintro e w2 ⟨rfl, rfl⟩)
          clear HB59
          go_loopw [0] (fun v wr => ∃ t : ByteArray, v = .string t ∧ t.size ≤ 4194400 ∧ Hid (t.data.toList.dropWhile isBl = y.dropWhile isBl) ∧ wr = w2) (fun v _ => strSize v)
          case atStart => exact ⟨_, rfl, hzz, hid0 (by rw [HX.out]), rfl⟩
          case round =>
            obtain ⟨t', rfl, hz', ht', rfl⟩ := hrel
            clear hzz HX
            have HI := hid0 (refIsName_any t' hz')
            cases hy' : t'.data.toList with
            | nil =>
              have h0' : (t'.size : Int) = 0 := by rw [size_of t' _ hy']; rfl
              have hS : saidL x = none := by rw [HTl2.out, ← ht'.out, hy']; rfl
              have HSn : Hid (∀ (a b : Nat), SaidIs x (.returned (.tuple #[.int .i64 (a : Int), .int .i64 (b : Int), .string t', .bool false]))) := hid0 (fun a b => ⟨a, b, t', false, rfl, fun h => by simp at h, fun _ => hS⟩)
              have hi0 : isNm t'.data.toList = false := by rw [hy']; rfl
              rw [hi0] at HI
              clear ht' hS HTl2 hi0 hy'
              go_wp2_with (go_at_call 55; refine (HI.out _).mono ?_; rintro e w3 ⟨rfl, rfl⟩)
              go_returns
              exact ⟨HSn.out _ _, rfl⟩
            | cons c' y' =>
              have hs0' : 0 < t'.size := by rw [size_of t' _ hy']; simp
              have h0' : (0 : Int) < (t'.size : Int) := by omega
              have hc' := head_of t' c' y' hy' hs0'
              have HB' := hid0 (refBlank_any t'[0])
              have hext' := ext_tail t' c' y' hy'
              have hsz' : (t'.extract 1 t'.size).size = t'.size - 1 := by rw [size_of _ _ hext', size_of t' _ hy']; rfl
              by_cases hb2 : isBl c' = true
              · rw [hc', hb2, ← hc'] at HB'
                have HN : Hid ((t'.extract 1 t'.size).data.toList.dropWhile isBl = y.dropWhile isBl) := hid0 (by rw [hext', ← ht'.out, hy', List.dropWhile_cons, if_pos hb2])
                have h1I' : (1 : Int) ≤ (t'.size : Int) := by omega
                clear hc' hext' ht' hy' hb2 HI
                go_wp2_with (go_at_call 53; refine (HB'.out _).mono ?_; rintro e w3 ⟨rfl, rfl⟩)
                go_roundw
                case rel => exact ⟨_, rfl, by omega, HN, trivial⟩
                case measure => simp only [strSize]; omega
              · have hb3 : isBl c' = false := by simpa using hb2
                rw [hc', hb3, ← hc'] at HB'
                have hD' : y.dropWhile isBl = t'.data.toList := by rw [← ht'.out, hy', List.dropWhile_cons, if_neg hb2]
                have hTl3 := HTl2.out
                rw [hD'] at hTl3
                have HSn : Hid (SaidIs x (.returned (.tuple #[.int .i64 (lo : Int), .int .i64 (lo : Int), .string t', .bool (isNm t'.data.toList)]))) := hid0 ⟨lo, lo, t', isNm t'.data.toList, rfl, fun h => by rw [hTl3, if_pos h], fun h => by rw [hTl3, if_neg (by rw [h]; simp)]⟩
                generalize isNm t'.data.toList = ok at HI HSn
                clear hc' hext' ht' hy' hb2 hb3 hD' hTl3 HTl2 hsz'
                go_wp2_with (first
                  | (go_at_call 53; refine (HB'.out _).mono ?_; rintro e w3 ⟨rfl, rfl⟩)
                  | (go_at_call 55; refine (HI.out _).mono ?_; rintro e w4 ⟨rfl, rfl⟩))
                go_returns
                exact ⟨HSn.out, rfl⟩
        · rw [if_neg h59] at hTl
          have HSn := hid0 (saidNone x hTl)
          have h59I : ¬ (t[0].toNat : Int) = 59 := fun h => h59 (by
            rw [hc] at h
            apply UInt8.toNat_inj.1
            have : (59 : UInt8).toNat = 59 := rfl
            omega)
          have h59B : ((t[0].toNat : Int) == 59) = false := by simpa using h59I
          clear hc hext ht hy hb hb' hD hTl HTl hsz h59
          go_wp2_with (go_at_call 53; refine (HB.out _).mono ?_; rintro e w2 ⟨rfl, rfl⟩)
          go_returns
          exact ⟨HSn.out, rfl⟩
set_option maxRecDepth 10000 in
set_option maxHeartbeats 800000 in
theorem said_b (x : By) (hx : x.length ≤ 4194400) (w : World) (h1 : ptOk x = true) (r : By) (hr : r = x.drop (ptLen x)) (a b : UInt8) (r' : By) (hab : r = a :: b :: r') (ha : a = 46) (hb' : ¬ b = 46) : Calls Tryz.prog 30 #[.string (rd x)] w fun e w' => SaidIs x e ∧ w' = w := by
  have hP := refPoint_any (rd x) (by rw [rd_size]; exact hx) w
  have e1 : ptV (rd x).data.toList = ptVal x := by rw [ptV, if_pos (show ptOk (rd x).data.toList = true from h1)]
  have e2 : ptK (rd x).data.toList = ptLen x := by rw [ptK, if_pos (show ptOk (rd x).data.toList = true from h1)]
  rw [e1, e2] at hP
  have hk : 4 ≤ ptLen x ∧ ptLen x ≤ 6 := by simpa [ptOk] using h1
  have hkx : ptLen x ≤ x.length := (List.takeWhile_sublist isHx).length_le
  obtain ⟨t0, ht0⟩ : ∃ t0, (rd x).extract (ptLen x) (rd x).size = t0 := ⟨_, rfl⟩
  have HR : Hid (t0.data.toList = r) := hid0 (by rw [← ht0, extract_drop4, hr])
  have hz : t0.size = r.length := size_of _ _ HR.out
  have hrl : r.length ≤ x.length := by rw [hr]; exact len_drop_le _ _
  have hz4 : t0.size ≤ 4194400 := by omega
  have hk0 : ((ptLen x : Int) == 0) = false := by simpa using (show ¬ ptLen x = 0 by omega)
  have hkI : (ptLen x : Int) ≤ ((rd x).size : Int) := by rw [rd_size]; omega
  have hkI0 : (0 : Int) ≤ (ptLen x : Int) := by omega
  have HTl : Hid (saidL x = tailL (ptVal x) (ptVal x) r) := hid0 (by
    rw [saidL, if_pos h1]
    simp only
    rw [← hr, if_neg (by intro h; rw [hab] at h; simp at h; exact hb' h.2)])
  have hz1 : 2 ≤ t0.size := by rw [hz, hab]; simp
  have hz2 : (2 : Int) ≤ (t0.size : Int) := by omega
  have i0 : 0 < t0.size := Nat.lt_of_lt_of_le (by decide) hz1
  have i1 : 1 < t0.size := Nat.lt_of_lt_of_le (by decide) hz1
  have c0 : t0[0]'i0 = a := head_of t0 _ _ (HR.out.trans hab) i0
  have c1 : t0[1]'i1 = b := second_of t0 _ _ _ (HR.out.trans hab) i1
  have d0 : ((t0[0]'i0).toNat : Int) = 46 := by rw [c0, ha]; rfl
  obtain ⟨x1, hx1⟩ : ∃ x1 : Int, ((t0[1]'i1).toNat : Int) = x1 := ⟨_, rfl⟩
  have d1 : (x1 == 46) = false := by rw [← hx1, c1]; exact ne46 b hb'
  obtain ⟨s, hs⟩ : ∃ s, s = rd x := ⟨_, rfl⟩
  rw [← hs] at hP hkI ht0 ⊢
  obtain ⟨k, hk'⟩ : ∃ k, k = ptLen x := ⟨_, rfl⟩
  rw [← hk'] at hP hk0 hkI hkI0 ht0
  generalize ptVal x = lo at hP HTl
  clear e1 e2 h1 hx hr hk hkx hs hk' hz hrl hab ha c0 c1 hb'
  go_enter Tryz.func30, Tryz.ntmps30
  go_wp2_with (go_at_call 54; refine hP.mono ?_; rintro e w1 ⟨rfl, rfl⟩)
  clear d0 d1 hx1
  go_loopw [0] (fun v wr => ∃ t : ByteArray, v = .string t ∧ t.size ≤ 4194400 ∧ Hid (t.data.toList.dropWhile isBl = r.dropWhile isBl) ∧ wr = w1) (fun v _ => strSize v)
  case atStart => exact ⟨_, rfl, hz4, hid0 (by rw [HR.out]), rfl⟩
  case round =>
    obtain ⟨t, rfl, hz, ht, rfl⟩ := hrel
    cases hy : t.data.toList with
    | nil =>
      have h0 : (t.size : Int) = 0 := by rw [size_of t _ hy]; rfl
      have hS : saidL x = none := by
        rw [HTl.out, tailL, ← ht.out, hy]; rfl
      have HSn := hid0 (saidNone x hS)
      clear ht hS HTl
      go_wp2
      go_returns
      exact ⟨HSn.out, rfl⟩
    | cons c y =>
      have hs0 : 0 < t.size := by rw [size_of t _ hy]; simp
      have h0 : (0 : Int) < (t.size : Int) := by omega
      have h00 : ((t.size : Int) == 0) = false := by simpa using (show ¬ (t.size : Int) = 0 by omega)
      have hc := head_of t c y hy hs0
      have HB := hid0 (refBlank_any t[0])
      have hext := ext_tail t c y hy
      have hsz : (t.extract 1 t.size).size = t.size - 1 := by rw [size_of _ _ hext, size_of t _ hy]; rfl
      by_cases hb : isBl c = true
      · rw [hc, hb, ← hc] at HB
        have HN : Hid ((t.extract 1 t.size).data.toList.dropWhile isBl = r.dropWhile isBl) := hid0 (by rw [hext, ← ht.out, hy, List.dropWhile_cons, if_pos hb])
        have h1I : (1 : Int) ≤ (t.size : Int) := by omega
        clear hc hext ht hy hb
        go_wp2_with (go_at_call 53; refine (HB.out _).mono ?_; rintro e w1 ⟨rfl, rfl⟩)
        go_roundw
        case rel => exact ⟨_, rfl, by omega, HN, trivial⟩
        case measure => simp only [strSize]; omega
      · have hb' : isBl c = false := by simpa using hb
        rw [hc, hb', ← hc] at HB
        have hD : r.dropWhile isBl = c :: y := by rw [← ht.out, hy, List.dropWhile_cons, if_neg hb]
        have hTl := HTl.out
        rw [tailL, hD] at hTl
        simp only at hTl
        by_cases h59 : c = 59
        · subst h59
          rw [if_pos rfl] at hTl
          have h59I : (t[0].toNat : Int) = 59 := by rw [hc]; rfl
          have h1I : (1 : Int) ≤ (t.size : Int) := by omega
          have HTl2 := hid0 hTl
          have HX := hid0 hext
          have HB59 : Hid (∀ w, Calls Tryz.prog 53 #[.int .u8 59] w fun e w' => e = .returned (.bool false) ∧ w' = w) := hid0 (fun w => refBlank_any 59 w)
          have hzz : (t.extract 1 t.size).size ≤ 4194400 := by omega
          clear hc hext ht hy hb hb' hD hTl HTl hsz HB
          go_wp2_with (go_at_call 53; refine (HB59.out _).mono ?_; rintro e w2 ⟨rfl, rfl⟩)
          clear HB59
          go_loopw [0] (fun v wr => ∃ t : ByteArray, v = .string t ∧ t.size ≤ 4194400 ∧ Hid (t.data.toList.dropWhile isBl = y.dropWhile isBl) ∧ wr = w2) (fun v _ => strSize v)
          case atStart => exact ⟨_, rfl, hzz, hid0 (by rw [HX.out]), rfl⟩
          case round =>
            obtain ⟨t', rfl, hz', ht', rfl⟩ := hrel
            clear hzz HX
            have HI := hid0 (refIsName_any t' hz')
            cases hy' : t'.data.toList with
            | nil =>
              have h0' : (t'.size : Int) = 0 := by rw [size_of t' _ hy']; rfl
              have hS : saidL x = none := by rw [HTl2.out, ← ht'.out, hy']; rfl
              have HSn : Hid (∀ (a b : Nat), SaidIs x (.returned (.tuple #[.int .i64 (a : Int), .int .i64 (b : Int), .string t', .bool false]))) := hid0 (fun a b => ⟨a, b, t', false, rfl, fun h => by simp at h, fun _ => hS⟩)
              have hi0 : isNm t'.data.toList = false := by rw [hy']; rfl
              rw [hi0] at HI
              clear ht' hS HTl2 hi0 hy'
              go_wp2_with (go_at_call 55; refine (HI.out _).mono ?_; rintro e w3 ⟨rfl, rfl⟩)
              go_returns
              exact ⟨HSn.out _ _, rfl⟩
            | cons c' y' =>
              have hs0' : 0 < t'.size := by rw [size_of t' _ hy']; simp
              have h0' : (0 : Int) < (t'.size : Int) := by omega
              have hc' := head_of t' c' y' hy' hs0'
              have HB' := hid0 (refBlank_any t'[0])
              have hext' := ext_tail t' c' y' hy'
              have hsz' : (t'.extract 1 t'.size).size = t'.size - 1 := by rw [size_of _ _ hext', size_of t' _ hy']; rfl
              by_cases hb2 : isBl c' = true
              · rw [hc', hb2, ← hc'] at HB'
                have HN : Hid ((t'.extract 1 t'.size).data.toList.dropWhile isBl = y.dropWhile isBl) := hid0 (by rw [hext', ← ht'.out, hy', List.dropWhile_cons, if_pos hb2])
                have h1I' : (1 : Int) ≤ (t'.size : Int) := by omega
                clear hc' hext' ht' hy' hb2 HI
                go_wp2_with (go_at_call 53; refine (HB'.out _).mono ?_; rintro e w3 ⟨rfl, rfl⟩)
                go_roundw
                case rel => exact ⟨_, rfl, by omega, HN, trivial⟩
                case measure => simp only [strSize]; omega
              · have hb3 : isBl c' = false := by simpa using hb2
                rw [hc', hb3, ← hc'] at HB'
                have hD' : y.dropWhile isBl = t'.data.toList := by rw [← ht'.out, hy', List.dropWhile_cons, if_neg hb2]
                have hTl3 := HTl2.out
                rw [hD'] at hTl3
                have HSn : Hid (SaidIs x (.returned (.tuple #[.int .i64 (lo : Int), .int .i64 (lo : Int), .string t', .bool (isNm t'.data.toList)]))) := hid0 ⟨lo, lo, t', isNm t'.data.toList, rfl, fun h => by rw [hTl3, if_pos h], fun h => by rw [hTl3, if_neg (by rw [h]; simp)]⟩
                generalize isNm t'.data.toList = ok at HI HSn
                clear hc' hext' ht' hy' hb2 hb3 hD' hTl3 HTl2 hsz'
                go_wp2_with (first
                  | (go_at_call 53; refine (HB'.out _).mono ?_; rintro e w3 ⟨rfl, rfl⟩)
                  | (go_at_call 55; refine (HI.out _).mono ?_; rintro e w4 ⟨rfl, rfl⟩))
                go_returns
                exact ⟨HSn.out, rfl⟩
        · rw [if_neg h59] at hTl
          have HSn := hid0 (saidNone x hTl)
          have h59I : ¬ (t[0].toNat : Int) = 59 := fun h => h59 (by
            rw [hc] at h
            apply UInt8.toNat_inj.1
            have : (59 : UInt8).toNat = 59 := rfl
            omega)
          have h59B : ((t[0].toNat : Int) == 59) = false := by simpa using h59I
          clear hc hext ht hy hb hb' hD hTl HTl hsz h59
          go_wp2_with (go_at_call 53; refine (HB.out _).mono ?_; rintro e w2 ⟨rfl, rfl⟩)
          go_returns
          exact ⟨HSn.out, rfl⟩
set_option maxRecDepth 10000 in
set_option maxHeartbeats 800000 in
theorem said_n (x : By) (hx : x.length ≤ 4194400) (w : World) (h1 : ptOk x = true) (r : By) (hr : r = x.drop (ptLen x)) (r' : By) (hab : r = 46 :: 46 :: r') (h3 : ptOk r' = false) : Calls Tryz.prog 30 #[.string (rd x)] w fun e w' => SaidIs x e ∧ w' = w := by
  have hP := refPoint_any (rd x) (by rw [rd_size]; exact hx) w
  have e1 : ptV (rd x).data.toList = ptVal x := by rw [ptV, if_pos (show ptOk (rd x).data.toList = true from h1)]
  have e2 : ptK (rd x).data.toList = ptLen x := by rw [ptK, if_pos (show ptOk (rd x).data.toList = true from h1)]
  rw [e1, e2] at hP
  have hk : 4 ≤ ptLen x ∧ ptLen x ≤ 6 := by simpa [ptOk] using h1
  have hkx : ptLen x ≤ x.length := (List.takeWhile_sublist isHx).length_le
  obtain ⟨t0, ht0⟩ : ∃ t0, (rd x).extract (ptLen x) (rd x).size = t0 := ⟨_, rfl⟩
  have HR : Hid (t0.data.toList = r) := hid0 (by rw [← ht0, extract_drop4, hr])
  have hz : t0.size = r.length := size_of _ _ HR.out
  have hrl : r.length ≤ x.length := by rw [hr]; exact len_drop_le _ _
  have hz4 : t0.size ≤ 4194400 := by omega
  have hk0 : ((ptLen x : Int) == 0) = false := by simpa using (show ¬ ptLen x = 0 by omega)
  have hkI : (ptLen x : Int) ≤ ((rd x).size : Int) := by rw [rd_size]; omega
  have hkI0 : (0 : Int) ≤ (ptLen x : Int) := by omega
  have hz1 : 2 ≤ t0.size := by rw [hz, hab]; simp
  have hz2 : (2 : Int) ≤ (t0.size : Int) := by omega
  have i0 : 0 < t0.size := Nat.lt_of_lt_of_le (by decide) hz1
  have i1 : 1 < t0.size := Nat.lt_of_lt_of_le (by decide) hz1
  have c0 : t0[0]'i0 = 46 := head_of t0 _ _ (HR.out.trans hab) i0
  have c1 : t0[1]'i1 = 46 := second_of t0 _ _ _ (HR.out.trans hab) i1
  have d0 : ((t0[0]'i0).toNat : Int) = 46 := by rw [c0]; rfl
  have d1 : ((t0[1]'i1).toNat : Int) = 46 := by rw [c1]; rfl
  obtain ⟨t2, ht2⟩ : ∃ t2, t0.extract 2 t0.size = t2 := ⟨_, rfl⟩
  have HR2 : Hid (t2.data.toList = r') := hid0 (by rw [← ht2, extract_drop4, HR.out, hab]; rfl)
  have hz2' : t2.size ≤ 4194400 := by rw [size_of _ _ HR2.out]; rw [hab] at hrl; simp at hrl; omega
  have hP2 := fun w => refPoint_any t2 hz2' w
  have f1 : ptV t2.data.toList = 0 := by rw [ptV, HR2.out, h3]; rfl
  have f2 : ptK t2.data.toList = 0 := by rw [ptK, HR2.out, h3]; rfl
  rw [f1, f2] at hP2
  have HSn := hid0 (saidNone x (by
    rw [saidL, if_pos h1]
    simp only
    rw [← hr, hab, if_pos (show List.take 2 (46 :: 46 :: r') = [46, 46] from rfl), show (46 :: 46 :: r').drop 2 = r' from rfl, h3]
    rfl))
  obtain ⟨s, hs⟩ : ∃ s, s = rd x := ⟨_, rfl⟩
  rw [← hs] at hP hkI ht0 ⊢
  obtain ⟨k, hk'⟩ : ∃ k, k = ptLen x := ⟨_, rfl⟩
  rw [← hk'] at hP hk0 hkI hkI0 ht0
  generalize ptVal x = lo at hP
  clear e1 e2 h1 hx hr hk hkx hs hk' hz hrl hab c0 c1 f1 f2 h3 HR HR2
  go_enter Tryz.func30, Tryz.ntmps30
  have HP2 := hid0 hP2
  clear hP2
  go_wp2_with (first
    | (go_at_call 54; refine hP.mono ?_; rintro e w1 ⟨rfl, rfl⟩; clear hP)
    | (go_at_call 54; refine (HP2.out _).mono ?_; rintro e w1 ⟨rfl, rfl⟩))
  go_returns
  exact ⟨HSn.out, rfl⟩
set_option maxRecDepth 10000 in
set_option maxHeartbeats 800000 in
theorem said_y (x : By) (hx : x.length ≤ 4194400) (w : World) (h1 : ptOk x = true) (r : By) (hr : r = x.drop (ptLen x)) (r' : By) (hab : r = 46 :: 46 :: r') (h3 : ptOk r' = true) : Calls Tryz.prog 30 #[.string (rd x)] w fun e w' => SaidIs x e ∧ w' = w := by
  have hP := refPoint_any (rd x) (by rw [rd_size]; exact hx) w
  have e1 : ptV (rd x).data.toList = ptVal x := by rw [ptV, if_pos (show ptOk (rd x).data.toList = true from h1)]
  have e2 : ptK (rd x).data.toList = ptLen x := by rw [ptK, if_pos (show ptOk (rd x).data.toList = true from h1)]
  rw [e1, e2] at hP
  have hk : 4 ≤ ptLen x ∧ ptLen x ≤ 6 := by simpa [ptOk] using h1
  have hkx : ptLen x ≤ x.length := (List.takeWhile_sublist isHx).length_le
  obtain ⟨t0, ht0⟩ : ∃ t0, (rd x).extract (ptLen x) (rd x).size = t0 := ⟨_, rfl⟩
  have HR : Hid (t0.data.toList = r) := hid0 (by rw [← ht0, extract_drop4, hr])
  have hz : t0.size = r.length := size_of _ _ HR.out
  have hrl : r.length ≤ x.length := by rw [hr]; exact len_drop_le _ _
  have hz4 : t0.size ≤ 4194400 := by omega
  have hk0 : ((ptLen x : Int) == 0) = false := by simpa using (show ¬ ptLen x = 0 by omega)
  have hkI : (ptLen x : Int) ≤ ((rd x).size : Int) := by rw [rd_size]; omega
  have hkI0 : (0 : Int) ≤ (ptLen x : Int) := by omega
  have hz1 : 2 ≤ t0.size := by rw [hz, hab]; simp
  have hz2 : (2 : Int) ≤ (t0.size : Int) := by omega
  have i0 : 0 < t0.size := Nat.lt_of_lt_of_le (by decide) hz1
  have i1 : 1 < t0.size := Nat.lt_of_lt_of_le (by decide) hz1
  have c0 : t0[0]'i0 = 46 := head_of t0 _ _ (HR.out.trans hab) i0
  have c1 : t0[1]'i1 = 46 := second_of t0 _ _ _ (HR.out.trans hab) i1
  have d0 : ((t0[0]'i0).toNat : Int) = 46 := by rw [c0]; rfl
  have d1 : ((t0[1]'i1).toNat : Int) = 46 := by rw [c1]; rfl
  obtain ⟨t2, ht2⟩ : ∃ t2, t0.extract 2 t0.size = t2 := ⟨_, rfl⟩
  have HR2 : Hid (t2.data.toList = r') := hid0 (by rw [← ht2, extract_drop4, HR.out, hab]; rfl)
  have hz2' : t2.size ≤ 4194400 := by rw [size_of _ _ HR2.out]; rw [hab] at hrl; simp at hrl; omega
  have hP2 := fun w => refPoint_any t2 hz2' w
  have f1 : ptV t2.data.toList = ptVal r' := by rw [ptV, HR2.out, h3]; rfl
  have f2 : ptK t2.data.toList = ptLen r' := by rw [ptK, HR2.out, h3]; rfl
  rw [f1, f2] at hP2
  have hm : 4 ≤ ptLen r' ∧ ptLen r' ≤ 6 := by simpa [ptOk] using h3
  have hmr : ptLen r' ≤ r'.length := (List.takeWhile_sublist isHx).length_le
  obtain ⟨r3, hr3⟩ : ∃ r3, r'.drop (ptLen r') = r3 := ⟨_, rfl⟩
  have HTl : Hid (saidL x = tailL (ptVal x) (ptVal r') r3) := hid0 (by
    rw [saidL, if_pos h1]
    simp only
    rw [← hr, hab, if_pos (show List.take 2 (46 :: 46 :: r') = [46, 46] from rfl), show (46 :: 46 :: r').drop 2 = r' from rfl, if_pos h3, hr3])
  obtain ⟨t3, ht3⟩ : ∃ t3, t0.extract (2 + ptLen r') t0.size = t3 := ⟨_, rfl⟩
  have HR3 : Hid (t3.data.toList = r3) := hid0 (by rw [← ht3, extract_drop4, HR.out, hab, ← hr3, show 2 + ptLen r' = ptLen r' + 2 by omega]; rfl)
  have hz3 : t3.size ≤ 4194400 := by rw [size_of _ _ HR3.out, ← hr3, List.length_drop]; rw [hab] at hrl; simp at hrl; omega
  have hm0 : ((ptLen r' : Int) == 0) = false := by simpa using (show ¬ ptLen r' = 0 by omega)
  have hm1 : (2 : Int) + (ptLen r' : Int) ≤ (t0.size : Int) := by rw [hz, hab]; simp; omega
  have hm2 : (0 : Int) ≤ (ptLen r' : Int) := by omega
  obtain ⟨s, hs⟩ : ∃ s, s = rd x := ⟨_, rfl⟩
  rw [← hs] at hP hkI ht0 ⊢
  obtain ⟨k, hk'⟩ : ∃ k, k = ptLen x := ⟨_, rfl⟩
  rw [← hk'] at hP hk0 hkI hkI0 ht0
  obtain ⟨m, hm'⟩ : ∃ m, m = ptLen r' := ⟨_, rfl⟩
  rw [← hm'] at hP2 hm0 hm1 hm2 ht3
  generalize ptVal x = lo at hP HTl
  generalize ptVal r' = hi at hP2 HTl
  have HT3 := hid0 ht3
  clear e1 e2 h1 hx hr hk hkx hs hk' hz hrl hab c0 c1 f1 f2 h3 hm hmr hr3 HR HR2 hm' ht3
  go_enter Tryz.func30, Tryz.ntmps30
  have HP2 := hid0 hP2
  clear hP2
  go_wp2_with (first
    | (go_at_call 54; refine hP.mono ?_; rintro e w1 ⟨rfl, rfl⟩; clear hP)
    | (go_at_call 54; refine (HP2.out _).mono ?_; rintro e w1 ⟨rfl, rfl⟩))
  clear d0 d1
  go_loopw [0] (fun v wr => ∃ t : ByteArray, v = .string t ∧ t.size ≤ 4194400 ∧ Hid (t.data.toList.dropWhile isBl = r3.dropWhile isBl) ∧ wr = w1) (fun v _ => strSize v)
  case atStart => exact ⟨_, rfl, by rw [HT3.out]; exact hz3, hid0 (by rw [HT3.out, HR3.out]), rfl⟩
  case round =>
    obtain ⟨t, rfl, hz, ht, rfl⟩ := hrel
    cases hy : t.data.toList with
    | nil =>
      have h0 : (t.size : Int) = 0 := by rw [size_of t _ hy]; rfl
      have hS : saidL x = none := by
        rw [HTl.out, tailL, ← ht.out, hy]; rfl
      have HSn := hid0 (saidNone x hS)
      clear ht hS HTl
      go_wp2
      go_returns
      exact ⟨HSn.out, rfl⟩
    | cons c y =>
      have hs0 : 0 < t.size := by rw [size_of t _ hy]; simp
      have h0 : (0 : Int) < (t.size : Int) := by omega
      have h00 : ((t.size : Int) == 0) = false := by simpa using (show ¬ (t.size : Int) = 0 by omega)
      have hc := head_of t c y hy hs0
      have HB := hid0 (refBlank_any t[0])
      have hext := ext_tail t c y hy
      have hsz : (t.extract 1 t.size).size = t.size - 1 := by rw [size_of _ _ hext, size_of t _ hy]; rfl
      by_cases hb : isBl c = true
      · rw [hc, hb, ← hc] at HB
        have HN : Hid ((t.extract 1 t.size).data.toList.dropWhile isBl = r3.dropWhile isBl) := hid0 (by rw [hext, ← ht.out, hy, List.dropWhile_cons, if_pos hb])
        have h1I : (1 : Int) ≤ (t.size : Int) := by omega
        clear hc hext ht hy hb
        go_wp2_with (go_at_call 53; refine (HB.out _).mono ?_; rintro e w1 ⟨rfl, rfl⟩)
        go_roundw
        case rel => exact ⟨_, rfl, by omega, HN, trivial⟩
        case measure => simp only [strSize]; omega
      · have hb' : isBl c = false := by simpa using hb
        rw [hc, hb', ← hc] at HB
        have hD : r3.dropWhile isBl = c :: y := by rw [← ht.out, hy, List.dropWhile_cons, if_neg hb]
        have hTl := HTl.out
        rw [tailL, hD] at hTl
        simp only at hTl
        by_cases h59 : c = 59
        · subst h59
          rw [if_pos rfl] at hTl
          have h59I : (t[0].toNat : Int) = 59 := by rw [hc]; rfl
          have h1I : (1 : Int) ≤ (t.size : Int) := by omega
          have HTl2 := hid0 hTl
          have HX := hid0 hext
          have HB59 : Hid (∀ w, Calls Tryz.prog 53 #[.int .u8 59] w fun e w' => e = .returned (.bool false) ∧ w' = w) := hid0 (fun w => refBlank_any 59 w)
          have hzz : (t.extract 1 t.size).size ≤ 4194400 := by omega
          clear hc hext ht hy hb hb' hD hTl HTl hsz HB
          go_wp2_with (go_at_call 53; refine (HB59.out _).mono ?_; rintro e w2 ⟨rfl, rfl⟩)
          clear HB59
          go_loopw [0] (fun v wr => ∃ t : ByteArray, v = .string t ∧ t.size ≤ 4194400 ∧ Hid (t.data.toList.dropWhile isBl = y.dropWhile isBl) ∧ wr = w2) (fun v _ => strSize v)
          case atStart => exact ⟨_, rfl, hzz, hid0 (by rw [HX.out]), rfl⟩
          case round =>
            obtain ⟨t', rfl, hz', ht', rfl⟩ := hrel
            clear hzz HX
            have HI := hid0 (refIsName_any t' hz')
            cases hy' : t'.data.toList with
            | nil =>
              have h0' : (t'.size : Int) = 0 := by rw [size_of t' _ hy']; rfl
              have hS : saidL x = none := by rw [HTl2.out, ← ht'.out, hy']; rfl
              have HSn : Hid (∀ (a b : Nat), SaidIs x (.returned (.tuple #[.int .i64 (a : Int), .int .i64 (b : Int), .string t', .bool false]))) := hid0 (fun a b => ⟨a, b, t', false, rfl, fun h => by simp at h, fun _ => hS⟩)
              have hi0 : isNm t'.data.toList = false := by rw [hy']; rfl
              rw [hi0] at HI
              clear ht' hS HTl2 hi0 hy'
              go_wp2_with (go_at_call 55; refine (HI.out _).mono ?_; rintro e w3 ⟨rfl, rfl⟩)
              go_returns
              exact ⟨HSn.out _ _, rfl⟩
            | cons c' y' =>
              have hs0' : 0 < t'.size := by rw [size_of t' _ hy']; simp
              have h0' : (0 : Int) < (t'.size : Int) := by omega
              have hc' := head_of t' c' y' hy' hs0'
              have HB' := hid0 (refBlank_any t'[0])
              have hext' := ext_tail t' c' y' hy'
              have hsz' : (t'.extract 1 t'.size).size = t'.size - 1 := by rw [size_of _ _ hext', size_of t' _ hy']; rfl
              by_cases hb2 : isBl c' = true
              · rw [hc', hb2, ← hc'] at HB'
                have HN : Hid ((t'.extract 1 t'.size).data.toList.dropWhile isBl = y.dropWhile isBl) := hid0 (by rw [hext', ← ht'.out, hy', List.dropWhile_cons, if_pos hb2])
                have h1I' : (1 : Int) ≤ (t'.size : Int) := by omega
                clear hc' hext' ht' hy' hb2 HI
                go_wp2_with (go_at_call 53; refine (HB'.out _).mono ?_; rintro e w3 ⟨rfl, rfl⟩)
                go_roundw
                case rel => exact ⟨_, rfl, by omega, HN, trivial⟩
                case measure => simp only [strSize]; omega
              · have hb3 : isBl c' = false := by simpa using hb2
                rw [hc', hb3, ← hc'] at HB'
                have hD' : y.dropWhile isBl = t'.data.toList := by rw [← ht'.out, hy', List.dropWhile_cons, if_neg hb2]
                have hTl3 := HTl2.out
                rw [hD'] at hTl3
                have HSn : Hid (SaidIs x (.returned (.tuple #[.int .i64 (lo : Int), .int .i64 (hi : Int), .string t', .bool (isNm t'.data.toList)]))) := hid0 ⟨lo, hi, t', isNm t'.data.toList, rfl, fun h => by rw [hTl3, if_pos h], fun h => by rw [hTl3, if_neg (by rw [h]; simp)]⟩
                generalize isNm t'.data.toList = ok at HI HSn
                clear hc' hext' ht' hy' hb2 hb3 hD' hTl3 HTl2 hsz'
                go_wp2_with (first
                  | (go_at_call 53; refine (HB'.out _).mono ?_; rintro e w3 ⟨rfl, rfl⟩)
                  | (go_at_call 55; refine (HI.out _).mono ?_; rintro e w4 ⟨rfl, rfl⟩))
                go_returns
                exact ⟨HSn.out, rfl⟩
        · rw [if_neg h59] at hTl
          have HSn := hid0 (saidNone x hTl)
          have h59I : ¬ (t[0].toNat : Int) = 59 := fun h => h59 (by
            rw [hc] at h
            apply UInt8.toNat_inj.1
            have : (59 : UInt8).toNat = 59 := rfl
            omega)
          have h59B : ((t[0].toNat : Int) == 59) = false := by simpa using h59I
          clear hc hext ht hy hb hb' hD hTl HTl hsz h59
          go_wp2_with (go_at_call 53; refine (HB.out _).mono ?_; rintro e w2 ⟨rfl, rfl⟩)
          go_returns
          exact ⟨HSn.out, rfl⟩
end Go.Proofs.YthdmhelgmejicaaGreatDoor
