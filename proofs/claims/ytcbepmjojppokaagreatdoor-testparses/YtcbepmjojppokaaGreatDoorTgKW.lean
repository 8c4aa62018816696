/-
  strings.IndexAny at the blanks, whatever the text.
-/
import Derived.Test.YtcbepmjojppokaaGreatDoorTgJW
import Derived.Laws.RangeAny
import Derived.Laws.Runes
import Derived.BigQuiet
import Derived.WalkMore
import Derived.Lib.OthersKept
import Derived.Scope
namespace Go.Proofs.YtcbepmjojppokaaGreatDoor
open Go.RowKit Go.Shelf
set_option maxRecDepth 10000 in
theorem vRune_any (c : Int) (h0 : 0 ≤ c) (h1 : c ≤ 2147483647) (w : World) : Calls Tryz.prog 89 #[.int .i32 c] w fun e w' => e = .returned (.bool (Go.validRune c)) ∧ w' = w := by
  by_cases a1 : c < 55296
  · have hv : Go.validRune c = true := by unfold Go.validRune; exact decide_eq_true (.inl ⟨h0, a1⟩)
    rw [hv]
    clear hv
    go_enter Tryz.func89, Tryz.ntmps89
    go_wp2
    go_ret
    exact ⟨rfl, rfl⟩
  · by_cases a2 : 57343 < c
    · by_cases a3 : c ≤ 1114111
      · have hv : Go.validRune c = true := by unfold Go.validRune; exact decide_eq_true (.inr ⟨a2, a3⟩)
        rw [hv]
        clear hv
        go_enter Tryz.func89, Tryz.ntmps89
        go_wp2
        go_ret
        exact ⟨rfl, rfl⟩
      · have hv : Go.validRune c = false := by unfold Go.validRune; exact decide_eq_false (by omega)
        rw [hv]
        clear hv
        go_enter Tryz.func89, Tryz.ntmps89
        go_wp2
        go_ret
        exact ⟨rfl, rfl⟩
    · have hv : Go.validRune c = false := by unfold Go.validRune; exact decide_eq_false (by omega)
      rw [hv]
      clear hv
      go_enter Tryz.func89, Tryz.ntmps89
      go_wp2
      go_ret
      exact ⟨rfl, rfl⟩
set_option maxRecDepth 100000 in
set_option maxHeartbeats 3200000 in
theorem indexRune_high (c : Int) (h0 : 128 ≤ c) (h1 : c ≤ 2147483647) (w : World) : Calls Tryz.prog 104 #[.string ⟨#[32, 9]⟩, .int .i32 c] w fun e w' => e = .returned (.int .i64 (-1)) ∧ Below w.heap.size w w' := by
  have HV := hid0 (fun W => vRune_any c (by omega) h1 W)
  have h128 : ¬ c < 128 := by omega
  have hz : (0 : Int) ≤ c := by omega
  by_cases hf : c = 65533
  · subst hf
    have n0 := fun ty => run_next_ascii (P := Tryz.prog) w ⟨#[32, 9]⟩ 0 ty (by decide) (by decide)
    have n1 := fun ty => run_next_ascii (P := Tryz.prog) w ⟨#[32, 9]⟩ 1 ty (by decide) (by decide)
    have n2 := fun ty => run_next_end (P := Tryz.prog) w ⟨#[32, 9]⟩ 2 ty (by decide)
    go_enter Tryz.func104, Tryz.ntmps104
    go_wp2
    refine wp_loop_rounds 3 ?_
    rw [rounds_succ]
    go_wp2
    rw [rounds_succ]
    go_wp2
    rw [rounds_succ]
    go_wp2
    go_ret
    exact ⟨rfl, (Below.refl _ _).alloc (Nat.le_refl _) _⟩
  · have hfb : (c == 65533) = false := by simpa using hf
    cases hv : Go.validRune c with
    | false =>
      rw [hv] at HV
      go_enter Tryz.func104, Tryz.ntmps104
      go_wp2_with (go_at_call 89; refine (HV.out _).mono ?_; rintro e x1 ⟨rfl, rfl⟩)
      go_ret
      exact ⟨rfl, Below.refl _ _⟩
    | true =>
      rw [hv] at HV
      obtain ⟨e1, e2, e3⟩ := encode_facts c (by rw [validRune_eq]; exact hv) h0
      obtain ⟨R, hR⟩ : ∃ R, R = Utf8.encode c := ⟨_, rfl⟩
      rw [← hR] at e1 e2 e3
      have e3' := e3 (by omega)
      have HI : Hid (∀ W, Calls Tryz.prog 44 #[.string ByteArray.empty, .int .u8 ((R[R.size - 1]'(by omega)).toNat : Int)] W fun e w' => e = .returned (.int .i64 (-1)) ∧ w' = W) := hid0 (fun W => Any.strings_IndexByte Tryz.lays137 ByteArray.empty _ W)
      have hcv := fun W => run_convert_int_string (P := Tryz.prog) W 21 9 .i32 c (by kernel_rfl) Tryz.underlying9
      rw [← hR] at hcv
      by_cases hs : R.size = 2
      · have hl : R.size - 1 = 1 := by omega
        have hr1 : R[1]? = some (R[1]'(by omega)) := by simp [hs]
        obtain ⟨q, hq⟩ : ∃ q : UInt8, R[1]'(by omega) = q := ⟨_, rfl⟩
        simp only [hl] at e3' HI
        rw [hq] at e3' HI
        have hne : ((((⟨#[32, 9]⟩ : ByteArray)[1]'(by decide)).toNat : Int) != (q.toNat : Int)) = true := by
          show ((9 : Int) != (q.toNat : Int)) = true
          simp; omega
        have hne2 : ((((⟨#[32, 9]⟩ : ByteArray)[1]'(by decide)).toNat : Int) = (q.toNat : Int)) = False := by
          show ((9 : Int) = (q.toNat : Int)) = False
          simp; omega
        have hI : (R.size : Int) = 2 := by omega
        have hw2 : IntKind.i64.wrap 2 = 2 := by decide
        have hsz : (⟨#[32, 9]⟩ : ByteArray).size = 2 := rfl
        clear hR e3 hv
        go_enter Tryz.func104, Tryz.ntmps104
        go_wp2_with (first
          | (go_at_call 89; refine (HV.out _).mono ?_; rintro e x1 ⟨rfl, rfl⟩)
          | fail)
        go_step3
        go_wp2
        refine wp_loop_rounds 1 ?_
        rw [rounds_succ]
        go_wp2
        go_step3
        go_wp2
        go_quiet ((fail))
        go_wp2
        go_quiet ((go_at_call 44; exact (HI.out _).mono (fun e y h => ⟨h.1, _, h.2⟩)))
        go_wp2
        rw [Exit.noGoto_ret]
        go_wp2
        rw [Exit.noGoto_ret]
        go_ret
        exact ⟨rfl, below_drew' (Below.refl _ _) _⟩
      · have hI : ¬ (R.size : Int) - 1 < 2 := by omega
        clear hR e3 hv e3' HI
        go_enter Tryz.func104, Tryz.ntmps104
        go_wp2_with (first
          | (go_at_call 89; refine (HV.out _).mono ?_; rintro e x1 ⟨rfl, rfl⟩)
          | fail)
        go_step3
        go_wp2
        refine wp_loop_rounds 1 ?_
        rw [rounds_succ]
        go_wp2
        rw [Exit.noGoto_ret]
        go_ret
        exact ⟨rfl, Below.refl _ _⟩
theorem decode_len (s : ByteArray) (pos : Nat) : (Utf8.decode s pos).2 = 1 ∨ ((Utf8.decode s pos).2 = 2 ∧ (pos + 1 < s.size ∧ (s.get! (pos + 1)).toNat / 64 = 2)) ∨ ((Utf8.decode s pos).2 = 3 ∧ (pos + 1 < s.size ∧ (s.get! (pos + 1)).toNat / 64 = 2) ∧ (pos + 2 < s.size ∧ (s.get! (pos + 2)).toNat / 64 = 2)) ∨ ((Utf8.decode s pos).2 = 4 ∧ (pos + 1 < s.size ∧ (s.get! (pos + 1)).toNat / 64 = 2) ∧ (pos + 2 < s.size ∧ (s.get! (pos + 2)).toNat / 64 = 2) ∧ (pos + 3 < s.size ∧ (s.get! (pos + 3)).toNat / 64 = 2)) := by
  simp only [Utf8.decode]
  repeat' split
  all_goals simp_all
theorem get_bang (s : ByteArray) (j : Nat) (h : j < s.size) : s.get! j = s[j]'h := by
  have := get_at s j h
  simpa using this
theorem decode_cover (s : ByteArray) (pos : Nat) (h : pos < s.size) (ha : 128 ≤ (s[pos]'h).toNat) : pos + (Utf8.decode s pos).2 ≤ s.size ∧ ∀ j (hj : j < s.size), pos ≤ j → j < pos + (Utf8.decode s pos).2 → 128 ≤ (s[j]'hj).toNat := by
  have key : ∀ k, pos + k < s.size ∧ (s.get! (pos + k)).toNat / 64 = 2 → ∀ j (hj : j < s.size), j = pos + k → 128 ≤ (s[j]'hj).toNat := fun k hk j hj e => by
    subst e
    have := hk.2
    rw [get_bang s _ hj] at this
    omega
  rcases decode_len s pos with e | ⟨e, c1⟩ | ⟨e, c1, c2⟩ | ⟨e, c1, c2, c3⟩
  · rw [e]
    refine ⟨by omega, fun j hj h1 h2 => ?_⟩
    have : j = pos := by omega
    subst this
    exact ha
  · rw [e]
    refine ⟨by omega, fun j hj h1 h2 => ?_⟩
    rcases (show j = pos ∨ j = pos + 1 by omega) with rfl | e
    · exact ha
    · exact key 1 c1 j hj e
  · rw [e]
    refine ⟨by omega, fun j hj h1 h2 => ?_⟩
    rcases (show j = pos ∨ j = pos + 1 ∨ j = pos + 2 by omega) with rfl | e | e
    · exact ha
    · exact key 1 c1 j hj e
    · exact key 2 c2 j hj e
  · rw [e]
    refine ⟨by omega, fun j hj h1 h2 => ?_⟩
    rcases (show j = pos ∨ j = pos + 1 ∨ j = pos + 2 ∨ j = pos + 3 by omega) with rfl | e | e | e
    · exact ha
    · exact key 1 c1 j hj e
    · exact key 2 c2 j hj e
    · exact key 3 c3 j hj e
theorem noAny_many (s : ByteArray) (i n : Nat) (h : Lib.NoAny s.data.toList [32, 9] i) (hn : i + n ≤ s.size) (hb : ∀ j (hj : j < s.size), i ≤ j → j < i + n → 128 ≤ (s[j]'hj).toNat) : Lib.NoAny s.data.toList [32, 9] (i + n) := by
  induction n with
  | zero => exact h
  | succ n ih =>
    have h1 := ih (by omega) (fun j hj a b => hb j hj a (by omega))
    have h2 := hb (i + n) (by omega) (by omega) (by omega)
    have h3 : s.data.toList[i + n]? = some (s[i + n]'(by omega)) := bget s _ _
    refine h1.succ h3 ?_
    generalize s[i + n]'(by omega) = x at *
    cases hc : ([32, 9] : List UInt8).contains x with
    | false => rfl
    | true =>
      exfalso
      simp at hc
      rcases hc with rfl | rfl <;> simp at h2

theorem indexAny_long (s : ByteArray) (hs : s.size < 4294967281) (h8 : 8 < s.size) (w : World) : Calls Tryz.prog 86 #[.string s, .string ⟨#[32, 9]⟩] w fun e w' => e = .returned (.int .i64 (Lib.indexAny s.data.toList [32, 9])) ∧ Below w.heap.size w w' := by
  have h116 : (Tryz.prog.info? 120).map (fun i => (i.zero, i.size)) = some (some (.agg (Array.replicate 256 (.bool false))), 256) := by kernel_rfl
  have hac : ∀ (j : Nat) b, (⟨#[32, 9]⟩ : ByteArray).data.toList[j]? = some b → b.toNat < 128 := ascii_of_all (by decide)
  refine (Any.strings_IndexAny_long Tryz.lays153 (zero_of_info h116).1 (zero_of_info h116).2 s ⟨#[32, 9]⟩ w (by decide) (by omega) hs (by decide) hac).mono fun e w' ⟨h1, h2⟩ => ⟨h1, ?_⟩
  rw [h2]
  exact ((Below.refl _ _).alloc (Nat.le_refl _) _).alloc (by simp) _
set_option maxRecDepth 100000 in
set_option maxHeartbeats 3200000 in
theorem indexAny_short (s : ByteArray) (h8 : s.size ≤ 8) (w : World) : Calls Tryz.prog 86 #[.string s, .string ⟨#[32, 9]⟩] w fun e w' => e = .returned (.int .i64 (Lib.indexAny s.data.toList [32, 9])) ∧ Below w.heap.size w w' := by
  have h8z : ¬ (8 : Int) < (s.size : Int) := by omega
  have HEnd : Hid (∀ i, i = s.size → Lib.NoAny s.data.toList [32, 9] i → Lib.indexAny s.data.toList [32, 9] = -1) := hid0 (fun i hi h => Lib.indexAny_none (by subst hi; rw [bsize0]; exact h))
  have HHit : Hid (∀ i (hi : i < s.size), Lib.NoAny s.data.toList [32, 9] i → ([32, 9] : List UInt8).contains (s[i]'hi) = true → Lib.indexAny s.data.toList [32, 9] = (i : Int)) := hid0 (fun i hi h hc => Lib.indexAny_hit h (bget s i hi) hc)
  have HSu : Hid (∀ i (hi : i < s.size), Lib.NoAny s.data.toList [32, 9] i → ([32, 9] : List UInt8).contains (s[i]'hi) = false → Lib.NoAny s.data.toList [32, 9] (i + 1)) := hid0 (fun i hi h hc => h.succ (bget s i hi) hc)
  have HMa := hid0 (fun i n => noAny_many s i n)
  have H0 : Hid (Lib.NoAny s.data.toList [32, 9] 0) := hid0 (Lib.NoAny.zero _ _)
  have HR : Hid (∀ (x : UInt8) W, x.toNat < 128 → Calls Tryz.prog 104 #[.string ⟨#[32, 9]⟩, .int .i32 (x.toNat : Int)] W fun e w' => e = .returned (.int .i64 (if ([32, 9] : List UInt8).contains x then (if x == 32 then 0 else 1) else -1)) ∧ w' = W) := hid0 (fun x W hx => by
    have h := Any.strings_IndexRune_ascii { Tryz.lays153 with } ⟨#[32, 9]⟩ (x.toNat : Int) W (by omega) (by omega)
    change Calls Tryz.prog 104 _ _ _ at h
    have e1 : ((x.toNat : Int).toNat.toUInt8) = x := by simp
    rw [e1] at h
    have e2 : Lib.indexByte (⟨#[32, 9]⟩ : ByteArray).data.toList x = if ([32, 9] : List UInt8).contains x then (if x == 32 then 0 else 1) else -1 := by
      show Lib.indexByte [32, 9] x = _
      simp only [Lib.indexByte]
      by_cases h1 : x = 32
      · subst h1; rfl
      · by_cases h2 : x = 9
        · subst h2; rfl
        · have e1 : ((32 : UInt8) == x) = false := by simpa using fun h => h1 h.symm
          have e2 : ((9 : UInt8) == x) = false := by simpa using fun h => h2 h.symm
          have e3 : ([32, 9] : List UInt8).contains x = false := by simp [h1, h2]
          simp only [e1, e2, e3]
          rfl
    rw [e2] at h
    exact h)
  have HH := hid0 (fun c a b W => indexRune_high c a b W)
  have HD := hid0 (fun pos h ha => decode_cover s pos h ha)
  have HDh := hid0 (fun pos h ha => decode_high s pos h ha)
  have HDl := hid0 (fun pos => decode_le s pos)
  generalize Lib.indexAny s.data.toList [32, 9] = z at *
  generalize Lib.NoAny s.data.toList [32, 9] = NA at *
  obtain ⟨k, hk⟩ : ∃ k, k = w.heap.size := ⟨_, rfl⟩
  have HK0 : Hid ((w.iter s 0).heap[k]? = some (.stringIter s 0) ∧ Below k w (w.iter s 0)) := hid0 ⟨by rw [hk]; exact World.iter_heap w s 0, by rw [hk]; exact (Below.refl _ _).alloc (Nat.le_refl _) _⟩
  have HN0 := hid0 hk
  go_enter Tryz.func86, Tryz.ntmps86
  go_wp2
  rw [← HN0.out]
  obtain ⟨W0, hW0⟩ : ∃ W0, W0 = w.iter s 0 := ⟨_, rfl⟩
  rw [← hW0] at HK0 ⊢
  clear hW0 hk
  go_loopg [9, 10] s.size (fun g _ _ wx => ∃ i : Nat, i + g = s.size ∧ wx.heap[k]? = some (.stringIter s i) ∧ Hid (Below k w wx) ∧ Hid (NA i))
  case atStart => exact ⟨0, by omega, HK0.out.1, hid0 HK0.out.2, H0⟩
  case round =>
    clear H0 HK0
    obtain ⟨i, hig, hki, HB, HN⟩ := hrel
    by_cases hi : i < s.size
    · by_cases ha : (s[i]'hi).toNat < 128
      · obtain ⟨x, hx⟩ : ∃ x : UInt8, s[i]'hi = x := ⟨_, rfl⟩
        have hnx := fun ty => Lib.run_next_ascii_at (P := Tryz.prog) wr k s i ty hki hi ha
        have HSx := hid0 (HSu.out i hi HN.out)
        have HHx := hid0 (HHit.out i hi HN.out)
        have HKn := hid0 (And.intro (Lib.iterAt_heap wr k s i (i + 1) hki) (Lib.below_iterAt HB.out (Nat.le_refl _) s (i + 1)))
        rw [hx] at hnx HSx HHx ha
        have HRx := hid0 (fun W => HR.out x W ha)
        obtain ⟨W1, hW1⟩ : ∃ W1, W1 = wr.iterAt k s (i + 1) := ⟨_, rfl⟩
        rw [← hW1] at hnx HKn
        clear hx HR HH HD HDh HDl HMa HSu HHit HEnd hW1 hki
        cases hc : ([32, 9] : List UInt8).contains x with
        | true =>
          rw [hc] at HRx HHx
          have HZ := hid0 (HHx.out rfl)
          obtain ⟨q, hq⟩ : ∃ q : Int, (if (x == 32) = true then (0 : Int) else 1) = q := ⟨_, rfl⟩
          have hq0 : 0 ≤ q := by rw [← hq]; split <;> omega
          simp only [if_true] at HRx
          rw [hq] at HRx
          clear HSx HHx hc hq
          go_wp2_with (go_at_call 104; refine (HRx.out _).mono ?_; rintro e y1 ⟨rfl, rfl⟩)
          go_ret
          exact ⟨by rw [HZ.out]; rfl, by rw [← HN0.out]; exact HKn.out.2⟩
        | false =>
          rw [hc] at HRx HSx
          have HZ := hid0 (HSx.out rfl)
          simp only [Bool.false_eq_true, if_false] at HRx
          clear HSx HHx hc
          go_wp2_with (go_at_call 104; refine (HRx.out _).mono ?_; rintro e y1 ⟨rfl, rfl⟩)
          go_roundg (s.size - (i + 1))
          case measure => omega
          case rel => exact ⟨i + 1, by omega, HKn.out.1, hid0 HKn.out.2, HZ⟩
      · have ha2 : 128 ≤ (s[i]'hi).toNat := by omega
        obtain ⟨d1, d2⟩ := HD.out i hi ha2
        obtain ⟨d3, d4⟩ := HDh.out i hi ha2
        have d5 := HDl.out i
        have HZ := hid0 (HMa.out i _ HN.out d1 d2)
        have hnx := fun ty => Lib.run_next_any_at (P := Tryz.prog) wr k s i ty hki hi
        have HKn := hid0 (And.intro (Lib.iterAt_heap wr k s i (i + (Utf8.decode s i).2) hki) (Lib.below_iterAt HB.out (Nat.le_refl _) s (i + (Utf8.decode s i).2)))
        obtain ⟨W1, hW1⟩ : ∃ W1, W1 = wr.iterAt k s (i + (Utf8.decode s i).2) := ⟨_, rfl⟩
        rw [← hW1] at hnx HKn
        obtain ⟨c, hcc⟩ : ∃ c, c = (Utf8.decode s i).1 := ⟨_, rfl⟩
        obtain ⟨n, hnn⟩ : ∃ n, n = (Utf8.decode s i).2 := ⟨_, rfl⟩
        rw [← hcc] at d3 d5 hnx
        rw [← hnn] at d1 d4 HZ HKn
        have HRx := hid0 (HH.out (c : Int) (by omega) (by omega) W1)
        have hlt := hid0 (Array.getElem?_eq_some_iff.1 HKn.out.1).1
        clear HR HH HD HDh HDl HMa HSu HHit HEnd d2 ha ha2 hW1 hcc hnn hki
        go_wp2_with (go_at_call 104; refine HRx.out.mono ?_; rintro e y1 ⟨rfl, hy1⟩; have HY := hid0 hy1; clear hy1)
        go_roundg (s.size - (i + n))
        case measure => omega
        case rel => exact ⟨i + n, by omega, (HY.out.block k hlt.out).trans HKn.out.1, hid0 (HKn.out.2.trans (HY.out.mono (Nat.le_of_lt hlt.out))), HZ⟩
    · obtain rfl : i = s.size := by omega
      have hnx := fun ty => Lib.run_next_end_at (P := Tryz.prog) wr k s s.size ty hki hi
      have HZ := hid0 (HEnd.out _ rfl HN.out)
      clear HR HH HD HDh HDl HMa HSu HHit HEnd
      go_wp2
      go_ret
      exact ⟨by rw [HZ.out]; rfl, by rw [← HN0.out]; exact HB.out⟩
theorem indexAny_any (s : ByteArray) (hs : s.size < 4294967281) (w : World) : Calls Tryz.prog 86 #[.string s, .string ⟨#[32, 9]⟩] w fun e w' => e = .returned (.int .i64 (Lib.indexAny s.data.toList [32, 9])) ∧ Below w.heap.size w w' := by
  by_cases h8 : s.size ≤ 8
  · exact indexAny_short s h8 w
  · exact indexAny_long s hs (by omega) w
end Go.Proofs.YtcbepmjojppokaaGreatDoor
