/-
  The walks of strings.Cut at one byte, strings.Trim at blanks.
-/
import Derived.Test.YtcbepmjojppokaaGreatDoorTgCW
import Derived.Test.YtcbepmjojppokaaGreatDoorShelfV
namespace Go.Proofs.YtcbepmjojppokaaGreatDoor
open Go.RowKit Go.Shelf
abbrev rd (x : By) : ByteArray := ⟨x.toArray⟩
theorem extract_take4 (s : ByteArray) (k : Nat) : (s.extract 0 k).data.toList = s.data.toList.take k := by
  rw [ByteArray.data_extract, Array.toList_extract, List.extract_eq_take_drop]
  simp
theorem str_eq4 {s : ByteArray} {l : List UInt8} (h : s.data.toList = l) : s = ⟨l.toArray⟩ := by
  subst h; rfl
theorem dw_nil (p : UInt8 → Bool) (x : By) (h : ∀ c ∈ x, p c = true) : x.dropWhile p = [] := by
  induction x with
  | nil => rfl
  | cons c r ih => rw [List.dropWhile_cons, if_pos (h c (.head _))]; exact ih (fun y hy => h y (.tail _ hy))
/-- What stands ahead of a byte, and behind it. -/
def aheadOf (c : UInt8) (l : By) : By := l.takeWhile (fun b => b != c)
def behindOf (c : UInt8) (l : By) : By := l.drop ((aheadOf c l).length + 1)
theorem index_at (l : By) (c : UInt8) : Lib.indexByte l c = if c ∈ l then ((aheadOf c l).length : Int) else -1 := by
  induction l with
  | nil => rfl
  | cons b r ih =>
    rw [Lib.indexByte]
    by_cases hb : b = c
    · subst hb
      simp [aheadOf]
    · have e1 : (b == c) = false := by simpa using hb
      have e2 : aheadOf c (b :: r) = b :: aheadOf c r := by
        unfold aheadOf; rw [List.takeWhile_cons, if_pos (by simpa using hb)]
      rw [if_neg (by rw [e1]; simp), ih, e2]
      by_cases hm : c ∈ r
      · rw [if_pos hm, if_pos (List.mem_cons_of_mem _ hm), if_neg (by first | (simp; done) | (simp; omega)), List.length_cons]; omega
      · have : ¬ c ∈ b :: r := by
          rw [List.mem_cons]; rintro (h | h)
          · exact hb h.symm
          · exact hm h
        rw [if_neg hm, if_neg this]; rfl
theorem ahead_le (c : UInt8) (l : By) (h : c ∈ l) : (aheadOf c l).length < l.length := by
  induction l with
  | nil => simp at h
  | cons b r ih =>
    unfold aheadOf
    rw [List.takeWhile_cons]
    by_cases hb : b = c
    · subst hb; simp
    · rw [if_pos (by simpa using hb), List.length_cons, List.length_cons]
      have := ih ((List.mem_cons.1 h).resolve_left (fun e => hb e.symm))
      unfold aheadOf at this
      omega
theorem ahead_all (c : UInt8) (l : By) (h : ¬ c ∈ l) : aheadOf c l = l := by
  induction l with
  | nil => rfl
  | cons b r ih =>
    unfold aheadOf
    rw [List.takeWhile_cons, if_pos (by simp; rintro rfl; exact h (.head _))]
    congr 1
    exact ih (fun hm => h (.tail _ hm))
/-- What Cut answers. -/
def cutVal (c : UInt8) (s : ByteArray) : Value := .tuple #[.string (rd (aheadOf c s.data.toList)), .string (rd (behindOf c s.data.toList)), .bool (decide (c ∈ s.data.toList))]
set_option maxRecDepth 10000 in
set_option maxHeartbeats 800000 in
theorem cutI_any (s : ByteArray) (c : UInt8) (hs : s.size ≤ 4194400) (w : World) :
    Calls Tryz.prog 62 #[.string s, .string ⟨#[c]⟩] w fun e w' => e = .returned (cutVal c s) ∧ ∃ n, w' = w.drewN n := by
  have hI := fun w => Any.stringslite_Index_one Tryz.lays219 s c w
  change ∀ w, Calls Tryz.prog 81 _ _ _ at hI
  rw [index_at] at hI
  have hc1 : ((⟨#[c]⟩ : ByteArray).size : Int) = 1 := rfl
  by_cases hm : c ∈ s.data.toList
  · rw [if_pos hm] at hI
    have hk := ahead_le c _ hm
    rw [bsize0] at hk
    obtain ⟨k, hk'⟩ : ∃ k, k = (aheadOf c s.data.toList).length := ⟨_, rfl⟩
    rw [← hk'] at hI hk
    have H1 : Hid (s.extract 0 k = rd (aheadOf c s.data.toList)) := hid0 (str_eq4 (by rw [extract_take4, hk']; exact (scan_take _ _).symm))
    have H2 : Hid (s.extract (k + 1) s.size = rd (behindOf c s.data.toList)) := hid0 (str_eq4 (by rw [extract_drop4, hk']; rfl))
    have HD := hid0 (decide_eq_true hm)
    have hkI : (k : Int) < (s.size : Int) := by omega
    have hkI0 : (0 : Int) ≤ (k : Int) := by omega
    have hkI1 : (k : Int) + 1 ≤ (s.size : Int) := by omega
    have hkI2 : (k : Int) ≤ (s.size : Int) := by omega
    clear hm hk'
    generalize (⟨#[c]⟩ : ByteArray) = sep at hI hc1
    have HI := hid0 hI
    clear hI
    go_enter Tryz.func62, Tryz.ntmps62
    go_wp2_with (go_at_call 81; refine (HI.out _).mono ?_; rintro e w1 ⟨rfl, rfl⟩)
    go_quiet ((fail))
    go_wp2
    go_returns
    exact ⟨by rw [cutVal, ← H1.out, ← H2.out, HD.out]; rfl, _, rfl⟩
  · rw [if_neg hm] at hI
    have H1 : Hid (s = rd (aheadOf c s.data.toList)) := hid0 (str_eq4 (ahead_all c _ hm).symm)
    have H2 : Hid (rd (behindOf c s.data.toList) = ⟨#[]⟩) := hid0 (by
      unfold behindOf; rw [ahead_all c _ hm, List.drop_of_length_le (by omega)])
    have HD := hid0 (decide_eq_false hm)
    clear hm
    generalize (⟨#[c]⟩ : ByteArray) = sep at hI hc1
    have HI := hid0 hI
    clear hI
    go_enter Tryz.func62, Tryz.ntmps62
    go_wp2_with (go_at_call 81; refine (HI.out _).mono ?_; rintro e w1 ⟨rfl, rfl⟩)
    go_returns
    exact ⟨by rw [cutVal, ← H1.out, H2.out, HD.out]; rfl, 0, rfl⟩
set_option maxRecDepth 10000 in
theorem cut_any (s : ByteArray) (c : UInt8) (hs : s.size ≤ 4194400) (w : World) :
    Calls Tryz.prog 47 #[.string s, .string ⟨#[c]⟩] w fun e w' => e = .returned (cutVal c s) ∧ ∃ n, w' = w.drewN n := by
  have hC := cutI_any s c hs w
  unfold cutVal at hC ⊢
  generalize decide (c ∈ s.data.toList) = b at hC
  generalize rd (aheadOf c s.data.toList) = t1 at hC
  generalize rd (behindOf c s.data.toList) = t2 at hC
  generalize (⟨#[c]⟩ : ByteArray) = sep at hC
  go_enter Tryz.func47, Tryz.ntmps47
  go_wp2_with (go_at_call 62; refine hC.mono ?_; rintro e w1 ⟨rfl, n, rfl⟩)
  go_returns
  exact ⟨rfl, _, rfl⟩
theorem bl_contains (c : UInt8) : ([32, 9] : List UInt8).contains c = isBl c := by
  unfold isBl
  simp
  rw [Bool.eq_iff_iff]
  simp
theorem dw_app {p : UInt8 → Bool} (a b : By) (c : UInt8) (hc : c ∈ a) (hp : p c = false) : (a ++ b).dropWhile p = a.dropWhile p ++ b := by
  induction a with
  | nil => simp at hc
  | cons x r ih =>
    rw [List.cons_append, List.dropWhile_cons, List.dropWhile_cons]
    by_cases hx : p x = true
    · rw [if_pos hx, if_pos hx]
      exact ih ((List.mem_cons.1 hc).resolve_left (fun e => by rw [e, hx] at hp; simp at hp))
    · rw [if_neg hx, if_neg hx]; rfl
theorem dw_pre {p : UInt8 → Bool} (a b : By) (h : ∀ c ∈ a, p c = true) : (a ++ b).dropWhile p = b.dropWhile p := by
  induction a with
  | nil => rfl
  | cons x r ih => rw [List.cons_append, List.dropWhile_cons, if_pos (h x (.head _))]; exact ih (fun c hc => h c (.tail _ hc))
theorem trim_comm (p : UInt8 → Bool) (l : By) : ((l.reverse.dropWhile p).reverse).dropWhile p = ((l.dropWhile p).reverse.dropWhile p).reverse := by
  have hl := List.takeWhile_append_dropWhile (p := p) (l := l)
  have hpre : ∀ c ∈ l.takeWhile p, p c = true := fun c hc => List.all_eq_true.1 List.all_takeWhile c hc
  cases hA : l.dropWhile p with
  | nil =>
    rw [hA, List.append_nil] at hl
    have h1 : l.reverse.dropWhile p = [] := dw_nil p _ (fun c hc => hpre c (by rw [hl]; simpa using hc))
    rw [h1]; rfl
  | cons c r =>
    have hc : p c = false := by
      have := List.head_dropWhile_not (l := l) p (by rw [hA]; simp)
      simpa [hA] using this
    rw [hA] at hl
    have e1 : l.reverse = (c :: r).reverse ++ (l.takeWhile p).reverse := by rw [← List.reverse_append, hl]
    rw [e1, dw_app _ _ c (by simp) hc, List.reverse_append, List.reverse_reverse, dw_pre _ _ hpre]
    have e2 : ∃ q, (c :: r).reverse.dropWhile p = q ++ [c] := by
      rw [List.reverse_cons]
      by_cases hall : ∀ x ∈ r.reverse, p x = true
      · exact ⟨[], by rw [dw_pre _ _ hall, List.dropWhile_cons, if_neg (by rw [hc]; simp)]; rfl⟩
      · have : ∃ x, x ∈ r.reverse ∧ p x = false := by
          apply Classical.byContradiction
          intro hn
          apply hall
          intro x hx
          cases hpx : p x with
          | true => rfl
          | false => exact absurd ⟨x, hx, hpx⟩ hn
        obtain ⟨x, hx, hpx⟩ := this
        exact ⟨r.reverse.dropWhile p, dw_app _ _ x hx hpx⟩
    obtain ⟨q, hq⟩ := e2
    rw [hq, List.reverse_append, List.reverse_singleton, List.singleton_append, List.dropWhile_cons, if_neg (by rw [hc]; simp)]
theorem trim_same (l : By) : Lib.trimS l [32, 9] = trimB l := by
  have e : (fun c => ([32, 9] : List UInt8).contains c) = isBl := funext bl_contains
  unfold Lib.trimS Lib.trimLeftS Lib.trimRightS trimB
  rw [e]
  exact trim_comm isBl l
theorem trim_any (s : ByteArray) (hs : s.size ≤ 4194400) (w : World) :
    Calls Tryz.prog 48 #[.string s, .string ⟨#[32, 9]⟩] w fun e w' => e = .returned (.string (rd (trimB s.data.toList))) ∧ Below w.heap.size w w' := by
  have h := Any.strings_Trim_laid Tryz.lays160 (by kernel_rfl) s ⟨#[32, 9]⟩ w (by omega) (by decide) (ascii_of_all (by decide))
  rw [show (⟨#[32, 9]⟩ : ByteArray).data.toList = [32, 9] from rfl, trim_same] at h
  exact h
theorem chop_suffix (l : By) : Lib.trimSuffix l [13] = chopR l := by
  unfold Lib.trimSuffix Lib.hasSuffix chopR
  rcases List.eq_nil_or_concat l with rfl | ⟨a, b, rfl⟩
  · rfl
  · rw [List.concat_eq_append]
    by_cases h : b = 13
    · subst h
      have h1 : ([13] : List UInt8).isSuffixOf (a ++ [13]) = true := by rw [List.isSuffixOf_iff_suffix]; exact List.suffix_append _ _
      rw [if_pos h1, if_pos (by simp)]
      simp
    · have h1 : ¬ ([13] : List UInt8).isSuffixOf (a ++ [b]) = true := by
        rw [List.isSuffixOf_iff_suffix]
        rintro ⟨q, hq⟩
        have := (List.append_inj' hq rfl).2
        simp at this
        exact h this.symm
      rw [if_neg h1, if_neg (by simpa using h)]
theorem trimSuffix_any (s : ByteArray) (hs : s.size ≤ 4194400) (w : World) :
    Calls Tryz.prog 46 #[.string s, .string ⟨#[13]⟩] w fun e w' => e = .returned (.string (rd (chopR s.data.toList))) ∧ w' = w := by
  have h := Any.strings_TrimSuffix Tryz.lays102 s ⟨#[13]⟩ w (by omega)
  rw [show (⟨#[13]⟩ : ByteArray).data.toList = [13] from rfl, chop_suffix] at h
  exact h
/-- A line of a text, bare. -/
def bareN (l : By) : By := if Lib.hasSuffix l [10] then bareOf (chopR (Lib.trimSuffix l [10])) else bareOf l
theorem csuf_any (s : ByteArray) (hs : s.size ≤ 4194400) (w : World) : Calls Tryz.prog 45 #[.string s, .string ⟨#[10]⟩] w fun e w' => e = .returned (.tuple #[.string (rd (Lib.trimSuffix s.data.toList [10])), .bool (Lib.hasSuffix s.data.toList [10])]) ∧ w' = w :=
  Any.strings_CutSuffix Tryz.lays104 s ⟨#[10]⟩ w (by omega)
theorem sufx_le (s p : By) : (Lib.trimSuffix s p).length ≤ s.length := by
  unfold Lib.trimSuffix
  split
  · rw [List.length_take]; omega
  · exact Nat.le_refl _
theorem chop_le (l : By) : (chopR l).length ≤ l.length := by unfold chopR; split <;> simp
theorem ahead_len (c : UInt8) (l : By) : (aheadOf c l).length ≤ l.length := (List.takeWhile_sublist _).length_le
theorem bareOf_ahead (l : By) : bareOf l = trimB (aheadOf 35 l) := rfl
theorem rd_size (l : By) : (rd l).size = l.length := by simp [ByteArray.size]
set_option maxRecDepth 10000 in
set_option maxHeartbeats 1600000 in
theorem bare_any (l : By) (hl : l.length ≤ 4194400) (w : World) : Calls Tryz.prog 26 #[.string (rd l)] w fun e w' => e = .returned (.string (rd (bareN l))) ∧ Below w.heap.size w w' := by
  have HC : Hid (∀ W, Calls Tryz.prog 45 #[.string (rd l), .string ⟨#[10]⟩] W fun e w' => e = .returned (.tuple #[.string (rd (Lib.trimSuffix l [10])), .bool (Lib.hasSuffix l [10])]) ∧ w' = W) := hid0 (fun W => csuf_any (rd l) (by rw [rd_size]; exact hl) W)
  have h1 := sufx_le l [10]
  cases hb : Lib.hasSuffix l [10] with
  | true =>
    rw [hb] at HC
    obtain ⟨t, ht⟩ : ∃ t, t = Lib.trimSuffix l [10] := ⟨_, rfl⟩
    rw [← ht] at HC h1
    have h2 := chop_le t
    have h3 := ahead_len 35 (chopR t)
    have HS : Hid (∀ W, Calls Tryz.prog 46 #[.string (rd t), .string ⟨#[13]⟩] W fun e w' => e = .returned (.string (rd (chopR t))) ∧ w' = W) := hid0 (fun W => trimSuffix_any (rd t) (by rw [rd_size]; omega) W)
    have HU : Hid (∀ W, Calls Tryz.prog 47 #[.string (rd (chopR t)), .string ⟨#[35]⟩] W fun e w' => e = .returned (.tuple #[.string (rd (aheadOf 35 (chopR t))), .string (rd (behindOf 35 (chopR t))), .bool (decide (35 ∈ chopR t))]) ∧ ∃ n, w' = W.drewN n) := hid0 (fun W => cut_any (rd (chopR t)) 35 (by rw [rd_size]; omega) W)
    have HT : Hid (∀ W, Calls Tryz.prog 48 #[.string (rd (aheadOf 35 (chopR t))), .string ⟨#[32, 9]⟩] W fun e w' => e = .returned (.string (rd (bareN l))) ∧ Below W.heap.size W w') := hid0 (fun W => by
      have h := trim_any (rd (aheadOf 35 (chopR t))) (by rw [rd_size]; omega) W
      rw [bareN, hb, if_pos rfl, ← ht, bareOf_ahead]
      exact h)
    clear hb ht h1 h2 h3
    generalize rd (bareN l) = T5 at *
    generalize rd l = T1 at *
    generalize decide (35 ∈ chopR t) = D at *
    generalize rd (aheadOf 35 (chopR t)) = T3 at *
    generalize rd (behindOf 35 (chopR t)) = T4 at *
    generalize rd (chopR t) = T2 at *
    generalize rd t = T0 at *
    go_enter Tryz.func26, Tryz.ntmps26
    go_wp2_with (first
      | (go_at_call 45; refine (HC.out _).mono ?_; rintro e x1 ⟨rfl, rfl⟩)
      | (go_at_call 46; refine (HS.out _).mono ?_; rintro e x2 ⟨rfl, rfl⟩)
      | (go_at_call 47; refine (HU.out _).mono ?_; rintro e x3 ⟨rfl, n, rfl⟩)
      | (go_at_call 48; refine (HT.out _).mono ?_; rintro e x4 ⟨rfl, h4⟩; have HB4 := hid0 h4; clear h4)
      | fail)
    go_ret
    exact ⟨rfl, (below_drew' (Below.refl _ _) _).trans (HB4.out.mono (by simp))⟩
  | false =>
    rw [hb] at HC
    have et : Lib.trimSuffix l [10] = l := by unfold Lib.trimSuffix; rw [hb]; rfl
    rw [et] at HC
    have h3 := ahead_len 35 l
    have HU : Hid (∀ W, Calls Tryz.prog 47 #[.string (rd l), .string ⟨#[35]⟩] W fun e w' => e = .returned (.tuple #[.string (rd (aheadOf 35 l)), .string (rd (behindOf 35 l)), .bool (decide (35 ∈ l))]) ∧ ∃ n, w' = W.drewN n) := hid0 (fun W => cut_any (rd l) 35 (by rw [rd_size]; omega) W)
    have HT : Hid (∀ W, Calls Tryz.prog 48 #[.string (rd (aheadOf 35 l)), .string ⟨#[32, 9]⟩] W fun e w' => e = .returned (.string (rd (bareN l))) ∧ Below W.heap.size W w') := hid0 (fun W => by
      have h := trim_any (rd (aheadOf 35 l)) (by rw [rd_size]; omega) W
      rw [bareN, hb, if_neg (by simp), bareOf_ahead]
      exact h)
    clear hb et h1 h3
    generalize rd (bareN l) = T5 at *
    generalize decide (35 ∈ l) = D at *
    generalize rd (aheadOf 35 l) = T3 at *
    generalize rd (behindOf 35 l) = T4 at *
    generalize rd l = T1 at *
    go_enter Tryz.func26, Tryz.ntmps26
    go_wp2_with (first
      | (go_at_call 45; refine (HC.out _).mono ?_; rintro e x1 ⟨rfl, rfl⟩)
      | (go_at_call 47; refine (HU.out _).mono ?_; rintro e x3 ⟨rfl, n, rfl⟩)
      | (go_at_call 48; refine (HT.out _).mono ?_; rintro e x4 ⟨rfl, h4⟩; have HB4 := hid0 h4; clear h4)
      | fail)
    go_ret
    exact ⟨rfl, (below_drew' (Below.refl _ _) _).trans (HB4.out.mono (by simp))⟩
end Go.Proofs.YtcbepmjojppokaaGreatDoor
