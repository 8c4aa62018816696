/-
  What is printed is read as it was: the line (stage 23).
-/
import Derived.Test.YtcbepmjojppokaaGreatDoorTpFM
import Derived.Test.YtcbepmjojppokaaGreatDoorTgVM
namespace Go.Proofs.YtcbepmjojppokaaGreatDoor.Tp
open Go.RowKit Go.Shelf
/-- The line from a mark on, r points before its end. -/
def tlF (P B : List Int) : Nat → Nat → List UInt8
  | i, 0 => mkF B i
  | i, r + 1 => mkF B i ++ [32] ++ hx (P.getD i 0).toNat ++ [32] ++ tlF P B (i + 1) r
theorem tl_sh (P B : List Int) : ∀ (r i : Nat), preF P B i ++ tlF P B i r = shF P B (i + r)
  | 0, i => by rw [tlF, Nat.add_zero, sh_pre]
  | r + 1, i => by
    have h := tl_sh P B r (i + 1)
    rw [tlF, show i + (r + 1) = i + 1 + r by omega, ← h, preF, sh_pre]
    simp only [List.append_assoc]
theorem sh_tl (P B : List Int) : shF P B P.length = tlF P B 0 P.length := by
  have h := tl_sh P B P.length 0
  rw [Nat.zero_add] at h
  rw [← h]
  rfl
theorem hxd_ok : ∀ d : Fin 16, isHx (hxd d.val) = true ∧ hxv (hxd d.val) = d.val ∧ notBl (hxd d.val) = true := by decide +kernel
theorem hxs_all (n : Nat) : ∀ k, (hxs n k).all isHx = true
  | 0 => rfl
  | k + 1 => by
    rw [hxs, List.all_cons, hxs_all n k, (hxd_ok ⟨_, Nat.mod_lt _ (by decide)⟩).1]
    rfl
theorem hxs_nb (n : Nat) : ∀ k, ∀ c ∈ hxs n k, notBl c = true
  | 0, c, h => by cases h
  | k + 1, c, h => by
    rw [hxs] at h
    rcases List.mem_cons.1 h with rfl | h
    · exact (hxd_ok ⟨_, Nat.mod_lt _ (by decide)⟩).2.2
    · exact hxs_nb n k c h
theorem hxs_val (n : Nat) : ∀ k a, (hxs n k).foldl (fun n c => 16 * n + hxv c) a = a * 16 ^ k + n % 16 ^ k
  | 0, a => by simp [hxs, Nat.mod_one]
  | k + 1, a => by
    rw [hxs, List.foldl_cons, hxs_val n k, (hxd_ok ⟨_, Nat.mod_lt _ (by decide)⟩).2.1]
    show (16 * a + n / 16 ^ k % 16) * 16 ^ k + n % 16 ^ k = a * 16 ^ (k + 1) + n % 16 ^ (k + 1)
    have h := Nat.mod_mul (a := 16 ^ k) (b := 16) (x := n)
    rw [Nat.pow_succ, h, Nat.add_mul, Nat.mul_comm (16 ^ k) 16, ← Nat.mul_assoc, Nat.mul_comm a 16, Nat.mul_comm (n / 16 ^ k % 16)]
    omega
theorem hx_val (n : Nat) (h : n ≤ 1114111) : hexN (hx n) = n := by
  unfold hexN hx
  rw [hxs_val, Nat.zero_mul, Nat.zero_add]
  apply Nat.mod_eq_of_lt
  unfold hxk
  split
  · omega
  · split
    · have : (16 : Nat) ^ 5 = 1048576 := rfl
      omega
    · have : (16 : Nat) ^ 6 = 16777216 := rfl
      omega
theorem hx_wOk (n : Nat) : wOk (hx n) = true := by
  have h4 : 4 ≤ hxk n := by unfold hxk; (repeat' split) <;> omega
  have h6 : hxk n ≤ 6 := by unfold hxk; (repeat' split) <;> omega
  unfold wOk
  rw [hx_len, show (hx n).all isHx = true from hxs_all n _]
  simp [h4, h6]
theorem hx_ne (n : Nat) : hx n ≠ [] := fun e => by
  have := hx_len n
  rw [e] at this
  unfold hxk at this
  simp at this
  (repeat' split at this) <;> omega
theorem mk_nb (B : List Int) (i : Nat) : ∀ c ∈ mkF B i, notBl c = true := by
  unfold mkF
  split <;> decide
theorem takeW_all (p : UInt8 → Bool) (a b : List UInt8) (h : ∀ c ∈ a, p c = true) (hb : b = [] ∨ ∃ c r, b = c :: r ∧ p c = false) : (a ++ b).takeWhile p = a := by
  induction a with
  | nil =>
    rcases hb with rfl | ⟨c, r, rfl, hc⟩
    · rfl
    · show List.takeWhile p (c :: r) = []
      rw [List.takeWhile_cons, hc]
      rfl
  | cons x a ih =>
    rw [List.cons_append, List.takeWhile_cons, h x (.head _), if_pos rfl, ih (fun c hc => h c (.tail _ hc))]
/-- A word, a blank, and the next word. -/
theorem next_word (a b : List UInt8) (h : ∀ c ∈ a, notBl c = true) : nextW (a ++ 32 :: b) = a ∧ restW (a ++ 32 :: b) = b.dropWhile isBl := by
  have h1 : nextW (a ++ 32 :: b) = a := takeW_all notBl a _ h (.inr ⟨32, b, rfl, rfl⟩)
  refine ⟨h1, ?_⟩
  unfold restW
  rw [h1, List.drop_left]
  rfl
theorem next_end (a : List UInt8) (h : ∀ c ∈ a, notBl c = true) : nextW a = a ∧ restW a = [] := by
  have h1 : nextW a = a := by
    have := takeW_all notBl a [] h (.inl rfl)
    rwa [List.append_nil] at this
  refine ⟨h1, ?_⟩
  unfold restW
  rw [h1, List.drop_length]
  rfl
theorem drop_nb (a b : List UInt8) (ha : a ≠ []) (h : ∀ c ∈ a, notBl c = true) : (a ++ b).dropWhile isBl = a ++ b := by
  cases a with
  | nil => exact absurd rfl ha
  | cons x r =>
    have := h x (.head _)
    unfold notBl at this
    rw [List.cons_append, List.dropWhile_cons]
    cases hx : isBl x with
    | true => rw [hx] at this; cases this
    | false => rfl
theorem mk_ne (B : List Int) (i : Nat) : mkF B i ≠ [] := fun e => by have := mkF_len B i; rw [e] at this; cases this
theorem tl_mk (P B : List Int) (i r : Nat) : ∃ t, tlF P B i r = mkF B i ++ t := by
  cases r with
  | zero => exact ⟨[], by rw [tlF, List.append_nil]⟩
  | succ r => exact ⟨[32] ++ hx (P.getD i 0).toNat ++ [32] ++ tlF P B (i + 1) r, by rw [tlF]; simp only [List.append_assoc]⟩
theorem mk_or (B : List Int) (i : Nat) : mkF B i = yesW ∨ mkF B i = noW := by
  unfold mkF
  split
  · exact .inl rfl
  · exact .inr rfl
theorem rise_lt : ∀ (L : List Int) (c lo : Int), riseF c lo L = true → ∀ x ∈ L, x < c
  | [], _, _, _, _, h => by cases h
  | y :: L, c, lo, h, x, hx => by
    simp only [riseF, Bool.and_eq_true, decide_eq_true_eq] at h
    rcases List.mem_cons.1 hx with rfl | hx
    · exact h.1.2
    · exact rise_lt L c (y + 1) h.2 x hx
/-- Behind a mark: the places so far. -/
theorem mk_step {B : List Int} {i k : Nat} {c : Int} (hr : riseF c 0 B = true) (h : BkI B i k) : ∃ k', BkI B (i + 1) k' ∧ (if mkF B i = yesW then B.take k ++ [(i : Int)] else B.take k) = B.take k' := by
  by_cases hk : ∃ hk : k < B.length, B[k] = (i : Int)
  · obtain ⟨hk, e⟩ := hk
    obtain ⟨h1, h2⟩ := bk_yes hr h hk e
    refine ⟨k + 1, h2, ?_⟩
    rw [h1, if_pos (show ([195, 183] : List UInt8) = yesW from rfl), List.take_succ_eq_append_getElem hk, e]
  · obtain ⟨h1, h2⟩ := bk_no hr h (fun hk' e => hk ⟨hk', e⟩)
    exact ⟨k, h2, by rw [h1, if_neg (by decide)]⟩
theorem bk_all {B : List Int} {n k : Nat} (hr : riseF ((n : Int) + 1) 0 B = true) (h : BkI B (n + 1) k) : B.take k = B := by
  apply List.take_of_length_le
  apply Nat.le_of_not_lt
  intro hk
  have hm : B[k] ∈ B.drop k := by rw [List.drop_eq_getElem_cons hk]; exact List.mem_cons_self
  have h1 := h.hi _ hm
  have h2 := rise_lt B _ 0 hr _ (List.mem_of_mem_drop hm)
  omega
theorem tl_read (P B : List Int) (hs : ∀ x ∈ P, 0 ≤ x ∧ x ≤ 1114111) (hr : riseF ((P.length : Int) + 1) 0 B = true) : ∀ (r i k m : Nat), i + r = P.length → BkI B i k → 2 * r + 1 ≤ m → rdS m true (tlF P B i r) (P.take i) (B.take k) = some (P, B)
  | 0, i, k, m, hi, hb, hm => by
    obtain ⟨m, rfl⟩ : ∃ m', m = m' + 1 := ⟨m - 1, by omega⟩
    obtain ⟨k', h1, h2⟩ := mk_step hr hb
    obtain ⟨n1, n2⟩ := next_end (mkF B i) (mk_nb B i)
    have hi' : i = P.length := by omega
    rw [tlF, rdS, n1, n2, if_pos (mk_or B i), if_pos rfl]
    have e : P.take i = P := List.take_of_length_le (by omega)
    rw [e, ← hi', h2, bk_all hr (by rw [← hi']; exact h1)]
  | r + 1, i, k, m, hi, hb, hm => by
    obtain ⟨m, rfl⟩ : ∃ m', m = m' + 2 := ⟨m - 2, by omega⟩
    obtain ⟨k', h1, h2⟩ := mk_step hr hb
    have hil : i < P.length := by omega
    have hg : P.getD i 0 = P[i] := by rw [List.getD_eq_getElem?_getD, List.getElem?_eq_getElem hil]; rfl
    obtain ⟨hx0, hx1⟩ := hs P[i] (List.getElem_mem hil)
    obtain ⟨t, ht⟩ := tl_mk P B (i + 1) r
    have hsh : tlF P B i (r + 1) = mkF B i ++ 32 :: (hx P[i].toNat ++ 32 :: tlF P B (i + 1) r) := by rw [tlF, hg]; simp only [List.append_assoc, List.cons_append, List.nil_append]
    obtain ⟨n1, n2⟩ := next_word (mkF B i) (hx P[i].toNat ++ 32 :: tlF P B (i + 1) r) (mk_nb B i)
    rw [drop_nb _ _ (hx_ne _) (hxs_nb _ _)] at n2
    obtain ⟨n3, n4⟩ := next_word (hx P[i].toNat) (tlF P B (i + 1) r) (hxs_nb _ _)
    rw [ht, drop_nb _ _ (mk_ne _ _) (mk_nb _ _), ← ht] at n4
    have e1 : (P.take i).length = i := by rw [List.length_take]; omega
    rw [hsh, rdS, n1, n2, if_pos (mk_or B i), if_neg (by simp), e1, h2, rdS, n3, n4, if_pos (hx_wOk _), hx_val _ (by omega)]
    have e2 : P.take i ++ [((P[i].toNat : Nat) : Int)] = P.take (i + 1) := by rw [List.take_succ_eq_append_getElem hil, Int.toNat_of_nonneg hx0]
    rw [e2]
    exact tl_read P B hs hr r (i + 1) k' m (by omega) h1 (by omega)
theorem tl_len (P B : List Int) : ∀ (r i : Nat), 2 * r + 2 ≤ (tlF P B i r).length
  | 0, i => by rw [tlF, mkF_len]; omega
  | r + 1, i => by
    have := tl_len P B r (i + 1)
    rw [tlF]
    simp only [List.length_append, mkF_len, List.length_singleton]
    omega
theorem scalar_le {x : Int} (h : scalarP x = true) : 0 ≤ x ∧ x ≤ 1114111 := by
  unfold scalarP at h
  simp only [Bool.and_eq_true, Bool.or_eq_true, decide_eq_true_eq] at h
  omega
/-- A printed line is read as it was. -/
theorem line_read (P B : List Int) (h : mayC P B = true) : lnS (shF P B P.length) = some (P, B) := by
  unfold mayC at h
  rw [Bool.and_eq_true] at h
  have hl := tl_len P B P.length 0
  rw [sh_tl]
  exact tl_read P B (fun x hx => scalar_le (List.all_eq_true.1 h.1 x hx)) h.2 P.length 0 0 _ (by omega) (bk_start h.2) (by omega)
/-- The bytes of a line. -/
def okB (c : UInt8) : Bool := c != 10 && c != 35
def edB (c : UInt8) : Bool := c != 10 && c != 35 && c != 13 && !isBl c
theorem hxd_ed : ∀ d : Fin 16, edB (hxd d.val) = true := by decide +kernel
theorem ed_ok {c : UInt8} (h : edB c = true) : okB c = true := by
  unfold edB at h
  unfold okB
  simp only [Bool.and_eq_true] at h ⊢
  exact h.1.1
theorem mk_ed (B : List Int) (i : Nat) : ∀ c ∈ mkF B i, edB c = true := by
  unfold mkF
  split <;> decide
theorem hxs_ed (n : Nat) : ∀ k, ∀ c ∈ hxs n k, edB c = true
  | 0, c, h => by cases h
  | k + 1, c, h => by
    rw [hxs] at h
    rcases List.mem_cons.1 h with rfl | h
    · exact hxd_ed ⟨_, Nat.mod_lt _ (by decide)⟩
    · exact hxs_ed n k c h
theorem sh_ok (P B : List Int) : ∀ i, ∀ c ∈ shF P B i, okB c = true
  | 0, c, h => ed_ok (mk_ed B 0 c h)
  | i + 1, c, h => by
    rw [shF] at h
    simp only [List.mem_append, List.mem_singleton] at h
    rcases h with (((h | rfl) | h) | rfl) | h
    · exact sh_ok P B i c h
    · rfl
    · exact ed_ok (hxs_ed _ _ c h)
    · rfl
    · exact ed_ok (mk_ed B _ c h)
theorem mk_last (B : List Int) (i : Nat) : ∃ a c, mkF B i = a ++ [c] ∧ edB c = true := by
  unfold mkF
  split
  · exact ⟨[195], 183, rfl, rfl⟩
  · exact ⟨[195], 151, rfl, rfl⟩
theorem sh_last (P B : List Int) (i : Nat) : ∃ a c, shF P B i = a ++ [c] ∧ edB c = true := by
  obtain ⟨a, c, h1, h2⟩ := mk_last B i
  exact ⟨preF P B i ++ a, c, by rw [sh_pre, h1, List.append_assoc], h2⟩
theorem sh_front (P B : List Int) (i : Nat) : ∃ t, shF P B i = 195 :: t := by
  have h0 : ∃ t, mkF B 0 = 195 :: t := by unfold mkF; split <;> exact ⟨_, rfl⟩
  induction i with
  | zero => exact h0
  | succ i ih =>
    obtain ⟨t, ht⟩ := ih
    rw [shF, ht]
    exact ⟨_, rfl⟩
theorem sh_ne (P B : List Int) (i : Nat) : shF P B i ≠ [] := fun e => by
  obtain ⟨t, h⟩ := sh_front P B i
  rw [e] at h
  cases h
theorem ed_parts {c : UInt8} (h : edB c = true) : c ≠ 13 ∧ isBl c = false := by
  unfold edB at h
  simp only [Bool.and_eq_true, bne_iff_ne, ne_eq, Bool.not_eq_true'] at h
  exact ⟨h.1.2, h.2⟩
theorem sh_chop (P B : List Int) (i : Nat) : chopR (shF P B i) = shF P B i := by
  obtain ⟨a, c, h1, h2⟩ := sh_last P B i
  unfold chopR
  rw [h1, List.getLast?_concat, if_neg]
  intro e
  injection e with e
  exact (ed_parts h2).1 e
theorem takeW_id (p : UInt8 → Bool) (a : List UInt8) (h : ∀ c ∈ a, p c = true) : a.takeWhile p = a := by
  have := takeW_all p a [] h (.inl rfl)
  rwa [List.append_nil] at this
theorem drop_first (l : List UInt8) (h : ∃ c t, l = c :: t ∧ isBl c = false) : l.dropWhile isBl = l := by
  obtain ⟨c, t, rfl, hc⟩ := h
  rw [List.dropWhile_cons, hc]
  rfl
theorem sh_bare (P B : List Int) (i : Nat) : bareOf (shF P B i) = shF P B i := by
  have h1 : (shF P B i).takeWhile (fun c => c != 35) = shF P B i := takeW_id _ _ (fun c hc => by
    have := sh_ok P B i c hc
    unfold okB at this
    rw [Bool.and_eq_true] at this
    exact this.2)
  unfold bareOf trimB
  rw [h1]
  obtain ⟨t, ht⟩ := sh_front P B i
  obtain ⟨a, c, h2, h3⟩ := sh_last P B i
  rw [drop_first _ ⟨195, t, ht, rfl⟩, drop_first (shF P B i).reverse ⟨c, a.reverse, by rw [h2, List.reverse_append]; rfl, (ed_parts h3).2⟩, List.reverse_reverse]
theorem sh_no10 (P B : List Int) (i : Nat) : ∀ c ∈ shF P B i, c ≠ 10 := fun c hc => by
  have := sh_ok P B i c hc
  unfold okB at this
  rw [Bool.and_eq_true, bne_iff_ne] at this
  exact this.1
/-- One more line. -/
theorem lines_snoc (s b l : By) (hl : chopR l = l) (hb : ∀ c ∈ b, c ≠ 10) : ∀ (cur : By) (M : List By), linesGo cur s = M ++ [l] → linesGo cur (s ++ 10 :: b) = M ++ [l, b] := by
  induction s with
  | nil =>
    intro cur M h
    rw [linesGo] at h
    have h2 : [] ++ [cur] = M ++ [l] := h
    obtain ⟨h3, h4⟩ := List.append_inj' h2 rfl
    injection h4 with h4
    rw [List.nil_append, linesGo, if_pos rfl, linesGo_none b [] hb, ← h3, h4, hl]
    rfl
  | cons c r ih =>
    intro cur M h
    rw [linesGo] at h
    rw [List.cons_append, linesGo]
    split at h
    · rename_i hc
      rw [if_pos hc]
      cases M with
      | nil =>
        exfalso
        have h3 : (linesGo [] r) = [] := by
          rw [List.nil_append] at h
          injection h
        cases r with
        | nil => rw [linesGo] at h3; cases h3
        | cons d q =>
          have h4 := congrArg List.length h3
          have h5 : ∀ (l cur : By), linesGo cur l ≠ [] := by
            intro l
            induction l with
            | nil => intro cur e; rw [linesGo] at e; cases e
            | cons x y ih2 => intro cur e; rw [linesGo] at e; split at e; · cases e
                              · exact ih2 _ e
          exact h5 _ _ h3
      | cons m M' =>
        rw [List.cons_append] at h
        injection h with h1 h2
        rw [h1, ih [] M' h2]
        rfl
    · rename_i hc
      rw [if_neg hc]
      exact ih _ M h
/-- The lines of a printed file. -/
def lnC (C : List Cs) (i : Nat) : List UInt8 := shF (cP C i) (cB C i) (cP C i).length
theorem lines_jn (C : List Cs) : ∀ i, linesOf (jn C (i + 1)) = (List.range (i + 1)).map (lnC C)
  | 0 => by
    show linesGo [] (jn C 0 ++ sep 0 ++ lnC C 0) = _
    rw [show jn C 0 ++ sep 0 ++ lnC C 0 = lnC C 0 from rfl, linesGo_none (lnC C 0) [] (sh_no10 _ _ _)]
    rfl
  | i + 1 => by
    have h := lines_jn C i
    rw [List.range_succ, List.map_append, List.map_singleton] at h
    have h2 : jn C (i + 1 + 1) = jn C (i + 1) ++ 10 :: lnC C (i + 1) := by
      rw [jn, show sep (i + 1) = [10] from rfl, List.append_assoc]
      rfl
    show linesGo [] _ = _
    rw [h2, lines_snoc (jn C (i + 1)) (lnC C (i + 1)) (lnC C i) (sh_chop _ _ _) (sh_no10 _ _ _) [] _ h, List.range_succ, List.range_succ]
    simp only [List.map_append, List.map_singleton, List.append_assoc]
    rfl
theorem read_lines (C : List Cs) (h20 : C.length ≤ 20000) (hok : okC C = true) : ∀ i, i ≤ C.length → parF 0 [] (((List.range i).map (lnC C)).map bareOf) = .ok (C.take i)
  | 0, _ => rfl
  | i + 1, hi => by
    have ih := read_lines C h20 hok i (by omega)
    have hm := okC_at hok i (by omega)
    have hP : cP C i = C[i].1 := cP_at (by omega)
    have hB : cB C i = C[i].2 := cB_at (by omega)
    have hln : lnC C i = shF C[i].1 C[i].2 C[i].1.length := by unfold lnC; rw [hP, hB]
    have hsc : C[i].1.all scalarP = true := by
      unfold mayC at hm
      rw [Bool.and_eq_true] at hm
      exact hm.1
    rw [List.range_succ, List.map_append, List.map_append, List.map_singleton, List.map_singleton, parF_snoc, ih, hln, sh_bare]
    show stepP _ _ _ = _
    unfold stepP
    rw [if_neg (sh_ne _ _ _), line_read _ _ hm]
    show (if C[i].1.all scalarP = true then if (C.take i).length = 20000 then _ else PRes.ok (C.take i ++ [(C[i].1, C[i].2)]) else _) = _
    rw [if_pos hsc, if_neg (by rw [List.length_take]; omega), List.take_succ_eq_append_getElem]
/-- What is printed is read as it was. -/
theorem read_back (C : List Cs) (h20 : C.length ≤ 20000) (hok : okC C = true) : parF 0 [] ((rawL (jn C C.length)).map bareN) = .ok C := by
  rw [← parF_same]
  cases hC : C.length with
  | zero =>
    have : C = [] := List.eq_nil_of_length_eq_zero hC
    subst this
    rfl
  | succ i =>
    rw [lines_jn]
    have := read_lines C h20 hok (i + 1) (by omega)
    rw [this, List.take_of_length_le (by omega)]
end Go.Proofs.YtcbepmjojppokaaGreatDoor.Tp
