/-
  What locale makes of a piece: rune by rune, byte by byte.
-/
import Derived.Test.YtbdjnmbhphflbaaGreatDoorLtM
namespace Go.Proofs.YtbdjnmbhphflbaaGreatDoor
open Go.Lib
/-- A rune in its small form. -/
def fS (x : Int) : Int := if 65 ≤ x ∧ x ≤ 90 then x + 32 else x
/-- No letter. -/
def notL (x : Nat) : Bool := !(decide (97 ≤ x) && decide (x ≤ 122)) && !(decide (65 ≤ x) && decide (x ≤ 90))
def smL (p : List UInt8) : List UInt8 := mapD fS p
theorem fS_range (x : Nat) (hx : x ≤ 1114111) : 0 ≤ fS x ∧ fS x ≤ 2147483647 := by
  unfold fS
  split <;> omega
set_option maxRecDepth 100000 in
theorem small_byte : ∀ i : Fin 128, encodeRune (fS (i.val : Int)) = [lowerB (UInt8.ofNat i.val)] := by decide
theorem smL_ascii : ∀ (l : List UInt8), (∀ b ∈ l, b.toNat < 128) → smL l = l.map lowerB
  | [], _ => rfl
  | b :: t, ha => by
    have hb := ha b List.mem_cons_self
    have ih := smL_ascii t (fun x hx => ha x (List.mem_cons_of_mem _ hx))
    unfold smL at ih ⊢
    rw [mapD_step fS (b :: t) (by simp), decodeL_ascii b t hb]
    dsimp only
    rw [if_pos (fS_range b.toNat (by omega)).1, small_byte ⟨b.toNat, hb⟩, List.drop_succ_cons, List.drop_zero, ih]
    simp
theorem enc_high (r : Int) (h : 128 ≤ r) : ∃ x ∈ encodeRune r, 128 ≤ x.toNat := by
  have e : ∃ z ∈ encodeRuneZ r, 128 ≤ z ∧ z < 256 := by
    unfold encodeRuneZ
    split
    · omega
    · split
      · exact ⟨128 + r % 64, by simp, by omega, by omega⟩
      · split
        · exact ⟨128 + r % 64, by simp, by omega, by omega⟩
        · split
          · exact ⟨128 + r % 64, by simp, by omega, by omega⟩
          · exact ⟨189, by simp, by omega, by omega⟩
  obtain ⟨z, hz, h1, h2⟩ := e
  refine ⟨z.toNat.toUInt8, List.mem_map.2 ⟨z, hz, rfl⟩, ?_⟩
  have : z.toNat.toUInt8.toNat = z.toNat := by
    simp
    omega
  omega
theorem enc_len (r : Int) : (encodeRune r).length ≤ 4 := by
  unfold encodeRune encodeRuneZ
  (repeat' split) <;> simp
theorem decodeL_high (b : UInt8) (t : List UInt8) (h : 128 ≤ b.toNat) : 128 ≤ (decodeL (b :: t)).1 := by
  have := (decode_high ⟨(b :: t).toArray⟩ 0 (by simp [ByteArray.size]) h).1
  exact this
theorem smL_high : ∀ (n : Nat) (l : List UInt8), l.length ≤ n → (∃ b ∈ l, 128 ≤ b.toNat) → ∃ x ∈ smL l, 128 ≤ x.toNat
  | 0, l, hl, ⟨b, hb, _⟩ => by
    have : l = [] := List.length_eq_zero_iff.1 (by omega)
    subst this
    simp at hb
  | n + 1, [], _, ⟨b, hb, _⟩ => by simp at hb
  | n + 1, b :: t, hl, ⟨c, hc, h⟩ => by
    unfold smL
    rw [mapD_step fS (b :: t) (by simp)]
    by_cases hb : b.toNat < 128
    · rw [decodeL_ascii b t hb]
      dsimp only
      rcases List.mem_cons.1 hc with rfl | hc
      · omega
      · obtain ⟨x, hx, h2⟩ := smL_high n t (by simpa using hl) ⟨c, hc, h⟩
        rw [List.drop_succ_cons, List.drop_zero]
        exact ⟨x, List.mem_append_right _ hx, h2⟩
    · have hr := decodeL_high b t (by omega)
      have hf : fS ((decodeL (b :: t)).1 : Int) = ((decodeL (b :: t)).1 : Int) := by unfold fS; rw [if_neg (by omega)]
      rw [hf, if_pos (by omega)]
      obtain ⟨x, hx, h2⟩ := enc_high ((decodeL (b :: t)).1 : Int) (by omega)
      exact ⟨x, List.mem_append_left _ hx, h2⟩
theorem smL_len : ∀ (n : Nat) (l : List UInt8), l.length ≤ n → (smL l).length ≤ 4 * l.length
  | 0, l, hl => by
    have : l = [] := List.length_eq_zero_iff.1 (by omega)
    subst this
    simp [smL, mapD, mapGoD]
  | n + 1, [], _ => by simp [smL, mapD, mapGoD]
  | n + 1, b :: t, hl => by
    have hw := decodeL_width (b :: t)
    have hd : ((b :: t).drop (decodeL (b :: t)).2).length ≤ n := by simp at hl ⊢; omega
    have ih := smL_len n _ hd
    unfold smL at ih ⊢
    rw [mapD_step fS (b :: t) (by simp), List.length_append]
    have h4 : (if 0 ≤ fS ((decodeL (b :: t)).1 : Int) then encodeRune (fS ((decodeL (b :: t)).1 : Int)) else []).length ≤ 4 := by
      split
      · exact enc_len _
      · simp
    rw [List.length_drop] at ih
    simp at ih ⊢
    omega
theorem notL_of (b : UInt8) : notL b.toNat = !(isL b) := by
  unfold notL isL isUp isLo
  rw [Bool.not_or, Bool.and_comm]
theorem idx_letters (s : ByteArray) (h : s.data.toList.all isL = true) : ∀ (f pos : Nat), idxFuncFrom notL true s f pos = -1
  | 0, _ => rfl
  | f + 1, pos => by
    unfold idxFuncFrom
    split
    · rename_i hp
      have hb : isL s[pos] = true := List.all_eq_true.1 h _ (by
        have : s.data.toList[pos]? = some s[pos] := by rw [List.getElem?_eq_getElem (by simpa using hp)]; rfl
        exact List.mem_of_getElem? this)
      have ha : (s[pos]'hp).toNat < 128 := fine_ascii _ (by simp [fine, isN, hb])
      rw [decode_ascii s pos hp ha]
      simp only [notL_of, hb, Bool.not_true, Bool.false_eq_true, if_false]
      exact idx_letters s h f _
    · rfl
theorem idx_none (s : ByteArray) : ∀ (f pos : Nat), s.size - pos ≤ f → idxFuncFrom notL true s f pos = -1 → ∀ j (hj : j < s.size), pos ≤ j → isL s[j] = true
  | 0, pos, hf, _, j, hj, hp => by omega
  | f + 1, pos, hf, h, j, hj, hp => by
    unfold idxFuncFrom at h
    have hps : pos < s.size := by omega
    rw [if_pos hps] at h
    by_cases hq : notL (Utf8.decode s pos).1 = true
    · rw [if_pos hq] at h
      omega
    · rw [if_neg hq] at h
      have hq' : notL (Utf8.decode s pos).1 = false := by simpa using hq
      have ha : (s[pos]'hps).toNat < 128 := by
        by_cases hh : (s[pos]'hps).toNat < 128
        · exact hh
        · exfalso
          have h1 := (decode_high s pos hps (by omega)).1
          have : notL (Utf8.decode s pos).1 = true := by
            unfold notL
            simp
            omega
          rw [this] at hq'
          cases hq'
      rw [decode_ascii s pos hps ha] at hq' h
      simp only at hq' h
      by_cases e : j = pos
      · subst e
        rw [notL_of] at hq'
        simpa using hq'
      · exact idx_none s f (pos + 1) (by omega) h j hj (by omega)
theorem contains_letters (s : ByteArray) : decide (0 ≤ idxFunc notL true s) = !(s.data.toList.all isL) := by
  cases hq : s.data.toList.all isL with
  | true =>
    have := idx_letters s hq s.size 0
    unfold idxFunc
    rw [this]
    rfl
  | false =>
    rcases idxFunc_range notL true s with h | ⟨h, _⟩
    · exfalso
      have h1 := idx_none s s.size 0 (by omega) h
      have : s.data.toList.all isL = true := List.all_eq_true.2 (fun b hb => by
        obtain ⟨j, hj, e⟩ := List.getElem_of_mem hb
        have hj' : j < s.size := by simpa using hj
        have := h1 j hj' (Nat.zero_le _)
        rw [← e]
        exact this)
      rw [this] at hq
      cases hq
    · simpa using h
/-- What locale makes of a piece. -/
def pfL (first : Bool) (p : List UInt8) : List UInt8 :=
  if first then smL p else if p.all isL ∧ p.length = 2 then p.map upperB else if p.all isL ∧ p.length = 4 then (p.take 1).map upperB ++ (p.drop 1).map lowerB else smL p
def formL : List (List UInt8) → List (List UInt8)
  | [] => []
  | p :: r => pfL true p :: r.map (pfL false)
theorem N_low {p : List UInt8} (h : ∀ b ∈ p, isN b = true) : smL p = p.map lowerB := smL_ascii p (fun b hb => fine_ascii b (by simp [fine, h b hb]))
theorem pfL_N {p : List UInt8} (h : ∀ b ∈ p, isN b = true) : pfL true p = p.map lowerB ∧ pfL false p = formP p := by
  refine ⟨by rw [pfL, if_pos rfl]; exact N_low h, ?_⟩
  rw [pfL, if_neg (by simp), formP, N_low h]
  by_cases h2 : p.all isL = true ∧ p.length = 2
  · rw [if_pos h2, if_neg (by omega), if_pos h2]
  · rw [if_neg h2, if_neg h2]
theorem formL_N {ps : List (List UInt8)} (h : ∀ p ∈ ps, ∀ b ∈ p, isN b = true) : formL ps = canonP ps := by
  cases ps with
  | nil => rfl
  | cons p r =>
    simp only [formL, canonP]
    rw [(pfL_N (h p (by simp))).1]
    congr 1
    exact List.map_congr_left (fun q hq => (pfL_N (h q (by simp [hq]))).2)
theorem smL_bad {p : List UInt8} {b : UInt8} (hb : b ∈ p) (h : fine b = false) : ∃ x ∈ smL p, fine x = false := by
  by_cases ha : ∀ c ∈ p, c.toNat < 128
  · rw [smL_ascii p ha]
    exact ⟨lowerB b, List.mem_map.2 ⟨b, hb, rfl⟩, by rw [fine_lo]; exact h⟩
  · have : ∃ c ∈ p, 128 ≤ c.toNat := by
      apply Classical.byContradiction
      intro hn
      exact ha (fun c hc => by
        apply Classical.byContradiction
        intro h2
        exact hn ⟨c, hc, by omega⟩)
    obtain ⟨x, hx, h2⟩ := smL_high p.length p (Nat.le_refl _) this
    refine ⟨x, hx, ?_⟩
    rw [Bool.eq_false_iff]
    intro hf
    have := fine_ascii x hf
    omega
theorem pfL_bad {p : List UInt8} {b : UInt8} (first : Bool) (hb : b ∈ p) (h : fine b = false) : ∃ x ∈ pfL first p, fine x = false := by
  have hl : ¬ p.all isL = true := fun ha => by
    have := List.all_eq_true.1 ha b hb
    simp [fine, isN, this] at h
  unfold pfL
  split
  · exact smL_bad hb h
  · rw [if_neg (fun e => hl e.1), if_neg (fun e => hl e.1)]
    exact smL_bad hb h
theorem mem_join {ps : List (List UInt8)} {p : List UInt8} {x : UInt8} (hp : p ∈ ps) (hx : x ∈ p) : x ∈ joinU ps := by
  induction ps with
  | nil => simp at hp
  | cons q r ih =>
    cases r with
    | nil =>
      rw [joinU_one]
      rcases List.mem_cons.1 hp with rfl | h
      · exact hx
      · simp at h
    | cons q2 r =>
      rw [joinU_cons]
      rcases List.mem_cons.1 hp with rfl | h
      · exact List.mem_append_left _ hx
      · exact List.mem_append_right _ (List.mem_cons_of_mem _ (ih h))
theorem mem_pieces : ∀ (s : List UInt8) (b : UInt8), b ∈ s → isSep b = false → ∃ p ∈ pieces s, b ∈ p
  | [], b, hb, _ => by simp at hb
  | c :: r, b, hb, hs => by
    unfold pieces
    rcases List.mem_cons.1 hb with rfl | hb
    · rw [if_neg (by simp [hs])]
      cases hq : pieces r with
      | nil => exact absurd hq (pieces_ne r)
      | cons q qs => exact ⟨b :: q, by simp, by simp⟩
    · obtain ⟨p, hp, h2⟩ := mem_pieces r b hb hs
      split
      · exact ⟨p, by simp [hp], h2⟩
      · cases hq : pieces r with
        | nil => exact absurd hq (pieces_ne r)
        | cons q qs =>
          rw [hq] at hp
          rcases List.mem_cons.1 hp with rfl | hp
          · exact ⟨c :: p, by simp, by simp [h2]⟩
          · exact ⟨p, by simp [hp], h2⟩
theorem formL_mem {ps : List (List UInt8)} {p : List UInt8} (hp : p ∈ ps) : ∃ first, pfL first p ∈ formL ps := by
  cases ps with
  | nil => simp at hp
  | cons q r =>
    rcases List.mem_cons.1 hp with rfl | hp
    · exact ⟨true, by simp [formL]⟩
    · exact ⟨false, by simp [formL]; exact .inr ⟨p, hp, rfl⟩⟩
/-- What locale makes of a text is a tag in its one form, just if the text is a tag; then it is that. -/
theorem locale_form (t : List UInt8) (ht : t.length ≤ 64) : (tagF t = none → tagF (joinU (formL (pieces t))) ≠ some (joinU (formL (pieces t)))) ∧ (∀ c, tagF t = some c → joinU (formL (pieces t)) = c ∧ tagF c = some c) := by
  by_cases hf : ∀ b ∈ t, fine b = true
  · have e := formL_N (pieces_of_fine t hf)
    rw [e]
    have h1 := tagF_form hf ht
    refine ⟨fun h2 => ?_, fun c h2 => ?_⟩
    · rw [h1]
      unfold tagF at h2
      split at h2
      · cases h2
      · rename_i h3
        rw [if_neg (fun hv => h3 ⟨ht, hv⟩)]
        simp
    · unfold tagF at h2
      split at h2
      · rename_i h3
        have h4 := Option.some.inj h2
        refine ⟨h4, ?_⟩
        rw [← h4, h1, if_pos h3.2]
      · cases h2
  · have : ∃ b ∈ t, fine b = false := by
      apply Classical.byContradiction
      intro hn
      exact hf (fun b hb => by
        cases hq : fine b with
        | true => rfl
        | false => exact absurd ⟨b, hb, hq⟩ hn)
    obtain ⟨b, hb, h⟩ := this
    have hs : isSep b = false := by
      cases hq : isSep b with
      | false => rfl
      | true => simp [fine, hq] at h
    obtain ⟨p, hp, h2⟩ := mem_pieces t b hb hs
    obtain ⟨first, h3⟩ := formL_mem hp
    obtain ⟨x, hx, h4⟩ := pfL_bad first h2 h
    have h5 := tagF_bad (mem_join h3 hx) h4
    refine ⟨fun _ => by rw [h5]; simp, fun c hc => ?_⟩
    rw [tagF_bad hb h] at hc
    cases hc
end Go.Proofs.YtbdjnmbhphflbaaGreatDoor
