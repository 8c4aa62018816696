/-
  The mathematics of pieces: a block of a table that may be.
-/
import Derived.Test.YtpimameogmkpcaaDoorPbR8M
import Derived.Test.YtpimameogmkpcaaDoorPbBW
namespace Go.Proofs.YtpimameogmkpcaaDoor
/-- A block's classes. -/
def clsB (ss : List Sp) (b : Nat) (j : Nat) : Int := cls ss (128 * (b : Int) + (j : Int))
/-- A block's pieces. -/
def pcs (ss : List Sp) (b : Nat) : List Pc := encN (clsB ss b) 128
theorem cls_none {l : List Sp} {p : Int} (h : ∀ s ∈ l, hits p s = false) : cls l p = 0 := by
  have := cls_head (m := []) h
  rwa [List.append_nil, cls_nil] at this
theorem pcs_start (ss : List Sp) (b i : Nat) (h : ∀ s ∈ ss.take i, s.2.1 < 128 * (b : Int)) : pcs (ss.take i) b = [(0, 0)] := by
  have e : encN (clsB (ss.take i) b) 128 = encN (fun _ => 0) 128 := encN_congr _ _ _ (fun j _ => cls_none (fun s hs => by rw [hits_not]; have := h s hs; omega))
  rw [pcs, e, encN_const (fun _ => 0) 0 128 (by omega) (fun _ _ _ => rfl)]
  simp [encN]
theorem rise_before {N : Int} {ss : List Sp} (hR : Rise N ss) (k : Nat) (hk : k < ss.length) : ∀ t ∈ ss.take k, t.2.1 < ss[k].1 := by
  intro t ht
  obtain ⟨j, hj, e⟩ := List.getElem_of_mem ht
  rw [List.length_take] at hj
  rw [List.getElem_take] at e
  have := List.pairwise_iff_getElem.1 hR.two j k (by omega) hk (by omega)
  rw [e] at this
  exact this
theorem pcs_step {N : Int} {ss : List Sp} (hR : Rise N ss) (b k : Nat) (hk : k < ss.length) (hlo : ss[k].1 < 128 * (b : Int) + 128) (hhi : 128 * (b : Int) ≤ ss[k].2.1) :
    putF (putF (pcs (ss.take k) b) (max (ss[k].1 - 128 * (b : Int)) 0, ss[k].2.2 + 1)) (min (ss[k].2.1 - 128 * (b : Int)) 127 + 1, 0) = pcs (ss.take (k + 1)) b := by
  have hb := rise_before hR k hk
  have hone := hR.one ss[k] (List.getElem_mem hk)
  have etk : ss.take (k + 1) = ss.take k ++ [ss[k]] := by rw [List.take_add_one, List.getElem?_eq_getElem hk]; rfl
  generalize ss[k] = s at *
  obtain ⟨lo, hi, nm⟩ := s
  simp only at hlo hhi hb hone ⊢
  obtain ⟨fr, hfr⟩ : ∃ fr : Nat, max (lo - 128 * (b : Int)) 0 = (fr : Int) := ⟨(max (lo - 128 * (b : Int)) 0).toNat, by omega⟩
  obtain ⟨to, hto⟩ : ∃ to : Nat, min (hi - 128 * (b : Int)) 127 + 1 = (to : Int) := ⟨(min (hi - 128 * (b : Int)) 127 + 1).toNat, by omega⟩
  have hz : ∀ j : Nat, fr ≤ j → clsB (ss.take k) b j = 0 := fun j hj => cls_none (fun t ht => by rw [hits_not]; have := hb t ht; omega)
  rw [hfr, hto, pcs, putF_enc _ fr _ (fun j h1 _ => by rw [hz j h1, hz fr (Nat.le_refl _)]), putF_enc _ to _ (fun j h1 _ => by rw [if_neg (by omega), if_neg (by omega)]), pcs, etk]
  refine encN_congr _ _ _ (fun j hj => ?_)
  have hs : clsB (ss.take k ++ [(lo, hi, nm)]) b j = if lo ≤ 128 * (b : Int) + (j : Int) ∧ 128 * (b : Int) + (j : Int) ≤ hi then nm + 1 else clsB (ss.take k) b j := cls_snoc (s := (lo, hi, nm)) hb
  rw [hs]
  by_cases h1 : j < fr
  · rw [if_pos (by omega), if_pos h1, if_neg (by omega)]
  · by_cases h2 : j < to
    · rw [if_pos h2, if_neg h1, if_pos (by omega)]
    · rw [if_neg h2, if_neg (by omega), hz j (by omega)]
theorem pcs_end {N : Int} {ss : List Sp} (hR : Rise N ss) (b e : Nat) (h : ∀ (q : e < ss.length), 128 * (b : Int) + 128 ≤ ss[e].1) : pcs (ss.take e) b = pcs ss b :=
  encN_congr _ _ _ (fun j hj => (cls_take hR (fun q => by have := h q; omega)).symm)
theorem pcs_iff (ss : List Sp) (b c : Nat) : pcs ss b = pcs ss c ↔ blkOf (cls ss) b = blkOf (cls ss) c := by
  constructor
  · intro h
    have h1 := encN_inj _ _ _ h
    unfold blkOf
    exact List.map_congr_left (fun j hj => h1 j (by simpa using hj))
  · intro h
    refine encN_congr _ _ _ (fun j hj => ?_)
    have := congrArg (fun l => l[j]?) h
    simpa [blkOf, hj, clsB] using this
theorem ord_same {α β : Type} [BEq α] [LawfulBEq α] [BEq β] [LawfulBEq β] (B : Nat → α) (C : Nat → β) (h : ∀ i j, B i = B j ↔ C i = C j) (n : Nat) : (ord B n).length = (ord C n).length := by
  induction n with
  | zero => rfl
  | succ n ih =>
    have e : (ord B n).contains (B n) = (ord C n).contains (C n) := by
      rw [Bool.eq_iff_iff, List.contains_iff_mem, List.contains_iff_mem]
      constructor
      · intro hm
        obtain ⟨k, hk, e⟩ := ord_sub B n _ hm
        rw [(h n k).1 e]
        exact ord_mem C n k hk
      · intro hm
        obtain ⟨k, hk, e⟩ := ord_sub C n _ hm
        rw [(h n k).2 e]
        exact ord_mem B n k hk
    rw [ord, ord, e]
    split <;> simp [ih]
theorem kinds_len (ss : List Sp) (n : Nat) : (ord (pcs ss) n).length = (ord (blkOf (cls ss)) n).length := ord_same _ _ (pcs_iff ss) n
end Go.Proofs.YtpimameogmkpcaaDoor
