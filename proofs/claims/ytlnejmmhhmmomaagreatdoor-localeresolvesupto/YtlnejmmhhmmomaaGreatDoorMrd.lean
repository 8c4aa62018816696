/-
  Lc4W, LtAM, LtAW, LtBW, LtKW, LtCW, LtDW, Lc5W, Lc6W, Lc7W, Lc8W, LdM, LdEW.
-/
import Derived.Test.YtlnejmmhhmmomaaGreatDoorMrc
import Derived.Test.YtlnejmmhhmmomaaGreatDoorMra
import Derived.Test.YtlnejmmhhmmomaaGreatDoorMrb
import Derived.Deep.RegionHeld3
import Derived.Shelf.Strings.BuilderK
import Derived.Lib.AppendStr
import Derived.Lib.SlicesS
import Derived.Lib.AppendZeros
import Derived.Deep.DeepAppendRoom
import Derived.Deep.AppendLies
import Derived.Laws.StructEq
namespace Go.Proofs.YtlnejmmhhmmomaaGreatDoor
open Go.RowKit Go.Shelf Go.Lib
/-- What checkEntry answers: the number of the refusal. -/
def entF (l : List UInt8) : Option Nat := if (unitsOf l).any (fun u => u.1 == -1) = true then some 1 else if (unitsOf l).length = 0 then some 1 else if 32 < (unitsOf l).length then some 2 else none
theorem units_len (l : List UInt8) : ∀ (d k : Nat), l.length - k ≤ d → (unitsAt l k).length ≤ l.length - k
  | 0, k, h => by rw [unitsAt_end l k (by omega)]; simp
  | d + 1, k, h => by
    by_cases hk : k < l.length
    · have h1 := drop_size l k hk
      have ih := units_len l d (k + (uniOf (l.drop k)).2) (by omega)
      rw [unitsAt_step l k hk, List.length_cons]
      omega
    · rw [unitsAt_end l k (by omega)]; simp
set_option maxRecDepth 10000 in
set_option maxHeartbeats 400000 in
theorem next_end (s : ByteArray) (k : Nat) (h : (s.size : Int) ≤ (k : Int)) (w : World) :
    Calls Tryz.prog 84 #[.string s, .int .i64 (k : Int)] w fun e w' => e = .returned (.tuple #[noUnit, .bool false]) ∧ Below w.heap.size w w' := by
  go_enter Tryz.func84, Tryz.ntmps84
  go_wp2
  go_returns
  exact ⟨rfl, by go_grown⟩
/-- The loop's state: the unit at k lies at g; n units are ahead of it, none of them bad. -/
structure Ent (w W : World) (l : List UInt8) (g k n : Nat) (v0 v1 v2 : Int) : Prop where
  bel : Below w.heap.size w W
  row : W.heap[g]? = some (.cells #[.int .i64 v0, .int .i64 v1, .int .i64 v2] 88 (0, 0))
  lo : w.heap.size ≤ g
  cl : clean l k
  kl : k ≤ l.length
  cnt : ∃ pre, unitsOf l = pre ++ unitsAt l k ∧ pre.length = n ∧ ∀ u ∈ pre, u.1 ≠ -1
theorem cnt_next {l : List UInt8} {k n : Nat} (hk : k < l.length) (hb : (uniOf (l.drop k)).1 ≠ -1) (h : ∃ pre, unitsOf l = pre ++ unitsAt l k ∧ pre.length = n ∧ ∀ u ∈ pre, u.1 ≠ -1) :
    (∃ pre, unitsOf l = pre ++ unitsAt l (k + (uniOf (l.drop k)).2) ∧ pre.length = n + 1 ∧ ∀ u ∈ pre, u.1 ≠ -1) ∧ n + 1 ≤ l.length := by
  obtain ⟨pre, h1, h2, h3⟩ := h
  rw [unitsAt_step l k hk] at h1
  have hl := units_len l l.length 0 (by omega)
  have hl2 : (unitsOf l).length ≤ l.length := hl
  rw [h1, List.length_append, List.length_cons] at hl2
  refine ⟨⟨pre ++ [((uniOf (l.drop k)).1, k, k + (uniOf (l.drop k)).2)], by rw [h1]; simp, by simp [h2], fun u hu => ?_⟩, by omega⟩
  rcases List.mem_append.1 hu with hu | hu
  · exact h3 u hu
  · rw [List.mem_singleton.1 hu]; exact hb
theorem ent_bad {l : List UInt8} {k n : Nat} (hk : k < l.length) (hb : (uniOf (l.drop k)).1 = -1) (h : ∃ pre, unitsOf l = pre ++ unitsAt l k ∧ pre.length = n ∧ ∀ u ∈ pre, u.1 ≠ -1) : entF l = some 1 := by
  obtain ⟨pre, h1, _, _⟩ := h
  rw [unitsAt_step l k hk] at h1
  unfold entF
  rw [if_pos]
  rw [List.any_eq_true]
  exact ⟨((uniOf (l.drop k)).1, k, k + (uniOf (l.drop k)).2), by rw [h1]; simp, by simp [hb]⟩
theorem ent_end {l : List UInt8} {k n : Nat} (hk : ¬ k < l.length) (h : ∃ pre, unitsOf l = pre ++ unitsAt l k ∧ pre.length = n ∧ ∀ u ∈ pre, u.1 ≠ -1) : entF l = if n = 0 then some 1 else if 32 < n then some 2 else none := by
  obtain ⟨pre, h1, h2, h3⟩ := h
  rw [unitsAt_end l k (by omega), List.append_nil] at h1
  unfold entF
  rw [h1, h2, if_neg]
  rw [List.any_eq_true]
  rintro ⟨u, hu, e⟩
  exact h3 u hu (by simpa using e)
theorem set3_below {w W : World} {g : Nat} (h : Below w.heap.size w W) (hg : w.heap.size ≤ g) (a b c : Value) : Below w.heap.size w (((W.setCell ⟨g, 0, none⟩ a).setCell ⟨g, 1, none⟩ b).setCell ⟨g, 2, none⟩ c) := ((h.setCell (p := ⟨g, 0, none⟩) hg a).setCell (p := ⟨g, 1, none⟩) hg b).setCell (p := ⟨g, 2, none⟩) hg c
set_option maxRecDepth 10000 in
set_option maxHeartbeats 3200000 in
theorem entry_any (A : Nat → Addr) (s : ByteArray) (w : World) (hs : s.size ≤ 140737488355328) (hT : SeqAt w) (he : Sents w A) :
    Calls Tryz.prog 57 #[.string s] w fun e w' => e = .returned (errO A (entF s.data.toList)) ∧ Below w.heap.size w w' := by
  obtain ⟨l, hl⟩ : ∃ l, l = s.data.toList := ⟨_, rfl⟩
  have hll : l.length = s.size := by rw [hl]; simp
  have HIn : Hid (∀ k W, clean l k → k < l.length → Below w.heap.size w W → Calls Tryz.prog 84 #[.string s, .int .i64 (k : Int)] W fun e w' => e = .returned (.tuple #[unitVal (uniOf (l.drop k)).1 k (k + (uniOf (l.drop k)).2), .bool true]) ∧ Below W.heap.size W w') := hid0 (fun k W hc hk hW => by
    have h0 := next_in s k (by omega) hs W (hT.later hW)
    rw [← hl, nextVal, edge_clean hc, if_pos rfl] at h0
    exact h0)
  have HOut : Hid (∀ k W, l.length ≤ k → Calls Tryz.prog 84 #[.string s, .int .i64 (k : Int)] W fun e w' => e = .returned (.tuple #[noUnit, .bool false]) ∧ Below W.heap.size W w') := hid0 (fun k W hk => next_end s k (by omega) W)
  have HEr : Hid (∀ W, Below w.heap.size w W → W.cell? ⟨2, 0, none⟩ = some (.iface 185 (.pointer (some (A 1)))) ∧ W.cell? ⟨0, 0, none⟩ = some (.iface 185 (.pointer (some (A 2))))) := hid0 (fun W hW => ⟨(he.below hW).c1, (he.below hW).c2⟩)
  have HB0 := hid0 (Below.refl w.heap.size w)
  rw [← hl]
  have hlb : l.length ≤ 140737488355328 := by omega
  clear hT he hl hll
  -- what the first call answers
  have HF : Hid (∃ v0 v1 v2 : Int, Calls Tryz.prog 84 #[.string s, .int .i64 0] w (fun e w' => e = .returned (.tuple #[.agg #[.int .i64 v0, .int .i64 v1, .int .i64 v2], .bool (decide (0 < l.length))]) ∧ Below w.heap.size w w') ∧ (0 < l.length → v0 = (uniOf (l.drop 0)).1 ∧ v2 = ((0 + (uniOf (l.drop 0)).2 : Nat) : Int))) := hid0 (by
    by_cases h : 0 < l.length
    · refine ⟨_, _, _, by rw [decide_eq_true h]; exact HIn.out 0 w (clean_zero l) h HB0.out, fun _ => ⟨rfl, rfl⟩⟩
    · refine ⟨_, _, _, by rw [decide_eq_false h]; exact HOut.out 0 w (by omega), fun h' => absurd h' h⟩)
  obtain ⟨v0, v1, v2, hF, hv⟩ := HF.out
  have HF1 := hid0 hF
  have HV1 := hid0 hv
  clear HF hF hv
  go_enter Tryz.func57, Tryz.ntmps57
  go_wp2_with (first
    | (go_at_call 84; refine HF1.out.mono ?_; rintro e w1 ⟨rfl, hb1⟩; have HB1 := hid0 hb1; clear hb1)
    | fail)
  have HE1 : Hid (Ent w (w1.alloc (.cells #[.int .i64 v0, .int .i64 v1, .int .i64 v2] 88)) l w1.heap.size 0 0 v0 v1 v2) := hid0 ⟨HB1.out.alloc HB1.out.size _, heap_alloc_new w1 _, HB1.out.size, clean_zero l, Nat.zero_le _, ⟨[], rfl, rfl, fun u h => by simp at h⟩⟩
  go_loopw [3, 4, 5] (fun t3 t4 t5 wr => ∃ (n k g : Nat) (v0 v1 v2 : Int), t3 = .int .i64 (n : Int) ∧ t4 = .pointer (some ⟨g, 0, none⟩) ∧ t5 = .bool (decide (k < l.length)) ∧ n ≤ l.length ∧ Hid (k < l.length → v0 = (uniOf (l.drop k)).1 ∧ v2 = ((k + (uniOf (l.drop k)).2 : Nat) : Int)) ∧ Hid (Ent w wr l g k n v0 v1 v2)) (fun t3 _ _ _ => l.length + 1 - (intOf t3).toNat)
  case atStart => exact ⟨0, 0, _, _, _, _, rfl, rfl, rfl, Nat.zero_le _, HV1, HE1⟩
  case round =>
    clear HE1 HB1 HF1 HV1
    obtain ⟨n, k, g, v0, v1, v2, rfl, rfl, rfl, hn, HV, HE⟩ := hrel
    obtain ⟨⟨c0, c1, c2⟩, f0, f1, f2⟩ := row3 HE.out.row
    obtain ⟨e1, e2⟩ := HEr.out wr HE.out.bel
    by_cases hk : k < l.length
    · rw [decide_eq_true hk]
      obtain ⟨rfl, rfl⟩ := HV.out hk
      have HD := hid0 (drop_size l k hk)
      by_cases hbad : (uniOf (l.drop k)).1 = -1
      · have HR := hid0 (ent_bad hk hbad HE.out.cnt)
        rw [hbad] at c0
        clear HD
        go_wp2
        go_ret
        exact ⟨by rw [HR.out]; rfl, HE.out.bel⟩
      · have HC := hid0 (cnt_next hk hbad HE.out.cnt)
        have hn2 := HC.out.2
        have HCl := hid0 (clean_next HE.out.cl)
        have hkl := HD.out.2.1
        have HW : Hid (Below w.heap.size w (wr.alloc (.cells #[.int .i64 (uniOf (l.drop k)).1, .int .i64 v1, .int .i64 ((k + (uniOf (l.drop k)).2 : Nat) : Int)] 88))) := hid0 (HE.out.bel.alloc HE.out.bel.size _)
        have HNx : Hid (∃ y0 y1 y2 : Int, Calls Tryz.prog 84 #[.string s, .int .i64 ((k + (uniOf (l.drop k)).2 : Nat) : Int)] (wr.alloc (.cells #[.int .i64 (uniOf (l.drop k)).1, .int .i64 v1, .int .i64 ((k + (uniOf (l.drop k)).2 : Nat) : Int)] 88)) (fun e w' => e = .returned (.tuple #[.agg #[.int .i64 y0, .int .i64 y1, .int .i64 y2], .bool (decide (k + (uniOf (l.drop k)).2 < l.length))]) ∧ Below (wr.alloc (.cells #[.int .i64 (uniOf (l.drop k)).1, .int .i64 v1, .int .i64 ((k + (uniOf (l.drop k)).2 : Nat) : Int)] 88)).heap.size (wr.alloc (.cells #[.int .i64 (uniOf (l.drop k)).1, .int .i64 v1, .int .i64 ((k + (uniOf (l.drop k)).2 : Nat) : Int)] 88)) w') ∧ (k + (uniOf (l.drop k)).2 < l.length → y0 = (uniOf (l.drop (k + (uniOf (l.drop k)).2))).1 ∧ y2 = ((k + (uniOf (l.drop k)).2 + (uniOf (l.drop (k + (uniOf (l.drop k)).2))).2 : Nat) : Int))) := hid0 (by
          by_cases h : k + (uniOf (l.drop k)).2 < l.length
          · exact ⟨_, _, _, by rw [decide_eq_true h]; exact HIn.out _ _ HCl.out h HW.out, fun _ => ⟨rfl, rfl⟩⟩
          · exact ⟨_, _, _, by rw [decide_eq_false h]; exact HOut.out _ _ (by omega), fun h' => absurd h' h⟩)
        obtain ⟨y0, y1, y2, hq, hy⟩ := HNx.out
        have HQ := hid0 hq
        have HY := hid0 hy
        clear HNx hq hy HIn HOut HV
        generalize hk2 : k + (uniOf (l.drop k)).2 = k2 at *
        generalize (uniOf (l.drop k)).1 = p at *
        clear HD hk2
        go_wp2_with (first
          | (go_at_call 84; refine HQ.out.mono ?_; rintro e w5 ⟨rfl, hb5⟩; have HR5 := hid0 (boxRow hb5); have HB5 := hid0 (HW.out.trans (hb5.mono HW.out.size)); obtain ⟨⟨d0, d1, d2⟩, g0, g1, g2⟩ := row3 HR5.out; clear hb5)
          | fail)
        have HE6 := hid0 (Ent.mk (set3_below HB5.out HE.out.bel.size (.int .i64 y0) (.int .i64 y1) (.int .i64 y2)) (set3 (.int .i64 y0) (.int .i64 y1) (.int .i64 y2) HR5.out) HE.out.bel.size HCl.out hkl HC.out.1)
        go_roundw
        case rel => exact ⟨n + 1, k2, wr.heap.size, y0, y1, y2, by go_num, rfl, rfl, hn2, HY, HE6⟩
        case measure => simp [intOf]; omega
    · rw [decide_eq_false hk]
      have HR := hid0 (ent_end hk HE.out.cnt)
      by_cases h0 : n = 0
      · have h0I : (n : Int) = 0 := by omega
        rw [h0] at HR
        simp only [if_true] at HR
        go_wp2
        go_ret
        exact ⟨by rw [HR.out]; rfl, HE.out.bel⟩
      · have h0I : ¬ (n : Int) = 0 := by omega
        rw [if_neg h0] at HR
        by_cases h3 : 32 < n
        · have h3I : (32 : Int) < (n : Int) := by omega
          rw [if_pos h3] at HR
          go_wp2
          go_ret
          exact ⟨by rw [HR.out]; rfl, HE.out.bel⟩
        · have h3I : ¬ (32 : Int) < (n : Int) := by omega
          rw [if_neg h3] at HR
          go_wp2
          go_ret
          exact ⟨by rw [HR.out]; rfl, HE.out.bel⟩
end Go.Proofs.YtlnejmmhhmmomaaGreatDoor
namespace Go.Proofs.YtlnejmmhhmmomaaGreatDoor
open Go.Lib
/-- A rune in its small form. -/
def fS (x : Int) : Int := if 65 ≤ x ∧ x ≤ 90 then x + 32 else x
/-- No letter. -/
def notL (x : Nat) : Bool := !(decide (97 ≤ x) && decide (x ≤ 122)) && !(decide (65 ≤ x) && decide (x ≤ 90))
def smL (p : List UInt8) : List UInt8 := mapD fS p
theorem fS_range (x : Nat) (hx : x ≤ 1114111) : 0 ≤ fS x ∧ fS x ≤ 2147483647 := by
  unfold fS
  split <;> omega
set_option maxRecDepth 100000 in
theorem small_byte : ∀ i : Fin 128, encodeRune (fS (i.val : Int)) = [lowerB (UInt8.ofNat i.val)] := by decide
theorem smL_ascii : ∀ (l : List UInt8), (∀ b ∈ l, b.toNat < 128) → smL l = l.map lowerB
  | [], _ => rfl
  | b :: t, ha => by
    have hb := ha b List.mem_cons_self
    have ih := smL_ascii t (fun x hx => ha x (List.mem_cons_of_mem _ hx))
    unfold smL at ih ⊢
    rw [mapD_step fS (b :: t) (by simp), decodeL_ascii b t hb]
    dsimp only
    rw [if_pos (fS_range b.toNat (by omega)).1, small_byte ⟨b.toNat, hb⟩, List.drop_succ_cons, List.drop_zero, ih]
    simp
theorem enc_high (r : Int) (h : 128 ≤ r) : ∃ x ∈ encodeRune r, 128 ≤ x.toNat := by
  have e : ∃ z ∈ encodeRuneZ r, 128 ≤ z ∧ z < 256 := by
    unfold encodeRuneZ
    split
    · omega
    · split
      · exact ⟨128 + r % 64, by simp, by omega, by omega⟩
      · split
        · exact ⟨128 + r % 64, by simp, by omega, by omega⟩
        · split
          · exact ⟨128 + r % 64, by simp, by omega, by omega⟩
          · exact ⟨189, by simp, by omega, by omega⟩
  obtain ⟨z, hz, h1, h2⟩ := e
  refine ⟨z.toNat.toUInt8, List.mem_map.2 ⟨z, hz, rfl⟩, ?_⟩
  have : z.toNat.toUInt8.toNat = z.toNat := by
    simp
    omega
  omega
theorem enc_len (r : Int) : (encodeRune r).length ≤ 4 := by
  unfold encodeRune encodeRuneZ
  (repeat' split) <;> simp
theorem decodeL_high (b : UInt8) (t : List UInt8) (h : 128 ≤ b.toNat) : 128 ≤ (decodeL (b :: t)).1 := by
  have := (decode_high ⟨(b :: t).toArray⟩ 0 (by simp [ByteArray.size]) h).1
  exact this
theorem smL_high : ∀ (n : Nat) (l : List UInt8), l.length ≤ n → (∃ b ∈ l, 128 ≤ b.toNat) → ∃ x ∈ smL l, 128 ≤ x.toNat
  | 0, l, hl, ⟨b, hb, _⟩ => by
    have : l = [] := List.length_eq_zero_iff.1 (by omega)
    subst this
    simp at hb
  | n + 1, [], _, ⟨b, hb, _⟩ => by simp at hb
  | n + 1, b :: t, hl, ⟨c, hc, h⟩ => by
    unfold smL
    rw [mapD_step fS (b :: t) (by simp)]
    by_cases hb : b.toNat < 128
    · rw [decodeL_ascii b t hb]
      dsimp only
      rcases List.mem_cons.1 hc with rfl | hc
      · omega
      · obtain ⟨x, hx, h2⟩ := smL_high n t (by simpa using hl) ⟨c, hc, h⟩
        rw [List.drop_succ_cons, List.drop_zero]
        exact ⟨x, List.mem_append_right _ hx, h2⟩
    · have hr := decodeL_high b t (by omega)
      have hf : fS ((decodeL (b :: t)).1 : Int) = ((decodeL (b :: t)).1 : Int) := by unfold fS; rw [if_neg (by omega)]
      rw [hf, if_pos (by omega)]
      obtain ⟨x, hx, h2⟩ := enc_high ((decodeL (b :: t)).1 : Int) (by omega)
      exact ⟨x, List.mem_append_left _ hx, h2⟩
theorem smL_len : ∀ (n : Nat) (l : List UInt8), l.length ≤ n → (smL l).length ≤ 4 * l.length
  | 0, l, hl => by
    have : l = [] := List.length_eq_zero_iff.1 (by omega)
    subst this
    simp [smL, mapD, mapGoD]
  | n + 1, [], _ => by simp [smL, mapD, mapGoD]
  | n + 1, b :: t, hl => by
    have hw := decodeL_width (b :: t)
    have hd : ((b :: t).drop (decodeL (b :: t)).2).length ≤ n := by simp at hl ⊢; omega
    have ih := smL_len n _ hd
    unfold smL at ih ⊢
    rw [mapD_step fS (b :: t) (by simp), List.length_append]
    have h4 : (if 0 ≤ fS ((decodeL (b :: t)).1 : Int) then encodeRune (fS ((decodeL (b :: t)).1 : Int)) else []).length ≤ 4 := by
      split
      · exact enc_len _
      · simp
    rw [List.length_drop] at ih
    simp at ih ⊢
    omega
theorem notL_of (b : UInt8) : notL b.toNat = !(isL b) := by
  unfold notL isL isUp isLo
  rw [Bool.not_or, Bool.and_comm]
theorem idx_letters (s : ByteArray) (h : s.data.toList.all isL = true) : ∀ (f pos : Nat), idxFuncFrom notL true s f pos = -1
  | 0, _ => rfl
  | f + 1, pos => by
    unfold idxFuncFrom
    split
    · rename_i hp
      have hb : isL s[pos] = true := List.all_eq_true.1 h _ (by
        have : s.data.toList[pos]? = some s[pos] := by rw [List.getElem?_eq_getElem (by simpa using hp)]; rfl
        exact List.mem_of_getElem? this)
      have ha : (s[pos]'hp).toNat < 128 := fine_ascii _ (by simp [fine, isN, hb])
      rw [decode_ascii s pos hp ha]
      simp only [notL_of, hb, Bool.not_true, Bool.false_eq_true, if_false]
      exact idx_letters s h f _
    · rfl
theorem idx_none (s : ByteArray) : ∀ (f pos : Nat), s.size - pos ≤ f → idxFuncFrom notL true s f pos = -1 → ∀ j (hj : j < s.size), pos ≤ j → isL s[j] = true
  | 0, pos, hf, _, j, hj, hp => by omega
  | f + 1, pos, hf, h, j, hj, hp => by
    unfold idxFuncFrom at h
    have hps : pos < s.size := by omega
    rw [if_pos hps] at h
    by_cases hq : notL (Utf8.decode s pos).1 = true
    · rw [if_pos hq] at h
      omega
    · rw [if_neg hq] at h
      have hq' : notL (Utf8.decode s pos).1 = false := by simpa using hq
      have ha : (s[pos]'hps).toNat < 128 := by
        by_cases hh : (s[pos]'hps).toNat < 128
        · exact hh
        · exfalso
          have h1 := (decode_high s pos hps (by omega)).1
          have : notL (Utf8.decode s pos).1 = true := by
            unfold notL
            simp
            omega
          rw [this] at hq'
          cases hq'
      rw [decode_ascii s pos hps ha] at hq' h
      simp only at hq' h
      by_cases e : j = pos
      · subst e
        rw [notL_of] at hq'
        simpa using hq'
      · exact idx_none s f (pos + 1) (by omega) h j hj (by omega)
theorem contains_letters (s : ByteArray) : decide (0 ≤ idxFunc notL true s) = !(s.data.toList.all isL) := by
  cases hq : s.data.toList.all isL with
  | true =>
    have := idx_letters s hq s.size 0
    unfold idxFunc
    rw [this]
    rfl
  | false =>
    rcases idxFunc_range notL true s with h | ⟨h, _⟩
    · exfalso
      have h1 := idx_none s s.size 0 (by omega) h
      have : s.data.toList.all isL = true := List.all_eq_true.2 (fun b hb => by
        obtain ⟨j, hj, e⟩ := List.getElem_of_mem hb
        have hj' : j < s.size := by simpa using hj
        have := h1 j hj' (Nat.zero_le _)
        rw [← e]
        exact this)
      rw [this] at hq
      cases hq
    · simpa using h
/-- What locale makes of a piece. -/
def pfL (first : Bool) (p : List UInt8) : List UInt8 :=
  if first then smL p else if p.all isL ∧ p.length = 2 then p.map upperB else if p.all isL ∧ p.length = 4 then (p.take 1).map upperB ++ (p.drop 1).map lowerB else smL p
def formL : List (List UInt8) → List (List UInt8)
  | [] => []
  | p :: r => pfL true p :: r.map (pfL false)
theorem N_low {p : List UInt8} (h : ∀ b ∈ p, isN b = true) : smL p = p.map lowerB := smL_ascii p (fun b hb => fine_ascii b (by simp [fine, h b hb]))
theorem pfL_N {p : List UInt8} (h : ∀ b ∈ p, isN b = true) : pfL true p = p.map lowerB ∧ pfL false p = formP p := by
  refine ⟨by rw [pfL, if_pos rfl]; exact N_low h, ?_⟩
  rw [pfL, if_neg (by simp), formP, N_low h]
  by_cases h2 : p.all isL = true ∧ p.length = 2
  · rw [if_pos h2, if_neg (by omega), if_pos h2]
  · rw [if_neg h2, if_neg h2]
theorem formL_N {ps : List (List UInt8)} (h : ∀ p ∈ ps, ∀ b ∈ p, isN b = true) : formL ps = canonP ps := by
  cases ps with
  | nil => rfl
  | cons p r =>
    simp only [formL, canonP]
    rw [(pfL_N (h p (by simp))).1]
    congr 1
    exact List.map_congr_left (fun q hq => (pfL_N (h q (by simp [hq]))).2)
theorem smL_bad {p : List UInt8} {b : UInt8} (hb : b ∈ p) (h : fine b = false) : ∃ x ∈ smL p, fine x = false := by
  by_cases ha : ∀ c ∈ p, c.toNat < 128
  · rw [smL_ascii p ha]
    exact ⟨lowerB b, List.mem_map.2 ⟨b, hb, rfl⟩, by rw [fine_lo]; exact h⟩
  · have : ∃ c ∈ p, 128 ≤ c.toNat := by
      apply Classical.byContradiction
      intro hn
      exact ha (fun c hc => by
        apply Classical.byContradiction
        intro h2
        exact hn ⟨c, hc, by omega⟩)
    obtain ⟨x, hx, h2⟩ := smL_high p.length p (Nat.le_refl _) this
    refine ⟨x, hx, ?_⟩
    rw [Bool.eq_false_iff]
    intro hf
    have := fine_ascii x hf
    omega
theorem pfL_bad {p : List UInt8} {b : UInt8} (first : Bool) (hb : b ∈ p) (h : fine b = false) : ∃ x ∈ pfL first p, fine x = false := by
  have hl : ¬ p.all isL = true := fun ha => by
    have := List.all_eq_true.1 ha b hb
    simp [fine, isN, this] at h
  unfold pfL
  split
  · exact smL_bad hb h
  · rw [if_neg (fun e => hl e.1), if_neg (fun e => hl e.1)]
    exact smL_bad hb h
theorem mem_join {ps : List (List UInt8)} {p : List UInt8} {x : UInt8} (hp : p ∈ ps) (hx : x ∈ p) : x ∈ joinU ps := by
  induction ps with
  | nil => simp at hp
  | cons q r ih =>
    cases r with
    | nil =>
      rw [joinU_one]
      rcases List.mem_cons.1 hp with rfl | h
      · exact hx
      · simp at h
    | cons q2 r =>
      rw [joinU_cons]
      rcases List.mem_cons.1 hp with rfl | h
      · exact List.mem_append_left _ hx
      · exact List.mem_append_right _ (List.mem_cons_of_mem _ (ih h))
theorem mem_pieces : ∀ (s : List UInt8) (b : UInt8), b ∈ s → isSep b = false → ∃ p ∈ pieces s, b ∈ p
  | [], b, hb, _ => by simp at hb
  | c :: r, b, hb, hs => by
    unfold pieces
    rcases List.mem_cons.1 hb with rfl | hb
    · rw [if_neg (by simp [hs])]
      cases hq : pieces r with
      | nil => exact absurd hq (pieces_ne r)
      | cons q qs => exact ⟨b :: q, by simp, by simp⟩
    · obtain ⟨p, hp, h2⟩ := mem_pieces r b hb hs
      split
      · exact ⟨p, by simp [hp], h2⟩
      · cases hq : pieces r with
        | nil => exact absurd hq (pieces_ne r)
        | cons q qs =>
          rw [hq] at hp
          rcases List.mem_cons.1 hp with rfl | hp
          · exact ⟨c :: p, by simp, by simp [h2]⟩
          · exact ⟨p, by simp [hp], h2⟩
theorem formL_mem {ps : List (List UInt8)} {p : List UInt8} (hp : p ∈ ps) : ∃ first, pfL first p ∈ formL ps := by
  cases ps with
  | nil => simp at hp
  | cons q r =>
    rcases List.mem_cons.1 hp with rfl | hp
    · exact ⟨true, by simp [formL]⟩
    · exact ⟨false, by simp [formL]; exact .inr ⟨p, hp, rfl⟩⟩
/-- What locale makes of a text is a tag in its one form, just if the text is a tag; then it is that. -/
theorem locale_form (t : List UInt8) (ht : t.length ≤ 64) : (tagF t = none → tagF (joinU (formL (pieces t))) ≠ some (joinU (formL (pieces t)))) ∧ (∀ c, tagF t = some c → joinU (formL (pieces t)) = c ∧ tagF c = some c) := by
  by_cases hf : ∀ b ∈ t, fine b = true
  · have e := formL_N (pieces_of_fine t hf)
    rw [e]
    have h1 := tagF_form hf ht
    refine ⟨fun h2 => ?_, fun c h2 => ?_⟩
    · rw [h1]
      unfold tagF at h2
      split at h2
      · cases h2
      · rename_i h3
        rw [if_neg (fun hv => h3 ⟨ht, hv⟩)]
        simp
    · unfold tagF at h2
      split at h2
      · rename_i h3
        have h4 := Option.some.inj h2
        refine ⟨h4, ?_⟩
        rw [← h4, h1, if_pos h3.2]
      · cases h2
  · have : ∃ b ∈ t, fine b = false := by
      apply Classical.byContradiction
      intro hn
      exact hf (fun b hb => by
        cases hq : fine b with
        | true => rfl
        | false => exact absurd ⟨b, hb, hq⟩ hn)
    obtain ⟨b, hb, h⟩ := this
    have hs : isSep b = false := by
      cases hq : isSep b with
      | false => rfl
      | true => simp [fine, hq] at h
    obtain ⟨p, hp, h2⟩ := mem_pieces t b hb hs
    obtain ⟨first, h3⟩ := formL_mem hp
    obtain ⟨x, hx, h4⟩ := pfL_bad first h2 h
    have h5 := tagF_bad (mem_join h3 hx) h4
    refine ⟨fun _ => by rw [h5]; simp, fun c hc => ?_⟩
    rw [tagF_bad hb h] at hc
    cases hc
end Go.Proofs.YtlnejmmhhmmomaaGreatDoor
namespace Go.Proofs.YtlnejmmhhmmomaaGreatDoor
open Go.RowKit Go.Shelf Go.Lib
set_option maxRecDepth 10000 in
set_option maxHeartbeats 400000 in
theorem isSmall_any (x : Nat) (w : World) : Calls Tryz.prog 117 #[.int .i32 (x : Int)] w fun e w' => e = .returned (.bool (decide (97 ≤ x) && decide (x ≤ 122))) ∧ w' = w := by
  by_cases a0 : 97 ≤ x
  · by_cases a1 : x ≤ 122
    · have hb : (decide (97 ≤ x) && decide (x ≤ 122)) = true := by simp [a0, a1]
      rw [hb]
      have h0 : (97 : Int) ≤ (x : Int) := by omega
      have h1 : (x : Int) ≤ 122 := by omega
      clear hb
      go_enter Tryz.func117, Tryz.ntmps117
      go_wp2
      go_ret
      exact ⟨rfl, rfl⟩
    · have hb : (decide (97 ≤ x) && decide (x ≤ 122)) = false := by simp [a1]
      rw [hb]
      have h0 : (97 : Int) ≤ (x : Int) := by omega
      have h1 : ¬ (x : Int) ≤ 122 := by omega
      have h2 : decide ((x : Int) ≤ 122) = false := by simpa using h1
      clear hb
      go_enter Tryz.func117, Tryz.ntmps117
      go_wp2
      go_ret
      exact ⟨rfl, rfl⟩
  · have hb : (decide (97 ≤ x) && decide (x ≤ 122)) = false := by simp [a0]
    rw [hb]
    have h0 : ¬ (97 : Int) ≤ (x : Int) := by omega
    clear hb
    go_enter Tryz.func117, Tryz.ntmps117
    go_wp2
    go_ret
    exact ⟨rfl, rfl⟩
set_option maxRecDepth 10000 in
set_option maxHeartbeats 400000 in
theorem isGreat_any (x : Nat) (w : World) : Calls Tryz.prog 118 #[.int .i32 (x : Int)] w fun e w' => e = .returned (.bool (decide (65 ≤ x) && decide (x ≤ 90))) ∧ w' = w := by
  by_cases a0 : 65 ≤ x
  · by_cases a1 : x ≤ 90
    · have hb : (decide (65 ≤ x) && decide (x ≤ 90)) = true := by simp [a0, a1]
      rw [hb]
      have h0 : (65 : Int) ≤ (x : Int) := by omega
      have h1 : (x : Int) ≤ 90 := by omega
      clear hb
      go_enter Tryz.func118, Tryz.ntmps118
      go_wp2
      go_ret
      exact ⟨rfl, rfl⟩
    · have hb : (decide (65 ≤ x) && decide (x ≤ 90)) = false := by simp [a1]
      rw [hb]
      have h0 : (65 : Int) ≤ (x : Int) := by omega
      have h1 : ¬ (x : Int) ≤ 90 := by omega
      have h2 : decide ((x : Int) ≤ 90) = false := by simpa using h1
      clear hb
      go_enter Tryz.func118, Tryz.ntmps118
      go_wp2
      go_ret
      exact ⟨rfl, rfl⟩
  · have hb : (decide (65 ≤ x) && decide (x ≤ 90)) = false := by simp [a0]
    rw [hb]
    have h0 : ¬ (65 : Int) ≤ (x : Int) := by omega
    clear hb
    go_enter Tryz.func118, Tryz.ntmps118
    go_wp2
    go_ret
    exact ⟨rfl, rfl⟩
set_option maxRecDepth 10000 in
set_option maxHeartbeats 400000 in
theorem small1_any (x : Nat) (hx : x ≤ 1114111) (w : World) : Calls Tryz.prog 120 #[.int .i32 (x : Int)] w fun e w' => e = .returned (.int .i32 (fS x)) ∧ w' = w := by
  have HG := hid0 (isGreat_any x w)
  cases hq : (decide (65 ≤ x) && decide (x ≤ 90)) with
  | true =>
    rw [hq] at HG
    simp only [Bool.and_eq_true, decide_eq_true_eq] at hq
    have hv : fS x = (x : Int) + 32 := by unfold fS; rw [if_pos (by omega)]
    have h1 : IntKind.i32.wrap ((x : Int) - 65) = (x : Int) - 65 := by simp [IntKind.wrap, IntKind.bits, IntKind.signed]; omega
    have h2 : IntKind.i32.wrap ((x : Int) - 65 + 97) = fS x := by rw [hv]; simp [IntKind.wrap, IntKind.bits, IntKind.signed]; omega
    generalize fS x = y at *
    clear hv hq
    go_enter Tryz.func120, Tryz.ntmps120
    go_wp2_with (go_at_call 118; refine HG.out.mono ?_; rintro e w1 ⟨rfl, rfl⟩)
    go_ret
    exact ⟨rfl, rfl⟩
  | false =>
    rw [hq] at HG
    have hv : fS x = (x : Int) := by
      unfold fS
      rw [if_neg]
      intro h
      simp at hq
      omega
    rw [hv]
    clear hv hq
    go_enter Tryz.func120, Tryz.ntmps120
    go_wp2_with (go_at_call 118; refine HG.out.mono ?_; rintro e w1 ⟨rfl, rfl⟩)
    go_ret
    exact ⟨rfl, rfl⟩
set_option maxRecDepth 10000 in
set_option maxHeartbeats 400000 in
theorem letters1_any (x : Nat) (w : World) : Calls Tryz.prog 116 #[.int .i32 (x : Int)] w fun e w' => e = .returned (.bool (notL x)) ∧ w' = w := by
  have HS := hid0 (isSmall_any x w)
  have HG := hid0 (isGreat_any x w)
  unfold notL
  cases hq1 : (decide (97 ≤ x) && decide (x ≤ 122)) with
  | true =>
    rw [hq1] at HS
    clear hq1
    go_enter Tryz.func116, Tryz.ntmps116
    go_wp2_with (first | (go_at_call 117; refine HS.out.mono ?_; rintro e w1 ⟨rfl, rfl⟩) | fail)
    go_ret
    exact ⟨rfl, rfl⟩
  | false =>
    rw [hq1] at HS
    clear hq1
    cases hq2 : (decide (65 ≤ x) && decide (x ≤ 90)) with
    | true =>
      rw [hq2] at HG
      clear hq2
      go_enter Tryz.func116, Tryz.ntmps116
      go_wp2_with (first
        | (go_at_call 117; refine HS.out.mono ?_; rintro e w1 ⟨rfl, rfl⟩)
        | (go_at_call 118; refine HG.out.mono ?_; rintro e w1 ⟨rfl, rfl⟩))
      go_ret
      exact ⟨rfl, rfl⟩
    | false =>
      rw [hq2] at HG
      clear hq2
      go_enter Tryz.func116, Tryz.ntmps116
      go_wp2_with (first
        | (go_at_call 117; refine HS.out.mono ?_; rintro e w1 ⟨rfl, rfl⟩)
        | (go_at_call 118; refine HG.out.mono ?_; rintro e w1 ⟨rfl, rfl⟩))
      go_ret
      exact ⟨rfl, rfl⟩
theorem contains_any (s : ByteArray) (w : World) : Calls Tryz.prog 115 #[.string s, .func (.func 116) #[] #[]] w fun e w' => e = .returned (.bool !(s.data.toList.all isL)) ∧ Below w.heap.size w w' := by
  have h := Any.strings_ContainsFunc Tryz.laysGw17 116 #[] (enters_of Tryz.func116 (by kernel_rfl) rfl) notL s w (fun W x _ => (letters1_any x W).mono (fun e w' h => ⟨h.1, 0, h.2⟩))
  rw [contains_letters] at h
  exact h
set_option maxRecDepth 10000 in
set_option maxHeartbeats 400000 in
theorem isLetters_any (s : ByteArray) (w : World) : Calls Tryz.prog 88 #[.string s] w fun e w' => e = .returned (.bool (s.data.toList.all isL)) ∧ Below w.heap.size w w' := by
  have HC := hid0 (contains_any s w)
  generalize s.data.toList.all isL = q at *
  go_enter Tryz.func88, Tryz.ntmps88
  go_wp2_with (go_at_call 115; refine HC.out.mono ?_; rintro e w1 ⟨rfl, hb⟩)
  go_ret
  exact ⟨by simp, hb⟩
/-- The tables of unicode/utf8. -/
def Tb (w : World) : Prop := Lib.Utf8Tabs 12 13 w
theorem Tb.below {w w' : World} (h : Tb w) (hb : Below w.heap.size w w') : Tb w' :=
  ⟨fun c hc => (hb.cell (World.block_lt_of_cell? _ _ (h.1 c hc))).trans (h.1 c hc), fun i hi => ⟨(hb.cell (World.block_lt_of_cell? _ _ (h.2 i hi).1)).trans (h.2 i hi).1, (hb.cell (World.block_lt_of_cell? _ _ (h.2 i hi).2)).trans (h.2 i hi).2⟩⟩
theorem map_any (s : ByteArray) (hs : s.size ≤ 1000000) (w : World) (hT : Tb w) : Calls Tryz.prog 119 #[.func (.func 120) #[] #[], .string s] w fun e w' => e = .returned (.string ⟨(smL s.data.toList).toArray⟩) ∧ Below w.heap.size w w' :=
  Any.strings_Map_runes Tryz.lays230 ext230 120 #[] (enters_of Tryz.func120 (by kernel_rfl) rfl) fS s w (by omega) (fun W x hx _ => (small1_any x hx W).mono (fun e w' h => ⟨h.1, 0, h.2⟩)) fS_range hT
set_option maxRecDepth 10000 in
set_option maxHeartbeats 400000 in
theorem small_any (p : List UInt8) (hp : p.length ≤ 1000000) (w : World) (hT : Tb w) : Calls Tryz.prog 89 #[.string (strOf p)] w fun e w' => e = .returned (.string (strOf (smL p))) ∧ Below w.heap.size w w' := by
  have h := map_any (strOf p) (by rw [strOf_size]; exact hp) w hT
  rw [strOf_data] at h
  have HC : Hid (Calls Tryz.prog 119 #[.func (.func 120) #[] #[], .string (strOf p)] w fun e w' => e = .returned (.string (strOf (smL p))) ∧ Below w.heap.size w w') := hid0 h
  clear h hT
  generalize strOf (smL p) = Y at *
  generalize strOf p = S at *
  go_enter Tryz.func89, Tryz.ntmps89
  go_wp2_with (go_at_call 119; refine HC.out.mono ?_; rintro e w1 ⟨rfl, hb⟩)
  go_ret
  exact ⟨rfl, hb⟩
end Go.Proofs.YtlnejmmhhmmomaaGreatDoor
namespace Go.Proofs.YtlnejmmhhmmomaaGreatDoor
open Go.RowKit Go.Shelf Go.Lib
theorem L_ascii {p : List UInt8} (h : p.all isL = true) : ∀ b ∈ p, b.toNat < 128 := fun b hb => fine_ascii b (by simp [fine, isN, List.all_eq_true.1 h b hb])
set_option maxRecDepth 10000 in
set_option maxHeartbeats 1600000 in
theorem partFormL_any (p : List UInt8) (first : Bool) (hp : p.length ≤ 64) (w : World) (hT : Tb w) : Calls Tryz.prog 62 #[.string (strOf p), .bool first] w fun e w' => e = .returned (.string (strOf (pfL first p))) ∧ Below w.heap.size w w' := by
  have HQ : Hid (Calls Tryz.prog 88 #[.string (strOf p)] w fun e w' => e = .returned (.bool (p.all isL)) ∧ Below w.heap.size w w') := hid0 (by have h := isLetters_any (strOf p) w; rw [strOf_data] at h; exact h)
  obtain ⟨lo, hlo⟩ : ∃ lo, lo = strOf (smL p) := ⟨_, rfl⟩
  have HS : Hid (∀ W, Below w.heap.size w W → Calls Tryz.prog 89 #[.string (strOf p)] W fun e w' => e = .returned (.string lo) ∧ Below w.heap.size w w') := hid0 (fun W hW => by rw [hlo]; exact (small_any p (by omega) W (hT.below hW)).mono (fun e w' h => ⟨h.1, Below.later hW h.2⟩))
  obtain ⟨Y, hY⟩ : ∃ Y, Y = strOf (pfL first p) := ⟨_, rfl⟩
  rw [← hY]
  have HY := hid0 hY
  have HLO := hid0 hlo
  have hsz : (strOf p).size = p.length := strOf_size p
  clear hY hlo
  cases first with
  | true =>
    have HV : Hid (Y = lo) := hid0 (by rw [HY.out, HLO.out]; rfl)
    generalize p.all isL = q at *
    generalize strOf p = S at *
    clear hT
    go_enter Tryz.func62, Tryz.ntmps62
    go_wp2_with (first
      | (go_at_call 88; refine HQ.out.mono ?_; rintro e w1 ⟨rfl, hb1⟩; have HB1 := hid0 hb1; clear hb1)
      | (go_at_call 89; refine (HS.out _ HB1.out).mono ?_; rintro e w2 ⟨rfl, hb2⟩))
    go_ret
    exact ⟨by rw [HV.out]; rfl, hb2⟩
  | false =>
    cases hq : p.all isL with
    | false =>
      rw [hq] at HQ
      have HV : Hid (Y = lo) := hid0 (by rw [HY.out, HLO.out, pfL, if_neg (by simp), if_neg (fun h => by rw [hq] at h; cases h.1), if_neg (fun h => by rw [hq] at h; cases h.1)])
      generalize strOf p = S at *
      clear hT hq
      go_enter Tryz.func62, Tryz.ntmps62
      go_wp2_with (first
        | (go_at_call 88; refine HQ.out.mono ?_; rintro e w1 ⟨rfl, hb1⟩; have HB1 := hid0 hb1; clear hb1)
        | (go_at_call 89; refine (HS.out _ HB1.out).mono ?_; rintro e w2 ⟨rfl, hb2⟩))
      go_ret
      exact ⟨by rw [HV.out]; rfl, hb2⟩
    | true =>
      rw [hq] at HQ
      by_cases h2 : (p.length : Int) = 2
      · have hb2' : ((p.length : Int) == 2) = true := by simpa using h2
        have HU : Hid (∀ W, Calls Tryz.prog 90 #[.string (strOf p)] W fun e w' => e = .returned (.string Y) ∧ Below W.heap.size W w') := hid0 (fun W => by
          have h := upper_any (strOf p) (by omega) (by rw [strOf_data]; exact L_ascii hq) W
          rw [strOf_data] at h
          rw [HY.out, pfL, if_neg (by simp), if_pos ⟨hq, by omega⟩]
          exact h)
        generalize strOf p = S at *
        clear hT hq
        go_enter Tryz.func62, Tryz.ntmps62
        go_wp2_with (first
          | (go_at_call 88; refine HQ.out.mono ?_; rintro e w1 ⟨rfl, hb1⟩; have HB1 := hid0 hb1; clear hb1)
          | (go_at_call 90; refine (HU.out _).mono ?_; rintro e w2 ⟨rfl, hb2⟩))
        go_ret
        exact ⟨rfl, Below.later HB1.out hb2⟩
      · have hb2' : ((p.length : Int) == 2) = false := by simpa using h2
        by_cases h4 : (p.length : Int) = 4
        · have hb4' : ((p.length : Int) == 4) = true := by simpa using h4
          obtain ⟨B1, hB1⟩ : ∃ B1, B1 = strOf ((p.take 1).map upperB) := ⟨_, rfl⟩
          obtain ⟨B2, hB2⟩ : ∃ B2, B2 = strOf ((p.drop 1).map lowerB) := ⟨_, rfl⟩
          have e1 : (strOf p).extract 0 1 = strOf (p.take 1) := by rw [← strOf_self ((strOf p).extract 0 1), ext_head, strOf_data]
          have e2 : (strOf p).extract 1 p.length = strOf (p.drop 1) := by
            rw [← strOf_self ((strOf p).extract 1 p.length)]
            have := ext_tail (strOf p) 1
            rw [strOf_size, strOf_data] at this
            rw [this]
          have HE : Hid (B1 ++ B2 = Y) := hid0 (by rw [hB1, hB2, strOf_app, HY.out, pfL, if_neg (by simp), if_neg (fun h => by omega), if_pos ⟨hq, by omega⟩])
          have hz1 : ¬ 9223372036854775807 < B1.size + B2.size := by
            have g1 : B1.size ≤ 1 := by rw [hB1, strOf_size, List.length_map, List.length_take]; omega
            have g2 : B2.size ≤ p.length := by rw [hB2, strOf_size, List.length_map, List.length_drop]; omega
            omega
          have HW : Hid (∀ w1, Below w.heap.size w w1 → ∀ W, Below w1.heap.size w1 W → (Calls Tryz.prog 90 #[.string ((strOf p).extract 0 1)] W fun e w' => e = .returned (.string B1) ∧ Below w1.heap.size w1 w') ∧ (Calls Tryz.prog 89 #[.string ((strOf p).extract 1 p.length)] W fun e w' => e = .returned (.string B2) ∧ Below w1.heap.size w1 w')) := hid0 (fun w1 h1 W hW => by
            refine ⟨?_, ?_⟩
            · rw [e1, hB1]
              have h := upper_any (strOf (p.take 1)) (by rw [strOf_size, List.length_take]; omega) (by rw [strOf_data]; exact fun b hb => L_ascii hq b (List.mem_of_mem_take hb)) W
              rw [strOf_data] at h
              exact h.mono (fun e w' h => ⟨h.1, Below.later hW h.2⟩)
            · rw [e2, hB2, ← smL_ascii (p.drop 1) (fun b hb => L_ascii hq b (List.mem_of_mem_drop hb))]
              exact (small_any (p.drop 1) (by rw [List.length_drop]; omega) W (hT.below (Below.later h1 hW))).mono (fun e w' h => ⟨h.1, Below.later hW h.2⟩))
          have hg1 : (1 : Int) ≤ (p.length : Int) := by omega
          clear hT hq hB1 hB2 e1 e2 HS h2 h4
          generalize strOf p = S at *
          generalize p.length = n at *
          go_enter Tryz.func62, Tryz.ntmps62
          go_wp2_with (first | (go_at_call 88; refine HQ.out.mono ?_; rintro e w1 ⟨rfl, hb1⟩; have HB1 := hid0 hb1; clear hb1) | fail)
          have hBr := Below.refl w1.heap.size w1
          have HW1 := hid0 (HW.out w1 HB1.out)
          go_region_held3 (fun W => Below w1.heap.size w1 W) (first | assumption | go_grown)
            (first
              | (go_at_call 90; refine (HW1.out _ (by assumption)).1.mono ?_; rintro e w2 ⟨rfl, hb2⟩)
              | (go_at_call 89; refine (HW1.out _ (by assumption)).2.mono ?_; rintro e w2 ⟨rfl, hb2⟩))
          all_goals
            go_wp2
            go_ret
            exact ⟨by rw [← HE.out]; rfl, Below.later HB1.out (by assumption)⟩
        · have hb4' : ((p.length : Int) == 4) = false := by simpa using h4
          have HV : Hid (Y = lo) := hid0 (by rw [HY.out, HLO.out, pfL, if_neg (by simp), if_neg (fun h => by omega), if_neg (fun h => by omega)])
          generalize strOf p = S at *
          clear hT hq
          go_enter Tryz.func62, Tryz.ntmps62
          go_wp2_with (first
            | (go_at_call 88; refine HQ.out.mono ?_; rintro e w1 ⟨rfl, hb1⟩; have HB1 := hid0 hb1; clear hb1)
            | (go_at_call 89; refine (HS.out _ HB1.out).mono ?_; rintro e w2 ⟨rfl, hb2⟩))
          go_ret
          exact ⟨by rw [HV.out]; rfl, hb2⟩
end Go.Proofs.YtlnejmmhhmmomaaGreatDoor
namespace Go.Proofs.YtlnejmmhhmmomaaGreatDoor
open Go.RowKit Go.Shelf
theorem bldSize : (Tryz.prog.info? 97).map (·.size) = some 2 := by kernel_rfl
theorem bldLies : liesAt Tryz.prog Tryz.prog.depth 97 (2 / Tryz.prog.cellsOf 97) 0 97 1 = true := by kernel_rfl
theorem infoByte : (Tryz.prog.info? 5).map (fun i => (i.zero, i.size, i.bytes)) = some (some (.int .u8 0), 1, 1) := by kernel_rfl
set_option maxRecDepth 100000 in
set_option maxHeartbeats 800000 in
theorem ccUsed (b : Nat) (w : World) (h0 : w.cell? ⟨b, 0, none⟩ = some (.pointer (some ⟨b, 0, none⟩))) :
    Calls Tryz.prog 87 #[.pointer (some ⟨b, 0, none⟩)] w fun e w' => e = .returned (.tuple #[]) ∧ w' = w := by
  obtain ⟨j, hj, _⟩ := Option.map_eq_some_iff.1 bldSize
  go_enter Tryz.func87, Tryz.ntmps87
  go_wp2
  rw [Lib.run_neq_ptr_same w _ Tryz.underlying94 hj]
  go_wp2
  go_end0
  exact ⟨rfl, rfl⟩
set_option maxRecDepth 100000 in
set_option maxHeartbeats 800000 in
theorem ccNew (b : Nat) (w : World) (h0 : w.cell? ⟨b, 0, none⟩ = some (.pointer none)) (hsh : w.shape? b = some (97, 2)) (hfz : w.frozen? ⟨b, 0, none⟩ = false) :
    Calls Tryz.prog 87 #[.pointer (some ⟨b, 0, none⟩)] w fun e w' => e = .returned (.tuple #[]) ∧ w' = w.setCell ⟨b, 0, none⟩ (.pointer (some ⟨b, 0, none⟩)) := by
  obtain ⟨j, hj, hjs⟩ := Option.map_eq_some_iff.1 bldSize
  go_enter Tryz.func87, Tryz.ntmps87
  go_wp2
  rw [Lib.run_to_unsafe w ⟨b, 0, none⟩ Tryz.underlying94 Tryz.underlying144 hj (by rw [hjs]; decide) hsh (Nat.zero_lt_succ 1)]
  simp only [Result.andThen]
  rw [Oper.upon_value]
  go_wp2
  rw [run_callFunc_extern Tryz.func114 (by kernel_rfl) (by kernel_rfl) (by kernel_rfl) (e := Extern.AbiNoEscape.same) (by kernel_rfl)]
  rw [Lib.run_noEscape]
  simp only [Result.andThen]
  rw [Oper.upon_value]
  go_wp2
  rw [Lib.run_from_unsafe w ⟨b, 0, none⟩ Tryz.underlying144 Tryz.underlying94 hj hsh bldLies]
  simp only [Result.andThen]
  rw [Oper.upon_value]
  go_wp2
  go_end0
  exact ⟨rfl, rfl⟩
/-- A builder in memory, used or not. -/
abbrev Bl (B b : Nat) (bs : List Value) (w : World) : Prop := Lib.IsBuilder 97 5 B b bs w
abbrev Bu (B b : Nat) (bs : List Value) (w : World) : Prop := Lib.BuilderAt 97 5 B b (.pointer (some ⟨b, 0, none⟩)) bs w
/-- A write keeps what is no row of bytes. -/
def Kb (b : Nat) (w w' : World) : Prop := ∀ (i : Nat) (c : Array Value) (t : TypeId) (z : Nat × Nat), w.heap[i]? = some (Obj.cells c t z) → ¬ t = 5 → ¬ i = b → w'.heap[i]? = some (Obj.cells c t z)
theorem cc_any (B b : Nat) (bs : List Value) (w : World) (h : Bl B b bs w) : Calls Tryz.prog 87 #[.pointer (some ⟨b, 0, none⟩)] w fun e w' => e = .returned (.tuple #[]) ∧ Bu B b bs w' ∧ Below B w w' ∧ Kb b w w' := by
  rcases h with h | h
  · exact (ccNew b w h.cell0 h.shape h.frozen0).mono fun e w' ⟨h1, h2⟩ => ⟨h1, h2 ▸ h.used _, h2 ▸ (Below.refl B w).setCell (p := ⟨b, 0, none⟩) h.1 _, h2 ▸ fun i c t z hi _ hn => (Below.heap_setCell w ⟨b, 0, none⟩ _ i hn).trans hi⟩
  · exact (ccUsed b w h.cell0).mono fun e w' ⟨h1, h2⟩ => ⟨h1, h2 ▸ h, h2 ▸ Below.refl B _, h2 ▸ fun i c t z hi _ _ => hi⟩
/-- What a write leaves. -/
theorem bu_grown {B b : Nat} {bs bs' : List Value} {w w1 w2 : World} {v v' : Value} {o : Option Obj} (hB : B ≤ b) (hbk : w1.heap[b]? = some (.cells #[.pointer (some ⟨b, 0, none⟩), v] 97 (0, 0))) (hown : w1.ownsRow B 5 1 v bs.length bs) (hne : v.ownBlock ≠ some b) (hb1 : Below B w w1) (_hBw : B ≤ w.heap.size) (hk1 : Kb b w w1)
    (hgrow : ((match o with | some x => w1.alloc x | none => w1)).grownBy w2 v.ownBlock) (hown' : w2.ownsRow B 5 1 v' bs'.length bs') :
    w2.heap[b]? = some (.cells #[.pointer (some ⟨b, 0, none⟩), v] 97 (0, 0)) ∧ Bu B b bs' (w2.setCell ⟨b, 1, none⟩ v') ∧ Below B w (w2.setCell ⟨b, 1, none⟩ v') ∧ Kb b w (w2.setCell ⟨b, 1, none⟩ v') := by
  have hlt := (Array.getElem?_eq_some_iff.1 hbk).1
  have hb2 : w2.heap[b]? = some (.cells #[.pointer (some ⟨b, 0, none⟩), v] 97 (0, 0)) := by
    cases o with
    | none => exact (hgrow.block b hlt (fun e => hne e.symm)).trans hbk
    | some x => exact (hgrow.block b (by simp; omega) (fun e => hne e.symm)).trans ((Below.heap_alloc w1 x b hlt).trans hbk)
  have hs := hb1.size
  have hrow : ∀ i c t z, w1.heap[i]? = some (.cells c t z) → ¬ t = 5 → some i ≠ v.ownBlock := fun i c t z hi ht e => by
    rcases hown.2 with ⟨rfl, _⟩ | ⟨g, cap, cur, rfl, _, hg, _⟩
    · simp [Value.ownBlock] at e
    · simp only [Value.ownBlock, Option.some.injEq] at e
      subst e
      rw [hi] at hg
      simp only [Option.some.injEq, Obj.cells.injEq] at hg
      exact ht hg.2.1
  refine ⟨hb2, Lib.BuilderAt.put hB hb2 hown' (by decide), ?_, fun i c t z hi ht hn => ?_⟩
  rotate_left
  · have h1 := hk1 i c t z hi ht hn
    have hl := (Array.getElem?_eq_some_iff.1 h1).1
    rw [Below.heap_setCell w2 ⟨b, 1, none⟩ v' i hn]
    cases o with
    | none => exact (hgrow.block i hl (hrow i c t z h1 ht)).trans h1
    | some x => exact (hgrow.block i (by simp; omega) (hrow i c t z h1 ht)).trans ((Below.heap_alloc w1 x i hl).trans h1)
  cases o with
  | none => exact (hb1.grown hgrow (by omega) (fun k hk => (World.ownsRow.lt hown k hk).1)).setCell (p := ⟨b, 1, none⟩) hB _
  | some x => exact ((hb1.alloc (by omega) x).grown hgrow (by simp; omega) (fun k hk => (World.ownsRow.lt hown k hk).1)).setCell (p := ⟨b, 1, none⟩) hB _
theorem row_form {w : World} {B n : Nat} {v : Value} {xs : List Value} (h : w.ownsRow B 5 1 v n xs) : ∃ a c, v = .slice a n c := by
  rcases h.2 with ⟨rfl, hn⟩ | ⟨g, c, cur, rfl, _⟩
  · exact ⟨none, 0, by rw [hn]⟩
  · exact ⟨_, c, rfl⟩
set_option maxRecDepth 10000 in
set_option maxHeartbeats 800000 in
theorem writeByte_any (B b : Nat) (bs : List Value) (c : Int) (w : World) (h : Bl B b bs w) (hlen : bs.length + 1 ≤ 140737488355328) (hBw : B ≤ w.heap.size) :
    Calls Tryz.prog 60 #[.pointer (some ⟨b, 0, none⟩), .int .u8 c] w fun e w' => e = .returned .nilIface ∧ Bu B b (bs ++ [.int .u8 c]) w' ∧ Below B w w' ∧ Kb b w w' := by
  obtain ⟨i0, hi, hz0, hz1, hz2⟩ := info_parts infoByte
  have HC := hid0 (cc_any B b bs w h)
  clear h
  go_enter Tryz.func60, Tryz.ntmps60
  go_wp2_with (first
    | (go_at_call 87; refine HC.out.mono ?_; rintro e w1 ⟨rfl, ⟨hB, v, hbk, hown, hne⟩, hb1, hk1⟩; have HK1 := hid0 hk1; have c1 : w1.cell? ⟨b, 1, none⟩ = some v := (by rw [cell_of_row _ _ _ _ _ _ hbk]; rfl); have HK := hid0 hbk; have HO := hid0 hown; have HNe := hid0 hne; have HB1 := hid0 hb1; have hs1 := hb1.size; clear hbk hown hne hb1 hk1)
    | (at_builtin; refine wpList_append_own _ rfl _ _ 95 rfl B 5 i0 (.int .u8 0) 1 1 Tryz.underlying95 hi hz0 hz1 hz2 rfl (by decide) v bs.length bs rfl (HO.out.alloc _) ⟨w1.heap.size, 0, none⟩ 1 1 [.int .u8 c] rfl rfl (cell_one_new _ _ _) (by simp [Value.oneCell']) (by unfold maxLen; omega) (by omega) (by simp; omega) ?_; intro v' w2 hown' hgrow _; obtain ⟨a', c', rfl⟩ := row_form hown'; obtain ⟨r1, r2, r3, r4⟩ := bu_grown (bs' := bs ++ [.int .u8 c]) (o := some (.cells #[.int .u8 c] 5)) hB HK.out HO.out HNe.out HB1.out hBw HK1.out hgrow (by simpa using hown'); have d1 : w2.cell? ⟨b, 1, none⟩ = some v := (by rw [cell_of_row _ _ _ _ _ _ r1]; rfl); have f1 : w2.frozen? ⟨b, 1, none⟩ = false := frozen_of_row _ _ _ _ _ r1; have HR := hid0 (And.intro r2 (And.intro r3 r4)); clear hown' hgrow r1 r2 r3 r4)
    | fail)
  go_ret
  exact ⟨rfl, HR.out⟩
set_option maxRecDepth 10000 in
set_option maxHeartbeats 800000 in
theorem writeString_any (B b : Nat) (bs : List Value) (s : ByteArray) (w : World) (h : Bl B b bs w) (hlen : bs.length + s.size ≤ 140737488355328) (hBw : B ≤ w.heap.size) :
    Calls Tryz.prog 61 #[.pointer (some ⟨b, 0, none⟩), .string s] w fun e w' => e = .returned (.tuple #[.int .i64 s.size, .nilIface]) ∧ Bu B b (bs ++ Lib.strCells s) w' ∧ Below B w w' ∧ Kb b w w' := by
  obtain ⟨i0, hi, hz0, hz1, hz2⟩ := info_parts infoByte
  have HC := hid0 (cc_any B b bs w h)
  have hsl : (Lib.strCells s).length = s.size := by simp [Lib.strCells]
  have HSl := hid0 hsl
  clear h hsl
  go_enter Tryz.func61, Tryz.ntmps61
  go_wp2_with (first
    | (go_at_call 87; refine HC.out.mono ?_; rintro e w1 ⟨rfl, ⟨hB, v, hbk, hown, hne⟩, hb1, hk1⟩; have HK1 := hid0 hk1; have c1 : w1.cell? ⟨b, 1, none⟩ = some v := (by rw [cell_of_row _ _ _ _ _ _ hbk]; rfl); have HK := hid0 hbk; have HO := hid0 hown; have HNe := hid0 hne; have HB1 := hid0 hb1; have hs1 := hb1.size; clear hbk hown hne hb1 hk1)
    | (at_builtin; refine Go.Lib.wpList_append_own_string _ rfl _ _ 95 9 rfl B 5 i0 Tryz.underlying95 Tryz.underlying9 hi hz0 hz1 hz2 v bs.length bs rfl HO.out s rfl (by unfold maxLen; omega) (by omega) (by omega) ?_; intro v' w2 hown' hgrow _; obtain ⟨a', c', rfl⟩ := row_form hown'; obtain ⟨r1, r2, r3, r4⟩ := bu_grown (bs' := bs ++ Lib.strCells s) (o := none) hB HK.out HO.out HNe.out HB1.out hBw HK1.out hgrow (by rw [List.length_append, HSl.out]; exact hown'); have d1 : w2.cell? ⟨b, 1, none⟩ = some v := (by rw [cell_of_row _ _ _ _ _ _ r1]; rfl); have f1 : w2.frozen? ⟨b, 1, none⟩ = false := frozen_of_row _ _ _ _ _ r1; have HR := hid0 (And.intro r2 (And.intro r3 r4)); clear hown' hgrow r1 r2 r3 r4)
    | fail)
  go_ret2
  exact ⟨rfl, HR.out⟩
end Go.Proofs.YtlnejmmhhmmomaaGreatDoor
namespace Go.Proofs.YtlnejmmhhmmomaaGreatDoor
open Go.RowKit Go.Shelf Go.Lib
theorem ext169 : Builder.Extra Tryz.prog Tryz.lays169_ren where
  sizeBuilder := by kernel_rfl
  liesBuilder := by kernel_rfl
  t5 := Tryz.underlying5
  a5 := Tryz.isAgg5
  z5 := Tryz.sizeOf5
  v5 := Tryz.zeroValue5
  infoByte := by kernel_rfl
  cellsByte := by kernel_rfl
  sizeByte := by kernel_rfl
  neB5 := by decide
theorem bl_later {B b : Nat} {bs : List Value} {w w' : World} (h : Bl B b bs w) (hb : Below w.heap.size w w') : Bl B b bs w' := by
  have bld : ∀ p, Lib.BuilderAt 97 5 B b p bs w → Lib.BuilderAt 97 5 B b p bs w' := fun p ⟨h1, v, h2, h3, h4⟩ => ⟨h1, v, (hb.block b (Array.getElem?_eq_some_iff.1 h2).1).trans h2, World.ownsRow.kept h3 (row := none) ⟨hb.os, hb.tape, hb.output, hb.size, fun k hk _ => hb.block k hk⟩ (by cases hv : v.ownBlock <;> simp), h4⟩
  exact h.elim (fun x => .inl (bld _ x)) (fun x => .inr (bld _ x))
theorem formL_take (l : List (List UInt8)) (k : Nat) (h : k < l.length) : formL (l.take (k + 1)) = formL (l.take k) ++ [pfL (decide (k = 0)) l[k]] := by
  cases l with
  | nil => simp at h
  | cons p r =>
    cases k with
    | zero => simp [formL]
    | succ k =>
      have h' : k < r.length := by simpa using h
      rw [List.take_succ_cons, List.take_succ_cons]
      simp only [formL, List.cons_append]
      rw [List.take_add_one, List.getElem?_eq_getElem h', List.map_append]
      rfl
theorem formL_ne (l : List (List UInt8)) (k : Nat) (h : 0 < k) (hl : k < l.length) : formL (l.take k) ≠ [] := by
  cases l with
  | nil => simp at hl
  | cons p r =>
    obtain ⟨j, rfl⟩ : ∃ j, k = j + 1 := ⟨k - 1, by omega⟩
    simp [formL]
theorem pfL_len (first : Bool) (p : List UInt8) : (pfL first p).length ≤ 4 * p.length := by
  have h := smL_len p.length p (Nat.le_refl _)
  unfold pfL
  split
  · exact h
  · split
    · rw [List.length_map]; omega
    · split
      · rw [List.length_append, List.length_map, List.length_map, List.length_take, List.length_drop]; omega
      · exact h
theorem joinU_bound (m : Nat) : ∀ (xs : List (List UInt8)), (∀ x ∈ xs, x.length ≤ m) → (joinU xs).length ≤ (m + 1) * xs.length
  | [], _ => by simp [joinU, Lib.join, List.intercalate]
  | [x], h => by rw [joinU_one]; have := h x (by simp); simp; omega
  | x :: x2 :: r, h => by
    have ih := joinU_bound m (x2 :: r) (fun y hy => h y (by simp [hy]))
    have h1 := h x (by simp)
    rw [joinU_cons, List.length_append, List.length_cons]
    simp only [List.length_cons] at ih ⊢
    have e : (m + 1) * (r.length + 1 + 1) = (m + 1) * (r.length + 1) + (m + 1) := by rw [Nat.mul_add (m + 1) (r.length + 1) 1, Nat.mul_one]
    omega
theorem formL_len (l : List (List UInt8)) : (formL l).length = l.length := by cases l <;> simp [formL]
theorem formL_le {l : List (List UInt8)} {m : Nat} (h : ∀ p ∈ l, p.length ≤ m) : ∀ p ∈ formL l, p.length ≤ 4 * m := by
  cases l with
  | nil => simp [formL]
  | cons q r =>
    intro p hp
    rcases List.mem_cons.1 hp with rfl | hp
    · have h1 := pfL_len true q; have h2 := h q (by simp); omega
    · obtain ⟨c, hc, rfl⟩ := List.mem_map.1 hp
      have h1 := pfL_len false c; have h2 := h c (by simp [hc]); omega
theorem bytes_app (a b : List UInt8) : Lib.byteCells (a ++ b) = Lib.byteCells a ++ Lib.byteCells b := by simp [Lib.byteCells]
theorem strCells_strOf (l : List UInt8) : Lib.strCells (strOf l) = Lib.byteCells l := by simp [Lib.strCells, Lib.byteCells, strOf_data]
set_option maxRecDepth 10000 in
set_option maxHeartbeats 3200000 in
theorem oneFormL_any (s : ByteArray) (hs : s.size ≤ 64) (w : World) (hm : Mx w) (hT : Tb w) : Calls Tryz.prog 43 #[.string s] w fun e w' => e = .returned (.string (strOf (joinU (formL (pieces s.data.toList))))) ∧ Below w.heap.size w w' := by
  have HLE : Hid (s.data.toList.length ≤ 64) := hid0 (by simpa using hs)
  have HM := hid0 hm
  have HT := hid0 hT
  obtain ⟨R, hR⟩ : ∃ R, R = strOf (s.data.toList.map rep) := ⟨_, rfl⟩
  have HRE : Hid (Calls Tryz.prog 59 #[.string s, .string ⟨#[45]⟩, .string ⟨#[95]⟩] w fun e w' => e = .returned (.string R) ∧ Below w.heap.size w w') := hid0 (by rw [hR]; exact repl_any s (by omega) w hm)
  obtain ⟨n, hn⟩ : ∃ n, n = (pieces s.data.toList).length := ⟨_, rfl⟩
  have hn65 : n ≤ 65 := by have h1 := pieces_count s.data.toList; have h2 := HLE.out; omega
  have HSL : Hid (∀ W, Mx W → Calls Tryz.prog 58 #[.string R, .string ⟨#[95]⟩] W fun e w' => e = .returned (.slice (some ⟨W.heap.size, 0, none⟩) n n) ∧ w' = W.alloc (.cells (cellsS ((pieces s.data.toList).map strOf)).toArray 9)) := hid0 (fun W hW => by rw [hR, hn]; exact split_any s.data.toList (by have := HLE.out; omega) W hW)
  have HSW : Hid (∀ W w', w' = W.alloc (.cells (cellsS ((pieces s.data.toList).map strOf)).toArray 9) → Below W.heap.size W w' ∧ SA w' (some ⟨W.heap.size, 0, none⟩) ((pieces s.data.toList).map strOf)) := hid0 (fun W w' hw => by
    rw [hw]
    refine ⟨(Below.refl _ _).alloc (Nat.le_refl _) _, ⟨fun k hk => ⟨W.heap.size, 0, rfl, by simp, ?_⟩⟩⟩
    rw [cell_of_row _ _ _ _ _ _ (heap_alloc_new W _)]
    simp only [List.length_map] at hk
    simp [cellsS, hk])
  have Hn := hid0 hn
  have HPL : Hid (∀ p ∈ pieces s.data.toList, p.length ≤ 64) := hid0 (fun p hp => by have h1 := pieces_len s.data.toList p hp; have h2 := HLE.out; omega)
  obtain ⟨ps, hps⟩ : ∃ ps, ps = pieces s.data.toList := ⟨_, rfl⟩
  rw [← hps] at HSL HSW Hn HPL ⊢
  obtain ⟨Y, hY⟩ : ∃ Y, Y = strOf (joinU (formL ps)) := ⟨_, rfl⟩
  rw [← hY]
  have HY := hid0 hY
  clear hm hT hR hn hps hY
  have M0 : Hid True := trivial
  go_enter Tryz.func43, Tryz.ntmps43
  go_wp2_with (first
    | (go_at_call 59; clear M0; refine HRE.out.mono ?_; rintro e w1 ⟨rfl, hb1⟩; have HB1 := hid0 hb1; have HSP := hid0 (HSL.out w1 (HM.out.below hb1)); have M1 : Hid True := trivial; clear hb1)
    | (go_at_call 58; clear M1; refine HSP.out.mono ?_; rintro e w2 ⟨rfl, hw2⟩; obtain ⟨hb2, hsa2⟩ := HSW.out w1 w2 hw2; have HB2 := hid0 (Below.later HB1.out hb2); have HSA2 := hid0 hsa2; clear hb2 hsa2 hw2))
  have HFB : Hid (Bl w2.heap.size w2.heap.size (Lib.byteCells (joinU (formL (ps.take 0)))) (w2.alloc (.cells #[.pointer none, .slice none 0 0] 97))) := hid0 (by
    have h := Lib.fresh_isBuilder 97 5 w2
    simpa [formL, joinU, Lib.join, List.intercalate, Lib.byteCells] using h)
  have HFL : Hid (Below w2.heap.size w2 (w2.alloc (.cells #[.pointer none, .slice none 0 0] 97))) := hid0 ((Below.refl _ _).alloc (Nat.le_refl _) _)
  go_loopw [12] (fun i wr => ∃ k : Nat, k ≤ n ∧ i = .int .i64 (k : Int) ∧ Hid (Bl w2.heap.size w2.heap.size (Lib.byteCells (joinU (formL (ps.take k)))) wr) ∧ Hid (Below w2.heap.size w2 wr)) (fun i _ => n - (intOf i).toNat)
  case atStart => exact ⟨0, Nat.zero_le _, rfl, HFB, HFL⟩
  case round =>
    clear HFB HFL
    obtain ⟨k, hk, rfl, HBl, HBr⟩ := hrel
    have hbs := HBr.out.size
    have HLN : Hid ((joinU (formL (ps.take k))).length ≤ 257 * 65) := hid0 (by
      have h1 := joinU_bound 256 (formL (ps.take k)) (fun p hp => by have := formL_le (m := 64) (fun q hq => HPL.out q (List.mem_of_mem_take hq)) p hp; omega)
      rw [formL_len, List.length_take] at h1
      have : 257 * min k ps.length ≤ 257 * 65 := Nat.mul_le_mul_left _ (by omega)
      omega)
    by_cases hlt : k < n
    · have hkI : (k : Int) < (n : Int) := by omega
      have hkI0 : (0 : Int) ≤ (k : Int) := by omega
      have hkP : k < ps.length := by rw [← Hn.out]; exact hlt
      obtain ⟨p, hp⟩ : ∃ p, ps[k] = p := ⟨_, rfl⟩
      have hpl : p.length ≤ 64 := by rw [← hp]; exact HPL.out _ (List.getElem_mem hkP)
      obtain ⟨b1, o1, he, hlt1, hc⟩ := (HSA2.out.below HBr.out).at' k (by simpa using hkP)
      cases he
      rw [List.getElem_map, hp, Nat.zero_add] at hc
      have HNX : Hid (formL (ps.take (k + 1)) = formL (ps.take k) ++ [pfL (decide (k = 0)) p]) := hid0 (by rw [formL_take ps k hkP, hp])
      have hpf := pfL_len (decide (k = 0)) p
      have HPF : Hid (∀ W, Below w2.heap.size w2 W → Calls Tryz.prog 62 #[.string (strOf p), .bool (decide (k = 0))] W fun e w' => e = .returned (.string (strOf (pfL (decide (k = 0)) p))) ∧ Below W.heap.size W w') := hid0 (fun W hW => partFormL_any p (decide (k = 0)) hpl W (HT.out.below (Below.later HB2.out hW)))
      have HXZ : Hid ((strOf (pfL (decide (k = 0)) p)).size ≤ 256) := hid0 (by rw [strOf_size]; omega)
      have HXC := hid0 (strCells_strOf (pfL (decide (k = 0)) p))
      have HLB : Hid ((Lib.byteCells (joinU (formL (ps.take k)))).length ≤ 257 * 65) := hid0 (by rw [Lib.byteCells_length]; exact HLN.out)
      by_cases h0 : k = 0
      · subst h0
        have hd : decide (0 = 0) = true := rfl
        have HN2 : Hid (Lib.byteCells (joinU (formL (ps.take 0))) ++ Lib.strCells (strOf (pfL (decide (0 = 0)) p)) = Lib.byteCells (joinU (formL (ps.take (0 + 1))))) := hid0 (by
          rw [HXC.out, HNX.out]
          simp [formL, joinU, Lib.join, List.intercalate, Lib.byteCells])
        rw [hd] at HPF HXZ HN2
        clear hd
        obtain ⟨X, hX⟩ : ∃ X, X = strOf (pfL true p) := ⟨_, rfl⟩
        obtain ⟨bs, hbs'⟩ : ∃ bs, bs = Lib.byteCells (joinU (formL (ps.take 0))) := ⟨_, rfl⟩
        rw [← hX] at HPF HXZ HN2
        rw [← hbs'] at HBl HN2 HLB
        generalize strOf p = S at *
        clear HXC HNX HLN hp hX hbs'
        go_wp2_with (first
          | (go_at_call 62; refine (HPF.out _ HBr.out).mono ?_; rintro e w5 ⟨rfl, hb5⟩; have HB5 := hid0 (Below.later HBr.out hb5); have HBl5 := hid0 (bl_later HBl.out hb5); clear hb5)
          | (go_at_call 61; refine (writeString_any _ _ _ X _ HBl5.out (by have h1 := HLB.out; have h2 := HXZ.out; omega) HB5.out.size).mono ?_; rintro e w6 ⟨rfl, h1, h2, h3⟩; have HB6 := hid0 (HB5.out.trans h2); have HBl6 : Hid (Bl w2.heap.size w2.heap.size (Lib.byteCells (joinU (formL (ps.take (0 + 1))))) w6) := hid0 (.inr (by rw [← HN2.out]; exact h1)); clear h1 h2 h3))
        go_roundw
        case rel => exact ⟨1, by omega, by first | rfl | go_num, HBl6, HB6⟩
        case measure => simp [intOf]; omega
      · have hg : (0 : Int) < (k : Int) := by omega
        have hk0 : ((k : Int) == 0) = false := by simp; omega
        have hd : decide (k = 0) = false := by simpa using h0
        have HN2 : Hid (Lib.byteCells (joinU (formL (ps.take k))) ++ [.int .u8 95] ++ Lib.strCells (strOf (pfL (decide (k = 0)) p)) = Lib.byteCells (joinU (formL (ps.take (k + 1))))) := hid0 (by
          rw [HXC.out, HNX.out, joinU_snoc _ _ (formL_ne ps k (by omega) hkP), bytes_app]
          simp [Lib.byteCells])
        rw [hd] at HPF HXZ HN2
        clear hd
        obtain ⟨X, hX⟩ : ∃ X, X = strOf (pfL false p) := ⟨_, rfl⟩
        obtain ⟨bs, hbs'⟩ : ∃ bs, bs = Lib.byteCells (joinU (formL (ps.take k))) := ⟨_, rfl⟩
        rw [← hX] at HPF HXZ HN2
        rw [← hbs'] at HBl HN2 HLB
        generalize strOf p = S at *
        clear HXC HNX HLN hp hX hbs'
        go_wp2_with (first
          | (go_at_call 60; refine (writeByte_any _ _ _ 95 _ HBl.out (by have h1 := HLB.out; omega) HBr.out.size).mono ?_; rintro e w4 ⟨rfl, h1, h2, h3⟩; have HB4 := hid0 (HBr.out.trans h2); have HBl4 : Hid (Bl w2.heap.size w2.heap.size (bs ++ [.int .u8 95]) w4) := hid0 (.inr h1); clear h1 h2 h3)
          | (go_at_call 62; refine (HPF.out _ HB4.out).mono ?_; rintro e w5 ⟨rfl, hb5⟩; have HB5 := hid0 (Below.later HB4.out hb5); have HBl5 := hid0 (bl_later HBl4.out hb5); clear hb5)
          | (go_at_call 61; refine (writeString_any _ _ _ X _ HBl5.out (by have h1 := HLB.out; have h2 := HXZ.out; rw [List.length_append]; simp; omega) HB5.out.size).mono ?_; rintro e w6 ⟨rfl, h1, h2, h3⟩; have HB6 := hid0 (HB5.out.trans h2); have HBl6 : Hid (Bl w2.heap.size w2.heap.size (Lib.byteCells (joinU (formL (ps.take (k + 1))))) w6) := hid0 (.inr (by rw [← HN2.out]; exact h1)); clear h1 h2 h3))
        go_roundw
        case rel => exact ⟨k + 1, by omega, by go_num, HBl6, HB6⟩
        case measure => simp [intOf]; omega
    · have hkI : ¬ (k : Int) < (n : Int) := by omega
      have HS := hid0 (Any.Builder_String_any_k Tryz.lays169 ext169 w2.heap.size w2.heap.size (joinU (formL (ps.take k))) wr (Lib.IsBuilderF.of HBl.out) HBr.out.size)
      have HE : Hid (joinU (formL (ps.take k)) = joinU (formL ps)) := hid0 (by rw [List.take_of_length_le (by have := Hn.out; omega)])
      rw [HE.out] at HS
      have HS2 : Hid (Calls Tryz.prog 63 #[.pointer (some ⟨w2.heap.size, 0, none⟩)] wr fun e w' => e = .returned (.string Y) ∧ Below w2.heap.size wr w') := hid0 (by rw [HY.out]; exact HS.out.mono (fun e w' h => ⟨h.1, h.2.2.1⟩))
      clear HS HBl
      go_wp2_with (go_at_call 63; refine HS2.out.mono ?_; rintro e w7 ⟨rfl, hb7⟩)
      go_ret
      exact ⟨rfl, Below.later HB2.out (HBr.out.trans hb7)⟩
end Go.Proofs.YtlnejmmhhmmomaaGreatDoor
namespace Go.Proofs.YtlnejmmhhmmomaaGreatDoor
open Go.RowKit Go.Shelf Go.Lib
def canE (A : Nat → Addr) : Option (List UInt8) → Value
  | some c => .tuple #[.string (strOf c), .nilIface]
  | none => .tuple #[.string ⟨#[]⟩, .iface 185 (.pointer (some (A 1)))]
set_option maxRecDepth 10000 in
set_option maxHeartbeats 800000 in
theorem canon_any (A : Nat → Addr) (s : ByteArray) (w : World) (hm : Mx w) (hT : Tb w) (he : Sents w A) : Calls Tryz.prog 29 #[.string s] w fun e w' => e = .returned (canE A (tagF s.data.toList)) ∧ Below w.heap.size w w' := by
  have HTL : Hid (s.data.toList.length = s.size) := hid0 (by simp)
  by_cases h64 : (64 : Int) < (s.size : Int)
  · have hv : tagF s.data.toList = none := by
      unfold tagF
      rw [if_neg]
      rintro ⟨h1, _⟩
      have h4 := HTL.out
      omega
    rw [hv]
    unfold canE
    have x1 := he.c1
    clear hm hT he hv
    go_enter Tryz.func29, Tryz.ntmps29
    go_wp2
    go_quiet ((fail))
    go_wp2
    go_returns
    exact ⟨rfl, ⟨rfl, rfl, rfl, Nat.le_refl _, fun _ _ => rfl⟩⟩
  · have hle : s.data.toList.length ≤ 64 := by rw [HTL.out]; omega
    have hLF := locale_form s.data.toList hle
    obtain ⟨F, hF⟩ : ∃ F, F = strOf (joinU (formL (pieces s.data.toList))) := ⟨_, rfl⟩
    have HO : Hid (Calls Tryz.prog 43 #[.string s] w fun e w' => e = .returned (.string F) ∧ Below w.heap.size w w') := hid0 (by rw [hF]; exact oneFormL_any s (by omega) w hm hT)
    have HI : Hid (∀ W, Below w.heap.size w W → Calls Tryz.prog 44 #[.string F] W fun e w' => e = .returned (.bool (isTagB F)) ∧ Below W.heap.size W w') := hid0 (fun W hW => isTag_any A F W (hm.below hW) (he.below hW))
    have HE : Hid (∀ W, Below w.heap.size w W → W.cell? ⟨2, 0, none⟩ = some (.iface 185 (.pointer (some (A 1))))) := hid0 (fun W hW => (he.below hW).c1)
    cases hq : tagF s.data.toList with
    | none =>
      have hi : isTagB F = false := by
        unfold isTagB
        rw [hF, strOf_data]
        simpa using hLF.1 hq
      rw [hi] at HI
      unfold canE
      clear hm hT he hq hi hF hLF
      go_enter Tryz.func29, Tryz.ntmps29
      go_wp2_with (first
        | (go_at_call 43; refine HO.out.mono ?_; rintro e w1 ⟨rfl, hb1⟩; have HB1 := hid0 hb1; clear hb1)
        | (go_at_call 44; refine (HI.out _ HB1.out).mono ?_; rintro e w2 ⟨rfl, hb2⟩; have HB2 := hid0 (Below.later HB1.out hb2); have x1 := HE.out w2 (Below.later HB1.out hb2); clear hb2))
      go_quiet ((fail))
      go_wp2
      go_returns
      exact ⟨rfl, ⟨HB2.out.os, HB2.out.tape, HB2.out.output, HB2.out.size, HB2.out.block⟩⟩
    | some c =>
      obtain ⟨h1, h2⟩ := hLF.2 c hq
      have hi : isTagB F = true := by
        unfold isTagB
        rw [hF, strOf_data, h1, h2]
        simp
      have hc : strOf c = F := by rw [hF, h1]
      rw [hi] at HI
      unfold canE
      simp only
      rw [hc]
      clear hm hT he hq hi hF hLF hc h1 h2
      go_enter Tryz.func29, Tryz.ntmps29
      go_wp2_with (first
        | (go_at_call 43; refine HO.out.mono ?_; rintro e w1 ⟨rfl, hb1⟩; have HB1 := hid0 hb1; clear hb1)
        | (go_at_call 44; refine (HI.out _ HB1.out).mono ?_; rintro e w2 ⟨rfl, hb2⟩; have HB2 := hid0 (Below.later HB1.out hb2); clear hb2))
      go_returns
      exact ⟨rfl, HB2.out⟩
set_option maxRecDepth 10000 in
set_option maxHeartbeats 400000 in
theorem without_any (s : ByteArray) (hs : s.size ≤ 1000000) (h0 : Lib.lastIndexByte s 95 ≠ 0) (w : World) : Calls Tryz.prog 45 #[.string s] w fun e w' => e = .returned (.string (cutB s)) ∧ w' = w := by
  have HL : Hid (Calls Tryz.prog 64 #[.string s, .int .u8 95] w fun e w' => e = .returned (.int .i64 (Lib.lastIndexByte s 95)) ∧ w' = w) := hid0 (Any.strings_LastIndexByte Tryz.lays149 s 95 (by omega) w)
  have hr := lastIdx_lt s 95 s.size
  have hr' : -1 ≤ Lib.lastIndexByte s 95 ∧ Lib.lastIndexByte s 95 < s.size := hr
  clear hr
  by_cases hn : Lib.lastIndexByte s 95 < 0
  · have HV : Hid (cutB s = rootB) := hid0 (by rw [cutB, if_pos (by omega)])
    generalize Lib.lastIndexByte s 95 = u at *
    go_enter Tryz.func45, Tryz.ntmps45
    go_wp2_with (go_at_call 64; refine HL.out.mono ?_; rintro e w1 ⟨rfl, rfl⟩)
    go_ret
    exact ⟨by rw [HV.out]; rfl, rfl⟩
  · have HV : Hid (cutB s = s.extract 0 (Lib.lastIndexByte s 95).toNat) := hid0 (by rw [cutB, if_neg (by omega)])
    obtain ⟨u, hu⟩ : ∃ u : Nat, Lib.lastIndexByte s 95 = (u : Int) := ⟨(Lib.lastIndexByte s 95).toNat, by omega⟩
    rw [hu] at HL HV hr' hn h0
    clear hu
    have hu1 : (u : Int) ≤ (s.size : Int) := by omega
    have hu0 : (0 : Int) ≤ (u : Int) := by omega
    go_enter Tryz.func45, Tryz.ntmps45
    go_wp2_with (go_at_call 64; refine HL.out.mono ?_; rintro e w1 ⟨rfl, rfl⟩)
    go_ret
    exact ⟨by rw [HV.out]; rfl, rfl⟩
theorem tag_head {t c : List UInt8} (h : tagF t = some c) : Lib.lastIndexByte (strOf c) 95 ≠ 0 := by
  obtain ⟨_, hv, _, hc⟩ := tagF_le h
  intro h0
  rcases Lib.lastIndexByte_spec (strOf c) 95 with ⟨e, _⟩ | ⟨i, hi, e, hb, _⟩
  · omega
  · have hi0 : i = 0 := by omega
    subst hi0
    have h1 : (strOf c).data[0]! = (strOf c)[0]'hi := byte_bang (strOf c) 0 hi
    rw [h1] at hb
    have h2 : c[0]? = some ((strOf c)[0]'hi) := by
      have := bget (strOf c) 0 hi
      rw [strOf_data] at this
      exact this
    have h95 : ((strOf c)[0]'hi) = 95 := UInt8.toNat_inj.1 (by have : (95 : UInt8).toNat = 95 := rfl; omega)
    rw [h95] at h2
    simp only [validP, Bool.and_eq_true, decide_eq_true_eq] at hv
    cases hq : pieces t with
    | nil => exact absurd hq (pieces_ne t)
    | cons p r =>
      rw [hq] at hv hc
      simp only [List.headD_cons] at hv
      have hpl := hv.1.2
      cases p with
      | nil => simp at hpl
      | cons b p =>
        have hb1 : isL b = true := by have := hv.1.1.2; simp at this; exact this.1
        have hc0 : c[0]? = some (lowerB b) := by
          rw [hc]
          cases r with
          | nil => simp [canonP, joinU_one]
          | cons q r => simp [canonP, joinU_cons]
        rw [hc0] at h2
        have h3 := Option.some.inj h2
        have h4 := L_lo b
        rw [h3, hb1] at h4
        revert h4
        decide
noncomputable def cutE (A : Nat → Addr) : Option (List UInt8) → Value
  | some c => if c = rootL then .tuple #[.string ⟨#[]⟩, .iface 185 (.pointer (some (A 5)))] else .tuple #[.string (cutB (strOf c)), .nilIface]
  | none => .tuple #[.string ⟨#[]⟩, .iface 185 (.pointer (some (A 1)))]
end Go.Proofs.YtlnejmmhhmmomaaGreatDoor
namespace Go.Proofs.YtlnejmmhhmmomaaGreatDoor
open Go.RowKit Go.Shelf Go.Lib
set_option maxRecDepth 10000 in
set_option maxHeartbeats 400000 in
theorem same_loc2 (l p t : ByteArray) (v : Value) (g : Nat) (w : World) (hg : w.cell? ⟨g, 0, none⟩ = some (.string t)) :
    Calls Tryz.prog 35 #[.agg #[.string l, .string p, v], .pointer (some ⟨g, 0, none⟩)] w fun e w' => e = .returned (.bool (decide (l = t))) ∧ Below w.heap.size w w' := by
  have hgl := World.block_lt_of_cell? w _ hg
  have HB : Hid (Below w.heap.size w (w.alloc (.cells #[.string l, .string p, v] 40))) := hid0 ((Below.refl _ _).alloc (Nat.le_refl _) _)
  have y0 : (w.alloc (.cells #[.string l, .string p, v] 40)).cell? ⟨g, 0, none⟩ = some (.string t) := (HB.out.cell hgl).trans hg
  have hse := str_eq l t
  generalize decide (l = t) = d at *
  go_enter Tryz.func35, Tryz.ntmps35
  go_wp2
  go_ret
  exact ⟨by simp, HB.out⟩
/-- Where the section of a locale stands. -/
def IdxIs (L : List Sec) (t : ByteArray) (r : Int) : Prop := (∃ (k : Nat) (h : k < L.length), r = (k : Int) ∧ L[k].loc = t ∧ ∀ j (h : j < L.length), j < k → L[j].loc ≠ t) ∨ (r = -1 ∧ ∀ j (h : j < L.length), L[j].loc ≠ t)
theorem idx_least (L : List Sec) (t : ByteArray) : ∀ k (h : k < L.length), L[k].loc = t → ∃ r, IdxIs L t r
  | k, h, e => by
    by_cases q : ∃ j, ∃ h : j < L.length, j < k ∧ L[j].loc = t
    · obtain ⟨j, hj, hjk, ej⟩ := q
      exact idx_least L t j hj ej
    · exact ⟨(k : Int), .inl ⟨k, h, rfl, e, fun j hj hjk ej => q ⟨j, hj, hjk, ej⟩⟩⟩
termination_by k => k
theorem idx_ex (L : List Sec) (t : ByteArray) : ∃ r, IdxIs L t r := by
  by_cases q : ∃ j, ∃ h : j < L.length, L[j].loc = t
  · obtain ⟨j, hj, ej⟩ := q
    exact idx_least L t j hj ej
  · exact ⟨-1, .inr ⟨rfl, fun j hj ej => q ⟨j, hj, ej⟩⟩⟩
theorem idx_uniq {L : List Sec} {t : ByteArray} {r r' : Int} (h : IdxIs L t r) (h' : IdxIs L t r') : r = r' := by
  rcases h with ⟨k, hk, h1, h2, h3⟩ | ⟨h1, h2⟩ <;> rcases h' with ⟨k', hk', g1, g2, g3⟩ | ⟨g1, g2⟩
  · rcases Nat.lt_trichotomy k k' with q | q | q
    · exact absurd h2 (g3 k hk q)
    · rw [h1, g1, q]
    · exact absurd g2 (h3 k' hk' q)
  · exact absurd h2 (g2 k hk)
  · exact absurd g2 (h2 k' hk')
  · rw [h1, g1]
set_option maxRecDepth 10000 in
set_option maxHeartbeats 800000 in
theorem index_sec (L : List Sec) (a : Option Addr) (ca : Nat) (t : ByteArray) (g : Nat) (w : World) (hl : L.length ≤ 1000000) (ha : XA w a L) (hg : w.cell? ⟨g, 0, none⟩ = some (.string t)) :
    Calls Tryz.prog 34 #[.slice a L.length ca, .func (.func 35) #[] #[.pointer (some ⟨g, 0, none⟩)]] w fun e w' => (∃ r : Int, e = .returned (.int .i64 r) ∧ IdxIs L t r) ∧ Below w.heap.size w w' := by
  have hgl := World.block_lt_of_cell? w _ hg
  have HG : Hid (∀ W, Below w.heap.size w W → W.cell? ⟨g, 0, none⟩ = some (.string t)) := hid0 (fun W hW => (hW.cell (p := ⟨g, 0, none⟩) hgl).trans hg)
  have HA := hid0 ha
  have HB0 := hid0 (Below.refl w.heap.size w)
  clear ha hg hgl
  go_enter Tryz.func34, Tryz.ntmps34
  go_wp2
  go_loopw [8] (fun v wr => ∃ i : Nat, i ≤ L.length ∧ v = .int .i64 (i : Int) ∧ Hid (∀ k (h : k < L.length), k < i → L[k].loc ≠ t) ∧ Hid (Below w.heap.size w wr)) (fun v _ => L.length - (intOf v).toNat)
  case atStart => exact ⟨0, Nat.zero_le _, rfl, hid0 (fun k _ h => absurd h (Nat.not_lt_zero _)), HB0⟩
  case round =>
    obtain ⟨i, hi, rfl, HN, HB⟩ := hrel
    by_cases hlt : i < L.length
    · have hiI : (i : Int) < (L.length : Int) := by omega
      have hi0 : (0 : Int) ≤ (i : Int) := by omega
      obtain ⟨b, off, ae, ce, rfl, hbl, c0, c1, c2, _⟩ := (HA.out.later HB.out).at' i hlt
      have HS := hid0 (same_loc2 L[i].loc L[i].par t (.slice ae L[i].ed.length ce) g wr (HG.out _ HB.out))
      have HD : Hid (L[i].loc = t → IdxIs L t (i : Int)) := hid0 (fun h => .inl ⟨i, hlt, rfl, h, HN.out⟩)
      have HN2 : Hid (L[i].loc ≠ t → ∀ k (h : k < L.length), k < i + 1 → L[k].loc ≠ t) := hid0 (fun hne k h hk => by
        by_cases e : k = i
        · subst e; exact hne
        · exact HN.out k h (by omega))
      generalize L[i].loc = l at *
      generalize L[i].par = p at *
      generalize L[i].ed.length = n at *
      cases hd : decide (l = t) with
      | true =>
        rw [hd] at HS
        have HV := hid0 (HD.out (of_decide_eq_true hd))
        clear HD HN2 HN hd
        go_wp2_with (go_at_call 35; refine HS.out.mono ?_; rintro e w1 ⟨rfl, hb1⟩; have HB1 := hid0 (HB.out.trans (hb1.mono HB.out.size)); clear hb1)
        go_ret
        exact ⟨⟨_, rfl, HV.out⟩, HB1.out⟩
      | false =>
        rw [hd] at HS
        have HV := hid0 (HN2.out (of_decide_eq_false hd))
        clear HD HN2 HN hd
        go_wp2_with (go_at_call 35; refine HS.out.mono ?_; rintro e w1 ⟨rfl, hb1⟩; have HB1 := hid0 (HB.out.trans (hb1.mono HB.out.size)); clear hb1)
        go_roundw
        case rel => exact ⟨i + 1, by omega, by go_num, HV, HB1⟩
        case measure => simp [intOf]; omega
    · have hiI : ¬ (i : Int) < (L.length : Int) := by omega
      have HV : Hid (IdxIs L t (-1)) := hid0 (.inr ⟨rfl, fun k hk => HN.out k hk (by omega)⟩)
      clear HN HA
      go_wp2
      go_ret
      exact ⟨⟨-1, rfl, HV.out⟩, HB.out⟩
/-- The section of a locale. -/
def secOf (L : List Sec) (t : ByteArray) : Option Sec := L.find? fun s => decide (s.loc = t)
theorem secOf_at {L : List Sec} {t : ByteArray} {k : Nat} (h : k < L.length) (e : L[k].loc = t) (hn : ∀ j (h : j < L.length), j < k → L[j].loc ≠ t) : secOf L t = some L[k] := by
  unfold secOf
  rw [List.find?_eq_some_iff_getElem]
  exact ⟨decide_eq_true e, k, h, rfl, fun j hj => by simpa using hn j (by omega) hj⟩
theorem secOf_none {L : List Sec} {t : ByteArray} (hn : ∀ j (h : j < L.length), L[j].loc ≠ t) : secOf L t = none := by
  unfold secOf
  rw [List.find?_eq_none]
  intro s hs
  obtain ⟨j, hj, rfl⟩ := List.getElem_of_mem hs
  simpa using hn j hj
/-- What sectionOf answers, in a world. -/
def SecIs (w : World) (o : Option Sec) (v : Value) : Prop := match o with
  | none => v = .agg #[.string ⟨#[]⟩, .string ⟨#[]⟩, .slice none 0 0]
  | some s => ∃ ae ce, v = .agg #[.string s.loc, .string s.par, .slice ae s.ed.length ce] ∧ EA w ae s.ed
set_option maxRecDepth 10000 in
set_option maxHeartbeats 800000 in
theorem sectionOf_any (L : List Sec) (a : Option Addr) (c : Nat) (t : ByteArray) (w : World) (hl : L.length ≤ 1000000) (ha : XA w a L) :
    Calls Tryz.prog 17 #[.agg #[.slice a L.length c], .string t] w fun e w' => (∃ v, e = .returned v ∧ SecIs w (secOf L t) v) ∧ Below w.heap.size w w' := by
  obtain ⟨wa, hwa⟩ : ∃ wa, wa = w.alloc (.cells #[.slice a L.length c] 24) := ⟨_, rfl⟩
  obtain ⟨wb, hwb⟩ : ∃ wb, wb = wa.alloc (.cells #[.string t] 9) := ⟨_, rfl⟩
  obtain ⟨wc, hwc⟩ : ∃ wc, wc = wb.alloc (.cells #[.string ⟨#[]⟩, .string ⟨#[]⟩, .slice none 0 0] 40) := ⟨_, rfl⟩
  have sa : wa.heap.size = w.heap.size + 1 := by rw [hwa]; simp
  have sb : wb.heap.size = w.heap.size + 1 + 1 := by rw [hwb]; simp [sa]
  have bab : Below wa.heap.size wa wb := by rw [hwb]; exact (Below.refl _ _).alloc (Nat.le_refl _) _
  have bbc : Below wb.heap.size wb wc := by rw [hwc]; exact (Below.refl _ _).alloc (Nat.le_refl _) _
  have b0a : Below w.heap.size w wa := by rw [hwa]; exact (Below.refl _ _).alloc (Nat.le_refl _) _
  have b0c : Below w.heap.size w wc := Below.later (Below.later b0a bab) bbc
  have r0 : wc.heap[w.heap.size]? = some (.cells #[.slice a L.length c] 24 (0, 0)) := by
    rw [bbc.block _ (by omega), bab.block _ (by omega), hwa]; exact heap_alloc_new w _
  have r1 : wc.heap[w.heap.size + 1]? = some (.cells #[.string t] 9 (0, 0)) := by
    rw [bbc.block _ (by omega), hwb, ← sa]; exact heap_alloc_new wa _
  have r2 : wc.heap[w.heap.size + 1 + 1]? = some (.cells #[.string ⟨#[]⟩, .string ⟨#[]⟩, .slice none 0 0] 40 (0, 0)) := by
    rw [hwc, ← sb]; exact heap_alloc_new wb _
  obtain ⟨r, hr⟩ := idx_ex L t
  have HIx : Hid (Calls Tryz.prog 34 #[.slice a L.length c, .func (.func 35) #[] #[.pointer (some ⟨w.heap.size + 1, 0, none⟩)]] wc fun e w' => e = .returned (.int .i64 r) ∧ Below wc.heap.size wc w') := hid0 ((index_sec L a c t (w.heap.size + 1) wc hl (ha.later b0c) (by rw [cell_of_row _ _ _ _ _ _ r1]; rfl)).mono (fun e w' h => by
    obtain ⟨⟨r', h1, h2⟩, h3⟩ := h
    exact ⟨by rw [h1, idx_uniq h2 hr], h3⟩))
  have x0 : wc.cell? ⟨w.heap.size, 0, none⟩ = some (.slice a L.length c) := by rw [cell_of_row _ _ _ _ _ _ r0]; rfl
  have HP : Hid (∀ W, Below wc.heap.size wc W → W.cell? ⟨w.heap.size, 0, none⟩ = some (.slice a L.length c) ∧ W.heap[w.heap.size + 1 + 1]? = some (.cells #[.string ⟨#[]⟩, .string ⟨#[]⟩, .slice none 0 0] 40 (0, 0)) ∧ XA W a L ∧ Below w.heap.size w W) := hid0 (fun W hW => by
    have q0 := (hW.block _ (Array.getElem?_eq_some_iff.1 r0).1).trans r0
    exact ⟨by rw [cell_of_row _ _ _ _ _ _ q0]; rfl, (hW.block _ (Array.getElem?_eq_some_iff.1 r2).1).trans r2, (ha.later b0c).later hW, Below.later b0c hW⟩)
  have HA := hid0 ha
  have hf1 := hwa.symm
  have hf2 := hwb.symm
  have hf3 := hwc.symm
  clear ha hwa hwb hwc bab bbc b0a b0c r0 r1 r2
  rcases hr with ⟨k, hk, rfl, e, hn⟩ | ⟨rfl, hn⟩
  · have HV := hid0 (secOf_at hk e hn)
    have hk0 : (0 : Int) ≤ (k : Int) := by omega
    have hkI : (k : Int) < (L.length : Int) := by omega
    have hkn : ¬ (k : Int) < 0 := by omega
    obtain ⟨b, off, ae, ce, rfl, hbl, q0, q1, q2, hea⟩ := HA.out.at' k hk
    have HXC : Hid (∀ W, Below w.heap.size w W → W.cell? ⟨b, off + k * 3, none⟩ = some (.string L[k].loc) ∧ W.cell? ⟨b, off + k * 3 + 1, none⟩ = some (.string L[k].par) ∧ W.cell? ⟨b, off + k * 3 + 2, none⟩ = some (.slice ae L[k].ed.length ce)) := hid0 (fun W hW => ⟨(hW.cell (p := ⟨b, off + k * 3, none⟩) hbl).trans q0, (hW.cell (p := ⟨b, off + k * 3 + 1, none⟩) hbl).trans q1, (hW.cell (p := ⟨b, off + k * 3 + 2, none⟩) hbl).trans q2⟩)
    clear q0 q1 q2
    have HEA := hid0 hea
    clear HA hn e hea
    generalize L[k] = sk at *
    go_enter Tryz.func17, Tryz.ntmps17
    go_wp2_with (first
      | (go_at_call 34; refine HIx.out.mono ?_; rintro e w5 ⟨rfl, hb5⟩; obtain ⟨z0, zr, zx, zb⟩ := HP.out w5 hb5; have HZR := hid0 zr; have HZX := hid0 zx; have HZB := hid0 zb; obtain ⟨⟨d0, d1, d2⟩, g0, g1, g2⟩ := row3 zr; obtain ⟨k0, k1, k2⟩ := HXC.out w5 HZB.out; clear hb5 zr zx zb hf1 hf2 hf3)
      | fail)
    have HR6 := hid0 (set3 (.string sk.loc) (.string sk.par) (.slice ae sk.ed.length ce) HZR.out)
    have HB6 := hid0 (set3_below HZB.out (g := w.heap.size + 1 + 1) (by omega) (.string sk.loc) (.string sk.par) (.slice ae sk.ed.length ce))
    obtain ⟨⟨m0, m1, m2⟩, _⟩ := row3 HR6.out
    refine bodyPost_ret (by simp [results, Tryz.results17, go_sem, m0, m1, m2]; try rfl) rfl ?_
    exact ⟨⟨_, rfl, by rw [HV.out]; exact ⟨ae, ce, rfl, HEA.out⟩⟩, HB6.out⟩
  · have HV := hid0 (secOf_none hn)
    clear HA hn
    go_enter Tryz.func17, Tryz.ntmps17
    go_wp2_with (first
      | (go_at_call 34; refine HIx.out.mono ?_; rintro e w5 ⟨rfl, hb5⟩; obtain ⟨z0, zr, zx, zb⟩ := HP.out w5 hb5; have HZR := hid0 zr; have HZX := hid0 zx; have HZB := hid0 zb; obtain ⟨⟨d0, d1, d2⟩, g0, g1, g2⟩ := row3 zr; clear hb5 zr zx zb hf1 hf2 hf3)
      | fail)
    have HR6 := hid0 (set3 (.string ⟨#[]⟩) (.string ⟨#[]⟩) (.slice none 0 0) HZR.out)
    have HB6 := hid0 (set3_below HZB.out (g := w.heap.size + 1 + 1) (by omega) (.string ⟨#[]⟩) (.string ⟨#[]⟩) (.slice none 0 0))
    obtain ⟨⟨m0, m1, m2⟩, _⟩ := row3 HR6.out
    refine bodyPost_ret (by simp [results, Tryz.results17, go_sem, m0, m1, m2]; try rfl) rfl ?_
    exact ⟨⟨_, rfl, by rw [HV.out]; rfl⟩, HB6.out⟩
end Go.Proofs.YtlnejmmhhmmomaaGreatDoor
namespace Go.Proofs.YtlnejmmhhmmomaaGreatDoor
open Go.RowKit Go.Shelf Go.Lib
/-- The parent of a locale. -/
noncomputable def parL (L : List Sec) (t : ByteArray) : ByteArray := match secOf L t with
  | some s => if (s.par.toList == []) = true then cutB t else s.par
  | none => cutB t
set_option maxRecDepth 10000 in
set_option maxHeartbeats 800000 in
theorem parentOf_any (L : List Sec) (a : Option Addr) (c : Nat) (t : ByteArray) (w : World) (hl : L.length ≤ 1000000) (hs : t.size ≤ 1000000) (h0 : Lib.lastIndexByte t 95 ≠ 0) (ha : XA w a L) :
    Calls Tryz.prog 30 #[.agg #[.slice a L.length c], .string t] w fun e w' => e = .returned (.string (parL L t)) ∧ Below w.heap.size w w' := by
  obtain ⟨wa, hwa⟩ : ∃ wa, wa = w.alloc (.cells #[.slice a L.length c] 24) := ⟨_, rfl⟩
  have b0a : Below w.heap.size w wa := by rw [hwa]; exact (Below.refl _ _).alloc (Nat.le_refl _) _
  have r0 : wa.heap[w.heap.size]? = some (.cells #[.slice a L.length c] 24 (0, 0)) := by rw [hwa]; exact heap_alloc_new w _
  have x0 : wa.cell? ⟨w.heap.size, 0, none⟩ = some (.slice a L.length c) := by rw [cell_of_row _ _ _ _ _ _ r0]; rfl
  have HS := hid0 (sectionOf_any L a c t wa hl (ha.later b0a))
  have HW := hid0 (fun W => without_any t hs h0 W)
  have HB := hid0 b0a
  have hfd : ∀ (l p : ByteArray) (ae : Option Addr) (n ce : Nat) (w : World), (Instr.field 40 (.agg #[.string l, .string p, .slice ae n ce]) 1).run Tryz.prog w = .ok (.string p) w := fun _ _ _ _ _ _ => by kernel_rfl
  have hf1 := hwa.symm
  clear ha hwa b0a r0 hs h0
  obtain ⟨R, hR⟩ : ∃ R, R = parL L t := ⟨_, rfl⟩
  rw [← hR]
  unfold parL at hR
  cases hq : secOf L t with
  | none =>
    rw [hq] at hR HS
    simp only at hR
    have HR := hid0 hR
    have hem : ((⟨#[]⟩ : ByteArray).toList == []) = true := (empty_beq []).trans (by simp)
    clear hR hq
    go_enter Tryz.func30, Tryz.ntmps30
    go_wp2_with (first
      | (go_at_call 17; refine HS.out.mono ?_; rintro e w1 ⟨⟨v, rfl, hv⟩, hb1⟩; have hv2 : v = .agg #[.string ⟨#[]⟩, .string ⟨#[]⟩, .slice none 0 0] := hv; subst hv2; have HB1 := hid0 (Below.later HB.out hb1); clear hb1 hv)
      | (go_at_call 45; refine (HW.out _).mono ?_; rintro e w2 ⟨rfl, rfl⟩)
      | fail)
    go_ret
    exact ⟨by rw [HR.out]; rfl, HB1.out⟩
  | some s =>
    rw [hq] at hR HS
    simp only at hR
    obtain ⟨l, p, ed⟩ := s
    simp only at hR
    cases hp : (p.toList == []) with
    | true =>
      rw [hp] at hR
      simp only [if_true] at hR
      have HR := hid0 hR
      clear hR hq
      go_enter Tryz.func30, Tryz.ntmps30
      go_wp2_with (first
        | (go_at_call 17; refine HS.out.mono ?_; rintro e w1 ⟨⟨v, rfl, ae, ce, hv, _⟩, hb1⟩; subst hv; have HB1 := hid0 (Below.later HB.out hb1); clear hb1)
        | (go_at_call 45; refine (HW.out _).mono ?_; rintro e w2 ⟨rfl, rfl⟩)
        | fail)
      go_ret
      exact ⟨by rw [HR.out]; rfl, HB1.out⟩
    | false =>
      rw [hp] at hR
      simp only [Bool.false_eq_true, if_false] at hR
      have HR := hid0 hR
      clear hR hq
      go_enter Tryz.func30, Tryz.ntmps30
      go_wp2_with (first
        | (go_at_call 17; refine HS.out.mono ?_; rintro e w1 ⟨⟨v, rfl, ae, ce, hv, _⟩, hb1⟩; subst hv; have HB1 := hid0 (Below.later HB.out hb1); clear hb1)
        | fail)
      go_ret
      exact ⟨by rw [HR.out]; rfl, HB1.out⟩
end Go.Proofs.YtlnejmmhhmmomaaGreatDoor
namespace Go.Proofs.YtlnejmmhhmmomaaGreatDoor
open Go.RowKit Go.Shelf Go.Lib
/-- A locale that may be cut: 64 bytes at most, and its first is not _. -/
structure Gd (x : ByteArray) : Prop where
  size : x.size ≤ 64
  head : ((x.data[0]!).toNat : Int) ≠ 95
theorem Gd.last {x : ByteArray} (h : Gd x) : Lib.lastIndexByte x 95 ≠ 0 := by
  intro h0
  rcases Lib.lastIndexByte_spec x 95 with ⟨e, _⟩ | ⟨i, hi, e, hb, _⟩
  · omega
  · have hi0 : i = 0 := by omega
    subst hi0
    exact h.head hb
theorem gd_root : Gd rootB := ⟨by decide, by decide⟩
theorem gd_cut {x : ByteArray} (h : Gd x) : Gd (cutB x) := by
  unfold cutB
  split
  · exact gd_root
  · rename_i hn
    have h1 := lastIdx_lt x 95 x.size
    have h2 : Lib.lastIndexByte x 95 < x.size := h1.2
    obtain ⟨k, hk⟩ : ∃ k : Nat, Lib.lastIndexByte x 95 = (k : Int) := ⟨(Lib.lastIndexByte x 95).toNat, by omega⟩
    rw [hk] at hn h2 ⊢
    have hsz : (x.extract 0 k).size = k := by simp [ByteArray.size_extract]; omega
    have hs := h.size
    refine ⟨by simp only [Int.toNat_natCast]; omega, ?_⟩
    have e : ((x.extract 0 k).data[0]!) = x.data[0]! := by
      rw [byte_bang _ 0 (by omega), byte_bang x 0 (by omega)]
      simp [ByteArray.getElem_extract]
    simp only [Int.toNat_natCast, e]
    exact h.head
theorem tag_first {t c : List UInt8} (h : tagF t = some c) : (((strOf c).data[0]!).toNat : Int) ≠ 95 ∧ (strOf c).size ≤ 64 := by
  obtain ⟨_, hv, hle, hc⟩ := tagF_le h
  refine ⟨fun hb => ?_, by rw [strOf_size]; omega⟩
  simp only [validP, Bool.and_eq_true, decide_eq_true_eq] at hv
  cases hq : pieces t with
  | nil => exact absurd hq (pieces_ne t)
  | cons p r =>
    rw [hq] at hv hc
    simp only [List.headD_cons] at hv
    have hpl := hv.1.2
    cases p with
    | nil => simp at hpl
    | cons b p =>
      have hb1 : isL b = true := by have := hv.1.1.2; simp at this; exact this.1
      have hc0 : c[0]? = some (lowerB b) := by
        rw [hc]
        cases r with
        | nil => simp [canonP, joinU_one]
        | cons q r => simp [canonP, joinU_cons]
      have hi : 0 < (strOf c).size := by
        rw [strOf_size]
        cases c with
        | nil => simp at hc0
        | cons x c => simp
      have h2 : c[0]? = some ((strOf c)[0]'hi) := by
        have := bget (strOf c) 0 hi
        rw [strOf_data] at this
        exact this
      rw [byte_bang (strOf c) 0 hi] at hb
      have h95 : ((strOf c)[0]'hi) = 95 := UInt8.toNat_inj.1 (by have : (95 : UInt8).toNat = 95 := rfl; omega)
      rw [h95, hc0] at h2
      have h3 := Option.some.inj h2
      have h4 := L_lo b
      rw [h3, hb1] at h4
      revert h4
      decide
theorem gd_tag {t c : List UInt8} (h : tagF t = some c) : Gd (strOf c) := ⟨(tag_first h).2, (tag_first h).1⟩
theorem gd_isTag {s : ByteArray} (h : isTagB s = true) : Gd s := by
  have h1 := gd_tag (of_decide_eq_true h)
  have e : strOf s.data.toList = s := by simp [strOf]
  rwa [e] at h1
theorem str_beqF (a b : ByteArray) (h : ¬ a = b) : (a.toList == b.toList) = false := by
  rw [str_eq]; exact decide_eq_false h
set_option maxRecDepth 10000 in
set_option maxHeartbeats 800000 in
theorem indexS_any (L : List ByteArray) (a : Option Addr) (cap : Nat) (x : ByteArray) (w : World) (hl : L.length ≤ 1000000000000) (ha : SA w a L) :
    Calls Tryz.prog 46 #[.slice a L.length cap, .string x] w fun e w' => e = .returned (.int .i64 (Lib.idxOfS L x)) ∧ w' = w := by
  have HS := hid0 ha
  clear ha
  go_enter Tryz.func46, Tryz.ntmps46
  go_wp2
  go_loopw [8] (fun i wr => ∃ k : Nat, k ≤ L.length ∧ i = .int .i64 (k : Int) ∧ (∀ j, j < k → L.getD j ByteArray.empty ≠ x) ∧ wr = w) (fun i _ => L.length - (intOf i).toNat)
  case atStart => exact ⟨0, Nat.zero_le _, rfl, fun j hj => absurd hj (Nat.not_lt_zero _), rfl⟩
  case round =>
    obtain ⟨k, hk, rfl, hall, rfl⟩ := hrel
    have HA := hid0 hall
    clear hall
    by_cases hlt : k < L.length
    · obtain ⟨b, off, rfl, _, hc⟩ := HS.out.at' k hlt
      have hkI : (k : Int) < (L.length : Int) := by omega
      have hkI0 : (0 : Int) ≤ (k : Int) := by omega
      have hgd : L.getD k ByteArray.empty = L[k] := by simp [List.getD, hlt]
      by_cases he : L[k] = x
      · have HV : Hid (Lib.idxOfS L x = (k : Int)) := hid0 (by
          have := Lib.idxFromS_hit x L k 0 hlt (hgd.trans he) HA.out
          rw [Lib.idxOfS, this]; simp)
        rw [he] at hc
        clear HA hgd he HS
        go_wp2
        go_ret
        exact ⟨by rw [HV.out]; rfl, rfl⟩
      · have HN : Hid (∀ j, j < k + 1 → L.getD j ByteArray.empty ≠ x) := hid0 (fun j hj => by
          by_cases e : j = k
          · subst e; rw [hgd]; exact he
          · exact HA.out j (by omega))
        have hne := str_beqF _ _ (fun e => he e.symm)
        clear HA hgd he HS
        go_wp2
        go_roundw
        case rel => exact ⟨k + 1, hlt, by go_num, HN.out, trivial⟩
        case measure => simp [intOf]; omega
    · have hkI : ¬ (k : Int) < (L.length : Int) := by omega
      have HV : Hid (Lib.idxOfS L x = -1) := hid0 (by
        have hkn : k = L.length := by omega
        exact Lib.idxFromS_miss x L 0 (fun j hj => HA.out j (by omega)))
      clear HA HS
      go_wp2
      go_ret
      exact ⟨by rw [HV.out]; rfl, rfl⟩
set_option maxRecDepth 10000 in
set_option maxHeartbeats 800000 in
theorem containsS_any (L : List ByteArray) (a : Option Addr) (cap : Nat) (x : ByteArray) (w : World) (hl : L.length ≤ 1000000000000) (ha : SA w a L) :
    Calls Tryz.prog 31 #[.slice a L.length cap, .string x] w fun e w' => e = .returned (.bool (Lib.containsS L x)) ∧ w' = w := by
  have HI := hid0 (indexS_any L a cap x w hl ha)
  have HV : Hid (Lib.containsS L x = decide (0 ≤ Lib.idxOfS L x)) := hid0 rfl
  generalize Lib.idxOfS L x = q at *
  generalize Lib.containsS L x = r at *
  clear ha
  go_enter Tryz.func31, Tryz.ntmps31
  go_wp2_with (go_at_call 46; refine HI.out.mono ?_; rintro e w1 ⟨rfl, rfl⟩)
  go_ret
  exact ⟨by rw [HV.out]; simp, rfl⟩
end Go.Proofs.YtlnejmmhhmmomaaGreatDoor
namespace Go.Proofs.YtlnejmmhhmmomaaGreatDoor
open Go.RowKit Go.Shelf Go.Lib
/-- What Chain answers. -/
inductive CR
  | ok (l : List ByteArray)
  | bad (i : Nat)
noncomputable def chainGo (L : List Sec) : Nat → List ByteArray → ByteArray → CR
  | 0, _, _ => .bad 2
  | f + 1, ch, last => if (last.toList == [114, 111, 111, 116]) = true then .ok ch else if Lib.containsS ch (parL L last) = true then .bad 7 else if ch.length = 16 then .bad 2 else chainGo L f (ch ++ [parL L last]) (parL L last)
def entE (s : ByteArray) : Option Nat := entF s.data.toList
noncomputable def chainF (L : List Sec) (t : ByteArray) : CR := match chkE entE L with
  | some i => .bad i
  | none => match tagF t.data.toList with
    | none => .bad 1
    | some c => chainGo L 17 [strOf c] (strOf c)
def GoChain (A : Nat → Addr) (base : Nat) (w' : World) (r : CR) (e : Ending) : Prop := match r with
  | .ok l => ∃ v, e = .returned (.tuple #[v, .nilIface]) ∧ OwnS w' base v l
  | .bad i => e = .returned (.tuple #[.slice none 0 0, .iface 185 (.pointer (some (A i)))])
theorem firstN_inv (f : Nat → Option Nat) : ∀ (m i : Nat), firstN f i m = none → ∀ j, i ≤ j → j < i + m → f j = none
  | 0, _, _, j, h1, h2 => by omega
  | m + 1, i, h, j, h1, h2 => by
    rw [firstN] at h
    cases hx : f i with
    | some x => rw [hx] at h; cases h
    | none =>
      rw [hx] at h
      by_cases e : j = i
      · rw [e, hx]
      · exact firstN_inv f m (i + 1) h j (by omega) (by omega)
theorem par_ok {E : ByteArray → Option Nat} {L : List Sec} (h : chkE E L = none) : ∀ s ∈ L, (s.par.toList == []) = false → isTagB s.par = true := by
  intro s hs hp
  unfold chkE at h
  split at h
  · cases h
  · obtain ⟨k, hk, rfl⟩ := List.getElem_of_mem hs
    have h1 := firstN_inv _ _ 0 h k (Nat.zero_le _) (by omega)
    rw [fSec_at E L k hk] at h1
    unfold secE at h1
    split at h1
    · cases h1
    · split at h1
      · cases h1
      · split at h1
        · cases h1
        · rename_i hn
          cases hq : isTagB L[k].par with
          | true => rfl
          | false => exact absurd ⟨hp, hq⟩ hn
theorem gd_par {E : ByteArray → Option Nat} {L : List Sec} (h : chkE E L = none) {t : ByteArray} (ht : Gd t) : Gd (parL L t) := by
  unfold parL
  cases hq : secOf L t with
  | none => exact gd_cut ht
  | some s =>
    simp only
    split
    · exact gd_cut ht
    · rename_i hp
      exact gd_isTag (par_ok h s (List.mem_of_find?_eq_some hq) (by simpa using hp))
theorem OwnS.base' {w : World} {base base' : Nat} {v : Value} {l : List ByteArray} (h : OwnS w base v l) (hb : base' ≤ base) : OwnS w base' v l := by
  obtain ⟨h1, h2⟩ := h
  refine ⟨h1, ?_⟩
  rcases h2 with h2 | ⟨g, cap, cur, hv, hg, r⟩
  · exact .inl h2
  · exact .inr ⟨g, cap, cur, hv, Nat.le_trans hb hg, r⟩
theorem OwnS.later' {w w' : World} {base : Nat} {v : Value} {L : List ByteArray} (h : OwnS w base v L) (hb : Below w.heap.size w w') : OwnS w' base v L := by
  obtain ⟨h1, h2⟩ := h
  refine ⟨h1, ?_⟩
  rcases h2 with h2 | ⟨g, cap, cur, hv, hg, hh, r⟩
  · exact .inl h2
  · exact .inr ⟨g, cap, cur, hv, hg, (hb.block g (Array.getElem?_eq_some_iff.1 hh).1).trans hh, r⟩
def lenOf : Value → Nat
  | .slice _ n _ => n
  | _ => 0
set_option maxRecDepth 10000 in
set_option maxHeartbeats 3200000 in
theorem chain_any (A : Nat → Addr) (L : List Sec) (a : Option Addr) (c : Nat) (t : ByteArray) (w : World) (hc : L.length ≤ c) (hb : ∀ s ∈ L, s.ed.length ≤ 140737488355328) (hz : ∀ s ∈ L, ∀ e ∈ s.ed, e.2.size ≤ 140737488355328) (hm : Mx w) (hT : Tb w) (hQ : SeqAt w) (he : Sents w A) (ha : XA w a L) :
    Calls Tryz.prog 13 #[.agg #[.slice a L.length c], .string t] w fun e w' => GoChain A w.heap.size w' (chainF L t) e ∧ Below w.heap.size w w' := by
  obtain ⟨w0, hw0⟩ : ∃ w0, w0 = w.alloc (.cells #[.slice a L.length c] 24) := ⟨_, rfl⟩
  have hB0 : Below w.heap.size w w0 := by rw [hw0]; exact (Below.refl _ _).alloc (Nat.le_refl _) _
  have hX0 : w0.heap[w.heap.size]? = some (.cells #[.slice a L.length c] 24 (0, 0)) := by rw [hw0]; exact heap_alloc_new w _
  have hs0 : w0.heap.size = w.heap.size + 1 := by rw [hw0]; simp
  have HXW : Hid (∀ W, Below w0.heap.size w0 W → W.cell? ⟨w.heap.size, 0, none⟩ = some (.slice a L.length c) ∧ W.cell? ⟨7, 0, none⟩ = some (.iface 185 (.pointer (some (A 7)))) ∧ W.cell? ⟨0, 0, none⟩ = some (.iface 185 (.pointer (some (A 2))))) := hid0 (fun W hW => by
    have hr := (hW.block w.heap.size (by omega)).trans hX0
    exact ⟨by rw [cell_of_row _ _ _ _ _ _ hr]; rfl, ((he.below hB0).below hW).c7, ((he.below hB0).below hW).c2⟩)
  have HCk := hid0 (check_any entE A L a c w0 hc hb (hm.below hB0) (he.below hB0) (ha.later hB0) hz (fun x W hx hW => entry_any A x W hx ((hQ.later hB0).later hW) ((he.below hB0).below hW)))
  have HCa : Hid (∀ W, Below w0.heap.size w0 W → Calls Tryz.prog 29 #[.string t] W fun e w' => e = .returned (canE A (tagF t.data.toList)) ∧ Below W.heap.size W w') := hid0 (fun W hW => canon_any A t W ((hm.below hB0).below hW) ((hT.below hB0).below hW) ((he.below hB0).below hW))
  have HPo : Hid (L.length ≤ 500 → ∀ x W, Gd x → Below w0.heap.size w0 W → Calls Tryz.prog 30 #[.agg #[.slice a L.length c], .string x] W fun e w' => e = .returned (.string (parL L x)) ∧ Below W.heap.size W w') := hid0 (fun h5 x W hx hW => parentOf_any L a c x W (by omega) (by have := hx.size; omega) hx.last ((ha.later hB0).later hW))
  have HB0 := hid0 hB0
  obtain ⟨x0, x1, x2⟩ := HXW.out w0 (Below.refl _ _)
  have hfold := hw0.symm
  have hsz : w.heap.size ≤ w0.heap.size := by omega
  clear hw0 hB0 hX0 hs0 hm hT hQ he ha hb hz hc
  obtain ⟨R, hR⟩ : ∃ R, R = chainF L t := ⟨_, rfl⟩
  rw [← hR]
  unfold chainF at hR
  cases hk : chkE entE L with
  | some i =>
    rw [hk] at hR HCk
    simp only [errO] at hR HCk
    subst hR
    clear hk HPo HCa
    go_enter Tryz.func13, Tryz.ntmps13
    go_wp2_with (first
      | (go_at_call 28; refine HCk.out.mono ?_; rintro e w1 ⟨rfl, hb1⟩; have HB1 := hid0 (Below.later HB0.out hb1); clear hb1)
      | fail)
    go_returns
    exact ⟨rfl, HB1.out⟩
  | none =>
    have h5 : L.length ≤ 500 := by
      unfold chkE at hk
      split at hk
      · cases hk
      · omega
    have HP := hid0 (HPo.out h5)
    have HG := hid0 (fun (x : ByteArray) (hx : Gd x) => gd_par hk hx)
    rw [hk] at hR HCk
    simp only [errO] at hR HCk
    clear hk HPo
    cases hq : tagF t.data.toList with
    | none =>
      rw [hq] at hR HCa
      simp only [canE] at hR HCa
      subst hR
      clear hq HP HG
      go_enter Tryz.func13, Tryz.ntmps13
      go_wp2_with (first
        | (go_at_call 28; refine HCk.out.mono ?_; rintro e w1 ⟨rfl, hb1⟩; have HB1 := hid0 hb1; clear hb1)
        | (go_at_call 29; refine (HCa.out _ HB1.out).mono ?_; rintro e w2 ⟨rfl, hb2⟩; have HB2 := hid0 (Below.later HB0.out (Below.later HB1.out hb2)); clear hb2)
        | fail)
      go_returns
      exact ⟨rfl, HB2.out⟩
    | some x =>
      rw [hq] at hR HCa
      simp only [canE] at hR HCa
      have HGx := hid0 (gd_tag hq)
      have HR := hid0 hR
      obtain ⟨i0, hi, hz0, hz1, hz2⟩ := info_parts infoStr
      clear hq hR
      generalize strOf x = X at *
      go_enter Tryz.func13, Tryz.ntmps13
      go_wp2_with (first
        | (go_at_call 28; refine HCk.out.mono ?_; rintro e w1 ⟨rfl, hb1⟩; have HB1 := hid0 hb1; clear hb1)
        | (go_at_call 29; refine (HCa.out _ HB1.out).mono ?_; rintro e w2 ⟨rfl, hb2⟩; have HB2 := hid0 (Below.later HB1.out hb2); clear hb2)
        | fail)
      have HO0 : Hid (OwnS (w2.alloc (.cells #[.string X] 9)) w0.heap.size (.slice (some ⟨w2.heap.size, 0, none⟩) 1 1) [X]) := hid0 (by
        have h0 := World.ownsRow_lit (base := w0.heap.size) (e := 9) (size := 1) w2 #[.string X] 1 HB2.out.size (by unfold maxLen; omega) rfl
        simpa [OwnS, cellsS] using h0)
      have HB3 := hid0 (HB2.out.alloc HB2.out.size (.cells #[.string X] 9))
      go_loopw [7, 9] (fun t7 v wr => ∃ (f : Nat) (ch : List ByteArray) (y : ByteArray), t7 = .string y ∧ ch.length + f = 18 ∧ ch.length ≤ 16 ∧ Hid (R = chainGo L f ch y) ∧ Hid (Gd y) ∧ Hid (OwnS wr w0.heap.size v ch) ∧ Hid (Below w0.heap.size w0 wr)) (fun _ v _ => 17 - lenOf v)
      case atStart => exact ⟨17, [X], X, rfl, rfl, by simp, HR, HGx, HO0, HB3⟩
      case round =>
        clear HO0 HB3 HB1 HB2 HR HGx HCk HCa
        obtain ⟨f, ch, y, rfl, hf, h16, HRr, HGy, HO, HB⟩ := hrel
        obtain ⟨av, cap, rfl, hsa, _⟩ := HO.out.sa
        obtain ⟨f, rfl⟩ : ∃ g, f = g + 1 := ⟨f - 1, by omega⟩
        obtain ⟨z0, z1, z2⟩ := HXW.out wr HB.out
        have hstep := HRr.out
        rw [chainGo] at hstep
        clear HRr
        cases hy : (y.toList == [114, 111, 111, 116]) with
        | true =>
          rw [hy, if_pos rfl] at hstep
          have HV := hid0 hstep
          clear hstep
          go_wp2
          go_returns
          refine ⟨?_, Below.later HB0.out HB.out⟩
          rw [HV.out]
          exact ⟨_, rfl, HO.out.base' hsz⟩
        | false =>
          rw [hy, if_neg (by simp)] at hstep
          have HPx := hid0 (fun W hW => HP.out y W HGy.out hW)
          have HGn := hid0 (HG.out y HGy.out)
          generalize parL L y = nx at *
          have HCo := hid0 (fun W (hW : Below wr.heap.size wr W) => containsS_any ch av cap nx W (by omega) (hsa.below hW))
          clear hsa
          cases hcn : Lib.containsS ch nx with
          | true =>
            rw [hcn, if_pos rfl] at hstep
            rw [hcn] at HCo
            have HV := hid0 hstep
            clear hstep hcn
            go_wp2_with (first
                | (go_at_call 30; refine (HPx.out _ HB.out).mono ?_; rintro e w3 ⟨rfl, hb3⟩; have HW3 := hid0 hb3; have HB3 := hid0 (Below.later HB.out hb3); obtain ⟨u0, u1, u2⟩ := HXW.out w3 HB3.out; clear hb3)
                | (go_at_call 31; refine (HCo.out _ HW3.out).mono ?_; rintro e w4 ⟨rfl, hw4⟩; have hw5 := hw4.symm; subst hw5)
                | fail)
            go_region
            go_wp2
            go_returns
            exact ⟨by rw [HV.out]; rfl, Below.later HB0.out (by have := HB3.out; go_grown)⟩
          | false =>
            rw [hcn, if_neg (by simp)] at hstep
            rw [hcn] at HCo
            by_cases h6 : ch.length = 16
            · rw [if_pos h6] at hstep
              have h6I : (ch.length : Int) = 16 := by omega
              have HV := hid0 hstep
              clear hstep hcn h6
              go_wp2_with (first
                | (go_at_call 30; refine (HPx.out _ HB.out).mono ?_; rintro e w3 ⟨rfl, hb3⟩; have HW3 := hid0 hb3; have HB3 := hid0 (Below.later HB.out hb3); obtain ⟨u0, u1, u2⟩ := HXW.out w3 HB3.out; clear hb3)
                | (go_at_call 31; refine (HCo.out _ HW3.out).mono ?_; rintro e w4 ⟨rfl, hw4⟩; have hw5 := hw4.symm; subst hw5)
                | fail)
              go_region
              go_wp2
              go_returns
              exact ⟨by rw [HV.out]; rfl, Below.later HB0.out (by have := HB3.out; go_grown)⟩
            · rw [if_neg h6] at hstep
              have h6I : ¬ (ch.length : Int) = 16 := by omega
              have HV := hid0 hstep
              have HOW : Hid (∀ W, Below wr.heap.size wr W → OwnS W w0.heap.size (.slice av ch.length cap) ch) := hid0 (fun W hW => HO.out.later' hW)
              clear hstep hcn HO
              go_wp2_with (first
                | (go_at_call 30; refine (HPx.out _ HB.out).mono ?_; rintro e w3 ⟨rfl, hb3⟩; have HW3 := hid0 hb3; have HB3 := hid0 (Below.later HB.out hb3); obtain ⟨u0, u1, u2⟩ := HXW.out w3 HB3.out; clear hb3)
                | (go_at_call 31; refine (HCo.out _ HW3.out).mono ?_; rintro e w4 ⟨rfl, hw4⟩; have hw5 := hw4.symm; subst hw5)
                | (at_builtin; refine wpList_append_own _ rfl _ _ 28 rfl w0.heap.size 9 i0 (.string ⟨#[]⟩) 1 16 Tryz.underlying28 hi hz0 hz1 hz2 rfl (by decide) _ _ _ rfl (World.ownsRow.alloc (HOW.out _ HW3.out) _) ⟨_, 0, none⟩ 1 1 [.string nx] rfl rfl (cell_one_new _ _ _) ?c2b ?c3b ?c4b ?c5b ?_)
                | fail)
              case c2b => simp [Value.oneCell']
              case c3b => unfold maxLen; omega
              case c4b => omega
              case c5b => have := HB3.out.size; simp; omega
              intro v2 w4 hown' hgrow _
              obtain ⟨g1, g2⟩ := owns_snoc (base := w0.heap.size) (L := ch) (c := nx) (n := ch.length) rfl (HOW.out _ HW3.out) hown' hgrow HB3.out (Nat.le_refl _)
              have HO4 := hid0 g1
              have HB4 := hid0 g2
              obtain ⟨av2, cap2, rfl, _⟩ := g1.sa
              clear hown' hgrow g1 g2 HOW HB3 HW3
              go_wp2
              go_roundw
              case rel => exact ⟨f, ch ++ [nx], nx, rfl, by simp; omega, by simp; omega, HV, HGn, HO4, HB4⟩
              case measure => simp [lenOf]; omega
end Go.Proofs.YtlnejmmhhmmomaaGreatDoor
namespace Go.Proofs.YtlnejmmhhmmomaaGreatDoor
open Go.RowKit Go.Shelf Go.Lib
def markB : ByteArray := ⟨#[109, 97, 114, 107]⟩
def cellsE (l : List (Bool × ByteArray)) : List Value := l.flatMap fun r => [.bool r.1, .string r.2]
theorem cellsE_length (l : List (Bool × ByteArray)) : (cellsE l).length = l.length * 2 := by
  induction l with
  | nil => rfl
  | cons u l ih => rw [cellsE, List.flatMap_cons, List.length_append, List.length_cons]; rw [cellsE] at ih; rw [ih]; simp; omega
theorem cellsE_append (l m : List (Bool × ByteArray)) : cellsE (l ++ m) = cellsE l ++ cellsE m := by simp [cellsE]
theorem cellsE_at (l : List (Bool × ByteArray)) : ∀ (k : Nat) (h : k < l.length), (cellsE l)[k * 2]? = some (.bool l[k].1) ∧ (cellsE l)[k * 2 + 1]? = some (.string l[k].2) := by
  induction l with
  | nil => intro k h; simp at h
  | cons u l ih =>
    intro k h
    have e : cellsE (u :: l) = .bool u.1 :: .string u.2 :: cellsE l := rfl
    cases k with
    | zero => rw [e]; simp
    | succ k =>
      have := ih k (by simpa using h)
      rw [e, show (k + 1) * 2 = k * 2 + 1 + 1 by omega, show k * 2 + 1 + 1 + 1 = (k * 2 + 1) + 1 + 1 by omega]
      simpa using this
theorem infoEdit : (Tryz.prog.info? 42).map (fun i => (i.zero, i.size, i.bytes)) = some (some (.agg #[.bool false, .string ⟨#[]⟩]), 2, 24) := by kernel_rfl
theorem infoSec : (Tryz.prog.info? 40).map (fun i => (i.zero, i.size, i.bytes)) = some (some (.agg #[.string ⟨#[]⟩, .string ⟨#[]⟩, .slice none 0 0]), 3, 56) := by kernel_rfl
/-- Edits in a row of one's own. -/
def OwnE (w : World) (base : Nat) (v : Value) (n : Nat) (l : List (Bool × ByteArray)) : Prop := w.ownsRow base 42 2 v n (cellsE l)
def marksE (j : Nat) : List (Bool × ByteArray) := List.replicate j (false, markB)
theorem marksE_succ (j : Nat) : marksE (j + 1) = marksE j ++ [(false, markB)] := by unfold marksE; rw [List.replicate_succ']
/-- A section, and where its edits lie. -/
structure SecAt where
  s : Sec
  blk : Nat
  cap : Nat
def cellsX (S : List SecAt) : List Value := S.flatMap fun x => [.string x.s.loc, .string x.s.par, .slice (some ⟨x.blk, 0, none⟩) x.s.ed.length x.cap]
def markX : Nat → List Value
  | 0 => []
  | m + 1 => markX m ++ [.string markB, .string ⟨#[]⟩, .slice none 0 0]
theorem cellsX_length (S : List SecAt) : (cellsX S).length = S.length * 3 := by
  induction S with
  | nil => rfl
  | cons u l ih =>
    have e : cellsX (u :: l) = .string u.s.loc :: .string u.s.par :: .slice (some ⟨u.blk, 0, none⟩) u.s.ed.length u.cap :: cellsX l := rfl
    rw [e]; simp [ih]; omega
theorem cellsX_append (l m : List SecAt) : cellsX (l ++ m) = cellsX l ++ cellsX m := by simp [cellsX]
theorem cellsX_at (S : List SecAt) : ∀ (k : Nat) (h : k < S.length), (cellsX S)[k * 3]? = some (.string S[k].s.loc) ∧ (cellsX S)[k * 3 + 1]? = some (.string S[k].s.par) ∧ (cellsX S)[k * 3 + 2]? = some (.slice (some ⟨S[k].blk, 0, none⟩) S[k].s.ed.length S[k].cap) := by
  induction S with
  | nil => intro k h; simp at h
  | cons u l ih =>
    intro k h
    have e : cellsX (u :: l) = .string u.s.loc :: .string u.s.par :: .slice (some ⟨u.blk, 0, none⟩) u.s.ed.length u.cap :: cellsX l := rfl
    cases k with
    | zero => rw [e]; simp
    | succ k =>
      have := ih k (by simpa using h)
      rw [e, show (k + 1) * 3 = k * 3 + 1 + 1 + 1 by omega, show k * 3 + 1 + 1 + 1 + 1 = (k * 3 + 1) + 1 + 1 + 1 by omega, show k * 3 + 1 + 1 + 1 + 2 = (k * 3 + 2) + 1 + 1 + 1 by omega]
      simpa using this
theorem markX_length : ∀ m, (markX m).length = m * 3
  | 0 => rfl
  | m + 1 => by rw [markX, List.length_append, markX_length m]; simp; omega
theorem markX_at : ∀ (m k : Nat), k < m → (markX m)[k * 3]? = some (.string markB)
  | 0, _, h => absurd h (Nat.not_lt_zero _)
  | m + 1, k, h => by
    rw [markX]
    by_cases e : k < m
    · rw [List.getElem?_append_left (by rw [markX_length]; omega)]
      exact markX_at m k e
    · have : k = m := by omega
      subst this
      rw [List.getElem?_append_right (by rw [markX_length]; omega), markX_length, Nat.sub_self]
      rfl
theorem own_blk {W W' : World} {lo t s n : Nat} {v : Value} {xs : List Value} (h : W.ownsRow lo t s v n xs) (hb : ∀ k, v.ownBlock = some k → W'.heap[k]? = W.heap[k]?) : W'.ownsRow lo t s v n xs := by
  refine ⟨h.1, ?_⟩
  rcases h.2 with h2 | ⟨g, cap, cur0, hv, hg, hr, r⟩
  · exact .inl h2
  · exact .inr ⟨g, cap, cur0, hv, hg, (hb g (by rw [hv]; rfl)).trans hr, r⟩
theorem owns_lower {w : World} {base base' : Nat} {e : TypeId} {size : Nat} {v : Value} {n : Nat} {xs : List Value} (h : w.ownsRow base e size v n xs) (hb : base' ≤ base) : w.ownsRow base' e size v n xs :=
  ⟨h.1, h.2.imp id (fun ⟨g, cap, cur, h1, h2, h3⟩ => ⟨g, cap, cur, h1, Nat.le_trans hb h2, h3⟩)⟩
/-- Sections of one's own, m marks behind them. -/
structure Giv (w : World) (lo : Nat) (v : Value) (S : List SecAt) (m : Nat) : Prop where
  row : w.ownsRow lo 40 3 v (S.length + m) (cellsX S ++ markX m)
  ed : ∀ x ∈ S, OwnE w lo (.slice (some ⟨x.blk, 0, none⟩) (x.s.ed.length + 64) x.cap) (x.s.ed.length + 64) (x.s.ed ++ marksE 64)
  ne : ∀ x ∈ S, v.ownBlock ≠ some x.blk
  pw : S.Pairwise fun x y => x.blk ≠ y.blk
theorem Giv.keep {w w' : World} {lo : Nat} {v : Value} {S : List SecAt} {m : Nat} (h : Giv w lo v S m) (hb : ∀ k, lo ≤ k → k < w.heap.size → w'.heap[k]? = w.heap[k]?) : Giv w' lo v S m :=
  ⟨own_blk h.row (fun k hk => hb k (World.ownsRow.lt h.row k hk).1 (World.ownsRow.lt h.row k hk).2), fun x hx => own_blk (h.ed x hx) (fun k hk => hb k (World.ownsRow.lt (h.ed x hx) k hk).1 (World.ownsRow.lt (h.ed x hx) k hk).2), h.ne, h.pw⟩
/-- The sections' row has grown: in its place, or into a new row. -/
theorem Giv.grown {w wa w' : World} {lo : Nat} {v v' : Value} {S S' : List SecAt} {m m' : Nat} (h : Giv w lo v S m) (hwa : ∀ k, lo ≤ k → k < w.heap.size → wa.heap[k]? = w.heap[k]?) (hg : wa.grownBy w' v.ownBlock)
    (hrow : w'.ownsRow lo 40 3 v' (S'.length + m') (cellsX S' ++ markX m')) (hat : v'.ownBlock = v.ownBlock ∨ ∃ g, v'.ownBlock = some g ∧ wa.heap.size ≤ g)
    (hS : ∀ x ∈ S', x ∈ S ∨ (OwnE wa lo (.slice (some ⟨x.blk, 0, none⟩) (x.s.ed.length + 64) x.cap) (x.s.ed.length + 64) (x.s.ed ++ marksE 64) ∧ w.heap.size ≤ x.blk)) (hp : S' = S ∨ ∃ x, S' = S ++ [x] ∧ w.heap.size ≤ x.blk) : Giv w' lo v' S' m' := by
  have key : ∀ x ∈ S', OwnE wa lo (.slice (some ⟨x.blk, 0, none⟩) (x.s.ed.length + 64) x.cap) (x.s.ed.length + 64) (x.s.ed ++ marksE 64) ∧ v.ownBlock ≠ some x.blk := fun x hx => by
    rcases hS x hx with h1 | ⟨h1, h2⟩
    · have l := World.ownsRow.lt (h.ed x h1) x.blk rfl
      exact ⟨own_blk (h.ed x h1) (fun k hk => by cases hk; exact hwa x.blk l.1 l.2), h.ne x h1⟩
    · refine ⟨h1, fun e => ?_⟩
      have := (World.ownsRow.lt h.row x.blk e).2
      omega
  refine ⟨hrow, fun x hx => own_blk (key x hx).1 (fun k hk => by cases hk; exact hg.block x.blk (World.ownsRow.lt (key x hx).1 x.blk rfl).2 (fun e => (key x hx).2 e.symm)), fun x hx => ?_, ?_⟩
  rotate_left
  · rcases hp with rfl | ⟨x, rfl, hx⟩
    · exact h.pw
    · refine List.pairwise_append.2 ⟨h.pw, List.pairwise_singleton _ _, fun y hy z hz => ?_⟩
      rw [List.mem_singleton] at hz
      subst hz
      have := (World.ownsRow.lt (h.ed y hy) y.blk rfl).2
      omega
  rcases hat with e | ⟨g, e, hg'⟩
  · rw [e]; exact (key x hx).2
  · rw [e]
    intro e2
    have := (World.ownsRow.lt (key x hx).1 x.blk rfl).2
    cases e2
    omega
theorem Giv.ea {w : World} {lo : Nat} {v : Value} {S : List SecAt} {m : Nat} (h : Giv w lo v S m) (x : SecAt) (hx : x ∈ S) : EA w (some ⟨x.blk, 0, none⟩) (x.s.ed ++ marksE 64) := ⟨fun k hk => by
  have h0 := h.ed x hx
  have hl : (x.s.ed ++ marksE 64).length = x.s.ed.length + 64 := by rw [List.length_append, marksE, List.length_replicate]
  have c := cellsE_at _ k hk
  refine ⟨x.blk, 0, rfl, (World.ownsRow.lt h0 x.blk rfl).2, ?_, ?_⟩
  · rw [Nat.zero_add, World.ownsRow.cellAt h0 _ (by omega)]; exact c.1
  · rw [Nat.zero_add, World.ownsRow.cellAt h0 _ (by omega)]; exact c.2⟩
theorem EA.front {w : World} {a : Option Addr} {L M : List (Bool × ByteArray)} (h : EA w a (L ++ M)) : EA w a L := ⟨fun k hk => by
  obtain ⟨b, off, e, h1, h2, h3⟩ := h.at' k (by simp; omega)
  rw [List.getElem_append_left hk] at h2 h3
  exact ⟨b, off, e, h1, h2, h3⟩⟩
theorem Giv.xa {w : World} {lo g n cap m : Nat} {S : List SecAt} (h : Giv w lo (.slice (some ⟨g, 0, none⟩) n cap) S m) (hn : n = S.length + m) : XA w (some ⟨g, 0, none⟩) (S.map (·.s)) := ⟨fun k hk => by
  subst hn
  have hk2 : k < S.length := by simpa using hk
  obtain ⟨c0, c1, c2⟩ := cellsX_at S k hk2
  have e : (S.map (·.s))[k] = S[k].s := by simp
  have hl := cellsX_length S
  rw [e]
  refine ⟨g, 0, some ⟨S[k].blk, 0, none⟩, S[k].cap, rfl, (World.ownsRow.lt h.row g rfl).2, ?_, ?_, ?_, (h.ea S[k] (List.getElem_mem hk2)).front⟩
  · rw [Nat.zero_add, World.ownsRow.cellAt h.row _ (by omega), List.getElem?_append_left (by omega)]; exact c0
  · rw [Nat.zero_add, World.ownsRow.cellAt h.row _ (by omega), List.getElem?_append_left (by omega)]; exact c1
  · rw [Nat.zero_add, World.ownsRow.cellAt h.row _ (by omega), List.getElem?_append_left (by omega)]; exact c2⟩
end Go.Proofs.YtlnejmmhhmmomaaGreatDoor
namespace Go.Proofs.YtlnejmmhhmmomaaGreatDoor
open Go.RowKit Go.Shelf Go.Lib
set_option maxRecDepth 10000 in
set_option maxHeartbeats 800000 in
theorem sameS (l : List ByteArray) (a b : Option Addr) (ca cb : Nat) (w : World) (hl : l.length ≤ 1000000000) (ha : SA w a l) (hb : SA w b l) :
    Calls Tryz.prog 8 #[.slice a l.length ca, .slice b l.length cb] w fun e w' => e = .returned (.bool true) ∧ ∃ n, w' = w.drewN n := by
  have HA := hid0 ha
  have HB := hid0 hb
  clear ha hb
  go_enter Tryz.func8, Tryz.ntmps8
  go_wp2
  go_loopw [5] (fun i wr => ∃ k : Nat, k ≤ l.length ∧ i = .int .i64 (k : Int) ∧ ∃ n, wr = w.drewN n) (fun i _ => l.length - (intOf i).toNat)
  case atStart => exact ⟨0, Nat.zero_le _, rfl, 0, rfl⟩
  case round =>
    obtain ⟨k, hk, rfl, nd, rfl⟩ := hrel
    by_cases hlt : k < l.length
    · obtain ⟨b1, o1, rfl, _, d1⟩ := HA.out.at' k hlt
      obtain ⟨b2, o2, rfl, _, d2⟩ := HB.out.at' k hlt
      have hkI : (k : Int) < (l.length : Int) := by omega
      have hkI0 : (0 : Int) ≤ (k : Int) := by omega
      generalize l[k] = s at *
      have hself : (s.toList == s.toList) = true := by simp
      go_wp2
      go_quiet ((fail))
      go_wp2
      go_roundw
      case rel => exact ⟨k + 1, by omega, by go_num, _, rfl⟩
      case measure => simp [intOf]; omega
    · have hkI : ¬ (k : Int) < (l.length : Int) := by omega
      go_wp2
      go_ret
      exact ⟨rfl, nd, rfl⟩
set_option maxRecDepth 10000 in
set_option maxHeartbeats 400000 in
theorem edits_any (l : List (Bool × ByteArray)) (a b : Option Addr) (ca cb : Nat) (w : World) (hl : l.length ≤ 1000000000) (ha : EA w a l) (hb : EA w b l) :
    Calls Tryz.prog 22 #[.slice a l.length ca, .slice b l.length cb] w fun e w' => e = .returned (.bool true) ∧ ∃ q, w' = w.drewN q := by
  have HA := hid0 ha
  have HB := hid0 hb
  clear ha hb
  go_enter Tryz.func22, Tryz.ntmps22
  go_wp2
  go_loopw [5] (fun i wr => ∃ k q : Nat, k ≤ l.length ∧ i = .int .i64 (k : Int) ∧ wr = w.drewN q) (fun i _ => l.length - (intOf i).toNat)
  case atStart => exact ⟨0, 0, Nat.zero_le _, rfl, rfl⟩
  case round =>
    obtain ⟨k, q, hk, rfl, rfl⟩ := hrel
    by_cases hlt : k < l.length
    · obtain ⟨b1, o1, rfl, _, c0, c1⟩ := HA.out.at' k hlt
      obtain ⟨b2, o2, rfl, _, d0, d1⟩ := HB.out.at' k hlt
      generalize l[k] = u at *
      clear HA HB
      go_wp2
      go_quiet ((fail))
      go_wp2
      go_roundw
      case rel => exact ⟨k + 1, _, hlt, by go_num, rfl⟩
      case measure => simp [intOf]; omega
    · have hk2 : ¬ (k : Int) < (l.length : Int) := by omega
      clear HA HB
      go_wp2
      go_ret
      exact ⟨rfl, q, rfl⟩
theorem app_nilE (w : World) (ty : TypeId) : (Builtin.append_ #[38, 38] ty #[.slice none 0 0, .slice none 0 0]).run Tryz.prog w = .ok (.slice none 0 0) w := by
  go_simp
theorem news_E {w : World} {ad : Addr} {L : List (Bool × ByteArray)} (ha : EA w (some ad) L) : ∀ j u, (cellsE L)[j]? = some u → w.cell? (ad.add j) = some u := by
  intro j u hu
  have hj : j < L.length * 2 := by have := (List.getElem?_eq_some_iff.1 hu).1; rwa [cellsE_length] at this
  obtain ⟨b, off, e, _, h1, h2⟩ := ha.at' (j / 2) (by omega)
  cases e
  rw [Addr.add_mid]
  obtain ⟨q0, q1⟩ := cellsE_at L (j / 2) (by omega)
  have h3 : j % 2 = 0 ∨ j % 2 = 1 := by omega
  rcases h3 with h3 | h3
  · have ej : j = j / 2 * 2 := by omega
    rw [ej] at hu
    rw [q0] at hu
    rw [show off + j = off + j / 2 * 2 by omega, h1]
    exact hu
  · have ej : j = j / 2 * 2 + 1 := by omega
    rw [ej] at hu
    rw [q1] at hu
    rw [show off + j = off + j / 2 * 2 + 1 by omega, h2]
    exact hu
/-- At a step of a region that draws its order: append of edits handed in onto nothing. -/
theorem step_spreadE {ops : Array Oper} {op : Oper} {a : Act} {w : World} {K : Act → World → Prop} {Q : Exit → Act → World → Prop} {E : Prop} (hgd : op.guard = none) (s x : Operand) (ho : op.op = .call { callee := .builtin .append, args := #[s, x], argTypes := #[38, 38] })
    (aN : Option Addr) (L : List (Bool × ByteArray)) (cN base : Nat) (hs : a.eval s = .slice none 0 0) (hx : a.eval x = .slice aN L.length cN) (hnil : aN = none → cN = 0) (ha : EA w aN L) (hl : L.length ≤ 1000000000) (hb : base ≤ w.heap.size)
    (h : ∀ v' w', OwnE w' base v' L.length L → w.grownBy w' none → K (a.put op.dst v') w') : if Region.wanted op (yielded ops a.tmps) = true then Oper.wp Tryz.prog op a w K Q else E := by
  have hw : Region.wanted op (yielded ops a.tmps) = true := by simp [Region.wanted, hgd]
  rw [if_pos hw]
  obtain ⟨i0, hi, hz0, hz1, hz2⟩ := info_parts infoEdit
  cases aN with
  | none =>
    have hL : L = [] := by
      cases L with
      | nil => rfl
      | cons y r => obtain ⟨b, off, e, _⟩ := ha.at' 0 (by simp); cases e
    subst hL
    have hc := hnil rfl
    subst hc
    have hr := app_nilE w op.type
    unfold Oper.wp execOp
    simp only [ho, resolve, invoke, builtin, Sem.run_bind, Sem.run_pure, Result.andThen_ok, List.map_toArray, List.map_cons, List.map_nil, hs, hx, List.length_nil, hr]
    exact h _ _ (World.ownsRow_nil _ _ _ _) ⟨rfl, rfl, rfl, Nat.le_refl _, fun _ _ _ => rfl⟩
  | some ad =>
    refine wp_append_own w s x 38 ho base 42 i0 (.agg #[.bool false, .string ⟨#[]⟩]) 2 24 Tryz.underlying38 hi hz0 hz1 hz2 rfl (by decide) (.slice none 0 0) 0 [] hs (World.ownsRow_nil _ _ _ _) ad L.length cN (cellsE L) hx (cellsE_length L) (news_E ha) (fun u hu => by simp only [cellsE, List.mem_flatMap, List.mem_cons, List.not_mem_nil, or_false] at hu; obtain ⟨y, _, rfl | rfl⟩ := hu <;> rfl) (by unfold maxLen; omega) (by omega) hb (fun v' w' h1 h2 _ => h v' w' (by rw [Nat.zero_add] at h1; exact h1) h2)
end Go.Proofs.YtlnejmmhhmmomaaGreatDoor
