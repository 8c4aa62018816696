/-
  The walk of bundle's checkEntry.
-/
import Derived.Test.YtbdjnmbhphflbaaGreatDoorLc3W
import Derived.Test.YtbdjnmbhphflbaaGreatDoorNearM
namespace Go.Proofs.YtbdjnmbhphflbaaGreatDoor
open Go.RowKit Go.Shelf Go.Lib
/-- What checkEntry answers: the number of the refusal. -/
def entF (l : List UInt8) : Option Nat := if (unitsOf l).any (fun u => u.1 == -1) = true then some 1 else if (unitsOf l).length = 0 then some 1 else if 32 < (unitsOf l).length then some 2 else none
theorem units_len (l : List UInt8) : ∀ (d k : Nat), l.length - k ≤ d → (unitsAt l k).length ≤ l.length - k
  | 0, k, h => by rw [unitsAt_end l k (by omega)]; simp
  | d + 1, k, h => by
    by_cases hk : k < l.length
    · have h1 := drop_size l k hk
      have ih := units_len l d (k + (uniOf (l.drop k)).2) (by omega)
      rw [unitsAt_step l k hk, List.length_cons]
      omega
    · rw [unitsAt_end l k (by omega)]; simp
set_option maxRecDepth 10000 in
set_option maxHeartbeats 400000 in
theorem next_end (s : ByteArray) (k : Nat) (h : (s.size : Int) ≤ (k : Int)) (w : World) :
    Calls Tryz.prog 71 #[.string s, .int .i64 (k : Int)] w fun e w' => e = .returned (.tuple #[noUnit, .bool false]) ∧ Below w.heap.size w w' := by
  go_enter Tryz.func71, Tryz.ntmps71
  go_wp2
  go_returns
  exact ⟨rfl, by go_grown⟩
/-- The loop's state: the unit at k lies at g; n units are ahead of it, none of them bad. -/
structure Ent (w W : World) (l : List UInt8) (g k n : Nat) (v0 v1 v2 : Int) : Prop where
  bel : Below w.heap.size w W
  row : W.heap[g]? = some (.cells #[.int .i64 v0, .int .i64 v1, .int .i64 v2] 108 (0, 0))
  lo : w.heap.size ≤ g
  cl : clean l k
  kl : k ≤ l.length
  cnt : ∃ pre, unitsOf l = pre ++ unitsAt l k ∧ pre.length = n ∧ ∀ u ∈ pre, u.1 ≠ -1
theorem cnt_next {l : List UInt8} {k n : Nat} (hk : k < l.length) (hb : (uniOf (l.drop k)).1 ≠ -1) (h : ∃ pre, unitsOf l = pre ++ unitsAt l k ∧ pre.length = n ∧ ∀ u ∈ pre, u.1 ≠ -1) :
    (∃ pre, unitsOf l = pre ++ unitsAt l (k + (uniOf (l.drop k)).2) ∧ pre.length = n + 1 ∧ ∀ u ∈ pre, u.1 ≠ -1) ∧ n + 1 ≤ l.length := by
  obtain ⟨pre, h1, h2, h3⟩ := h
  rw [unitsAt_step l k hk] at h1
  have hl := units_len l l.length 0 (by omega)
  have hl2 : (unitsOf l).length ≤ l.length := hl
  rw [h1, List.length_append, List.length_cons] at hl2
  refine ⟨⟨pre ++ [((uniOf (l.drop k)).1, k, k + (uniOf (l.drop k)).2)], by rw [h1]; simp, by simp [h2], fun u hu => ?_⟩, by omega⟩
  rcases List.mem_append.1 hu with hu | hu
  · exact h3 u hu
  · rw [List.mem_singleton.1 hu]; exact hb
theorem ent_bad {l : List UInt8} {k n : Nat} (hk : k < l.length) (hb : (uniOf (l.drop k)).1 = -1) (h : ∃ pre, unitsOf l = pre ++ unitsAt l k ∧ pre.length = n ∧ ∀ u ∈ pre, u.1 ≠ -1) : entF l = some 1 := by
  obtain ⟨pre, h1, _, _⟩ := h
  rw [unitsAt_step l k hk] at h1
  unfold entF
  rw [if_pos]
  rw [List.any_eq_true]
  exact ⟨((uniOf (l.drop k)).1, k, k + (uniOf (l.drop k)).2), by rw [h1]; simp, by simp [hb]⟩
theorem ent_end {l : List UInt8} {k n : Nat} (hk : ¬ k < l.length) (h : ∃ pre, unitsOf l = pre ++ unitsAt l k ∧ pre.length = n ∧ ∀ u ∈ pre, u.1 ≠ -1) : entF l = if n = 0 then some 1 else if 32 < n then some 2 else none := by
  obtain ⟨pre, h1, h2, h3⟩ := h
  rw [unitsAt_end l k (by omega), List.append_nil] at h1
  unfold entF
  rw [h1, h2, if_neg]
  rw [List.any_eq_true]
  rintro ⟨u, hu, e⟩
  exact h3 u hu (by simpa using e)
theorem set3_below {w W : World} {g : Nat} (h : Below w.heap.size w W) (hg : w.heap.size ≤ g) (a b c : Value) : Below w.heap.size w (((W.setCell ⟨g, 0, none⟩ a).setCell ⟨g, 1, none⟩ b).setCell ⟨g, 2, none⟩ c) := ((h.setCell (p := ⟨g, 0, none⟩) hg a).setCell (p := ⟨g, 1, none⟩) hg b).setCell (p := ⟨g, 2, none⟩) hg c
set_option maxRecDepth 10000 in
set_option maxHeartbeats 3200000 in
theorem entry_any (A : Nat → Addr) (s : ByteArray) (w : World) (hs : s.size ≤ 140737488355328) (hT : SeqAt w) (he : Sents w A) :
    Calls Tryz.prog 54 #[.string s] w fun e w' => e = .returned (errO A (entF s.data.toList)) ∧ Below w.heap.size w w' := by
  obtain ⟨l, hl⟩ : ∃ l, l = s.data.toList := ⟨_, rfl⟩
  have hll : l.length = s.size := by rw [hl]; simp
  have HIn : Hid (∀ k W, clean l k → k < l.length → Below w.heap.size w W → Calls Tryz.prog 71 #[.string s, .int .i64 (k : Int)] W fun e w' => e = .returned (.tuple #[unitVal (uniOf (l.drop k)).1 k (k + (uniOf (l.drop k)).2), .bool true]) ∧ Below W.heap.size W w') := hid0 (fun k W hc hk hW => by
    have h0 := next_in s k (by omega) hs W (hT.later hW)
    rw [← hl, nextVal, edge_clean hc, if_pos rfl] at h0
    exact h0)
  have HOut : Hid (∀ k W, l.length ≤ k → Calls Tryz.prog 71 #[.string s, .int .i64 (k : Int)] W fun e w' => e = .returned (.tuple #[noUnit, .bool false]) ∧ Below W.heap.size W w') := hid0 (fun k W hk => next_end s k (by omega) W)
  have HEr : Hid (∀ W, Below w.heap.size w W → W.cell? ⟨2, 0, none⟩ = some (.iface 192 (.pointer (some (A 1)))) ∧ W.cell? ⟨1, 0, none⟩ = some (.iface 192 (.pointer (some (A 2))))) := hid0 (fun W hW => ⟨(he.below hW).c1, (he.below hW).c2⟩)
  have HB0 := hid0 (Below.refl w.heap.size w)
  rw [← hl]
  have hlb : l.length ≤ 140737488355328 := by omega
  clear hT he hl hll
  -- what the first call answers
  have HF : Hid (∃ v0 v1 v2 : Int, Calls Tryz.prog 71 #[.string s, .int .i64 0] w (fun e w' => e = .returned (.tuple #[.agg #[.int .i64 v0, .int .i64 v1, .int .i64 v2], .bool (decide (0 < l.length))]) ∧ Below w.heap.size w w') ∧ (0 < l.length → v0 = (uniOf (l.drop 0)).1 ∧ v2 = ((0 + (uniOf (l.drop 0)).2 : Nat) : Int))) := hid0 (by
    by_cases h : 0 < l.length
    · refine ⟨_, _, _, by rw [decide_eq_true h]; exact HIn.out 0 w (clean_zero l) h HB0.out, fun _ => ⟨rfl, rfl⟩⟩
    · refine ⟨_, _, _, by rw [decide_eq_false h]; exact HOut.out 0 w (by omega), fun h' => absurd h' h⟩)
  obtain ⟨v0, v1, v2, hF, hv⟩ := HF.out
  have HF1 := hid0 hF
  have HV1 := hid0 hv
  clear HF hF hv
  go_enter Tryz.func54, Tryz.ntmps54
  go_wp2_with (first
    | (go_at_call 71; refine HF1.out.mono ?_; rintro e w1 ⟨rfl, hb1⟩; have HB1 := hid0 hb1; clear hb1)
    | fail)
  have HE1 : Hid (Ent w (w1.alloc (.cells #[.int .i64 v0, .int .i64 v1, .int .i64 v2] 108)) l w1.heap.size 0 0 v0 v1 v2) := hid0 ⟨HB1.out.alloc HB1.out.size _, heap_alloc_new w1 _, HB1.out.size, clean_zero l, Nat.zero_le _, ⟨[], rfl, rfl, fun u h => by simp at h⟩⟩
  go_loopw [3, 4, 5] (fun t3 t4 t5 wr => ∃ (n k g : Nat) (v0 v1 v2 : Int), t3 = .int .i64 (n : Int) ∧ t4 = .pointer (some ⟨g, 0, none⟩) ∧ t5 = .bool (decide (k < l.length)) ∧ n ≤ l.length ∧ Hid (k < l.length → v0 = (uniOf (l.drop k)).1 ∧ v2 = ((k + (uniOf (l.drop k)).2 : Nat) : Int)) ∧ Hid (Ent w wr l g k n v0 v1 v2)) (fun t3 _ _ _ => l.length + 1 - (intOf t3).toNat)
  case atStart => exact ⟨0, 0, _, _, _, _, rfl, rfl, rfl, Nat.zero_le _, HV1, HE1⟩
  case round =>
    clear HE1 HB1 HF1 HV1
    obtain ⟨n, k, g, v0, v1, v2, rfl, rfl, rfl, hn, HV, HE⟩ := hrel
    obtain ⟨⟨c0, c1, c2⟩, f0, f1, f2⟩ := row3 HE.out.row
    obtain ⟨e1, e2⟩ := HEr.out wr HE.out.bel
    by_cases hk : k < l.length
    · rw [decide_eq_true hk]
      obtain ⟨rfl, rfl⟩ := HV.out hk
      have HD := hid0 (drop_size l k hk)
      by_cases hbad : (uniOf (l.drop k)).1 = -1
      · have HR := hid0 (ent_bad hk hbad HE.out.cnt)
        rw [hbad] at c0
        clear HD
        go_wp2
        go_ret
        exact ⟨by rw [HR.out]; rfl, HE.out.bel⟩
      · have HC := hid0 (cnt_next hk hbad HE.out.cnt)
        have hn2 := HC.out.2
        have HCl := hid0 (clean_next HE.out.cl)
        have hkl := HD.out.2.1
        have HW : Hid (Below w.heap.size w (wr.alloc (.cells #[.int .i64 (uniOf (l.drop k)).1, .int .i64 v1, .int .i64 ((k + (uniOf (l.drop k)).2 : Nat) : Int)] 108))) := hid0 (HE.out.bel.alloc HE.out.bel.size _)
        have HNx : Hid (∃ y0 y1 y2 : Int, Calls Tryz.prog 71 #[.string s, .int .i64 ((k + (uniOf (l.drop k)).2 : Nat) : Int)] (wr.alloc (.cells #[.int .i64 (uniOf (l.drop k)).1, .int .i64 v1, .int .i64 ((k + (uniOf (l.drop k)).2 : Nat) : Int)] 108)) (fun e w' => e = .returned (.tuple #[.agg #[.int .i64 y0, .int .i64 y1, .int .i64 y2], .bool (decide (k + (uniOf (l.drop k)).2 < l.length))]) ∧ Below (wr.alloc (.cells #[.int .i64 (uniOf (l.drop k)).1, .int .i64 v1, .int .i64 ((k + (uniOf (l.drop k)).2 : Nat) : Int)] 108)).heap.size (wr.alloc (.cells #[.int .i64 (uniOf (l.drop k)).1, .int .i64 v1, .int .i64 ((k + (uniOf (l.drop k)).2 : Nat) : Int)] 108)) w') ∧ (k + (uniOf (l.drop k)).2 < l.length → y0 = (uniOf (l.drop (k + (uniOf (l.drop k)).2))).1 ∧ y2 = ((k + (uniOf (l.drop k)).2 + (uniOf (l.drop (k + (uniOf (l.drop k)).2))).2 : Nat) : Int))) := hid0 (by
          by_cases h : k + (uniOf (l.drop k)).2 < l.length
          · exact ⟨_, _, _, by rw [decide_eq_true h]; exact HIn.out _ _ HCl.out h HW.out, fun _ => ⟨rfl, rfl⟩⟩
          · exact ⟨_, _, _, by rw [decide_eq_false h]; exact HOut.out _ _ (by omega), fun h' => absurd h' h⟩)
        obtain ⟨y0, y1, y2, hq, hy⟩ := HNx.out
        have HQ := hid0 hq
        have HY := hid0 hy
        clear HNx hq hy HIn HOut HV
        generalize hk2 : k + (uniOf (l.drop k)).2 = k2 at *
        generalize (uniOf (l.drop k)).1 = p at *
        clear HD hk2
        go_wp2_with (first
          | (go_at_call 71; refine HQ.out.mono ?_; rintro e w5 ⟨rfl, hb5⟩; have HR5 := hid0 (boxRow hb5); have HB5 := hid0 (HW.out.trans (hb5.mono HW.out.size)); obtain ⟨⟨d0, d1, d2⟩, g0, g1, g2⟩ := row3 HR5.out; clear hb5)
          | fail)
        have HE6 := hid0 (Ent.mk (set3_below HB5.out HE.out.bel.size (.int .i64 y0) (.int .i64 y1) (.int .i64 y2)) (set3 (.int .i64 y0) (.int .i64 y1) (.int .i64 y2) HR5.out) HE.out.bel.size HCl.out hkl HC.out.1)
        go_roundw
        case rel => exact ⟨n + 1, k2, wr.heap.size, y0, y1, y2, by go_num, rfl, rfl, hn2, HY, HE6⟩
        case measure => simp [intOf]; omega
    · rw [decide_eq_false hk]
      have HR := hid0 (ent_end hk HE.out.cnt)
      by_cases h0 : n = 0
      · have h0I : (n : Int) = 0 := by omega
        rw [h0] at HR
        simp only [if_true] at HR
        go_wp2
        go_ret
        exact ⟨by rw [HR.out]; rfl, HE.out.bel⟩
      · have h0I : ¬ (n : Int) = 0 := by omega
        rw [if_neg h0] at HR
        by_cases h3 : 32 < n
        · have h3I : (32 : Int) < (n : Int) := by omega
          rw [if_pos h3] at HR
          go_wp2
          go_ret
          exact ⟨by rw [HR.out]; rfl, HE.out.bel⟩
        · have h3I : ¬ (32 : Int) < (n : Int) := by omega
          rw [if_neg h3] at HR
          go_wp2
          go_ret
          exact ⟨by rw [HR.out]; rfl, HE.out.bel⟩
end Go.Proofs.YtbdjnmbhphflbaaGreatDoor
