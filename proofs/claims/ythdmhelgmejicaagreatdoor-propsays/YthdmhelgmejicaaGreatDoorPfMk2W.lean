/-
  The walk of (*propfile.reading).mark.
-/
import Derived.Test.YthdmhelgmejicaaGreatDoorPfMkW
import Derived.Laws.Bits64b
namespace Go.Proofs.YthdmhelgmejicaaGreatDoor
open Go.RowKit Go.Shelf
/-- The bits of what was said. -/
structure Bits (w : World) (R G N cap : Nat) (f : Nat → Bool) : Prop where
  sv : w.cell? ⟨R, 3, none⟩ = some (.slice (some ⟨G, 0, none⟩) N cap)
  row : ∃ cur, w.heap[G]? = some (.cells cur 151 (0, 0)) ∧ ∀ i, i < N → cur[i]? = some (.int .u64 (wordOf f i : Int))
  ne : ¬ R = G
theorem Bits.cell {w : World} {R G N cap : Nat} {f : Nat → Bool} (h : Bits w R G N cap f) (i : Nat) (hi : i < N) : w.cell? ⟨G, i, none⟩ = some (.int .u64 (wordOf f i : Int)) ∧ w.frozen? ⟨G, i, none⟩ = false := by
  obtain ⟨cur, h1, h2⟩ := h.row
  exact ⟨by rw [cell_of_row _ G _ _ _ _ h1]; exact h2 i hi, frozen_of_row _ G _ _ _ h1⟩
theorem Bits.set {w : World} {R G N cap : Nat} {f : Nat → Bool} (h : Bits w R G N cap f) (p : Nat) : Bits (w.setCell ⟨G, p / 64, none⟩ (.int .u64 (wordOf (fun q => decide (q = p) || f q) (p / 64) : Int))) R G N cap (fun q => decide (q = p) || f q) := by
  obtain ⟨cur, h1, h2⟩ := h.row
  refine ⟨?_, ⟨_, heap_setCell_same w G (p / 64) _ _ _ h1, fun i hi => ?_⟩, h.ne⟩
  · rw [World.cell?_of_block (w := w) (w' := w.setCell ⟨G, p / 64, none⟩ _) (a := ⟨R, 3, none⟩) (heap_setCell_other w ⟨G, p / 64, none⟩ R _ h.ne)]
    exact h.sv
  · by_cases e : i = p / 64
    · subst e
      have : p / 64 < cur.size := (Array.getElem?_eq_some_iff.1 (h2 _ hi)).1
      simp [this]
    · rw [Array.getElem?_setIfInBounds_ne (fun e' => e e'.symm), h2 i hi, word_other f p i e]
theorem Bits.below {w w' : World} {R G N cap : Nat} {f : Nat → Bool} (h : Bits w R G N cap f) (hb : Below w.heap.size w w') : Bits w' R G N cap f := by
  obtain ⟨cur, h1, h2⟩ := h.row
  exact ⟨(hb.cell (p := ⟨R, 3, none⟩) (World.block_lt_of_cell? w _ h.sv)).trans h.sv, ⟨cur, (hb.block G (Array.getElem?_eq_some_iff.1 h1).1).trans h1, h2⟩, h.ne⟩
theorem Bits.drewN {w : World} {R G N cap : Nat} {f : Nat → Bool} (h : Bits w R G N cap f) (n : Nat) : Bits (w.drewN n) R G N cap f := ⟨h.sv, h.row, h.ne⟩
set_option maxRecDepth 10000 in
set_option maxHeartbeats 800000 in
theorem mark_any (lo hi : Nat) (R G N cap : Nat) (hh : hi < 64 * N) (hN : N ≤ 1000000) (f : Nat → Bool) (w : World) (h : Bits w R G N cap f) :
    Calls Tryz.prog 85 #[.pointer (some ⟨R, 0, none⟩), .agg #[.int .i64 (lo : Int), .int .i64 (hi : Int)]] w fun e w' => Only w w' (fun i => i = G) ∧ ((e = .returned (.bool true) ∧ (∀ q, lo ≤ q → q ≤ hi → f q = false) ∧ Bits w' R G N cap (fun q => (decide (lo ≤ q) && decide (q ≤ hi)) || f q)) ∨ (e = .returned (.bool false) ∧ ∃ q, lo ≤ q ∧ q ≤ hi ∧ f q = true)) := by
  have hGlt : G < w.heap.size := by obtain ⟨cur, h1, _⟩ := h.row; exact (Array.getElem?_eq_some_iff.1 h1).1
  have HS := hid0 h
  clear h
  go_enter Tryz.func85, Tryz.ntmps85
  go_wp2
  go_loopw [5] (fun i wr => ∃ p : Nat, lo ≤ p ∧ (lo ≤ hi → p ≤ hi + 1) ∧ (hi < lo → p = lo) ∧ i = .int .i64 (p : Int) ∧ Hid (∀ q, lo ≤ q → q < p → f q = false) ∧ Hid (Bits wr R G N cap (fun q => (decide (lo ≤ q) && decide (q < p)) || f q)) ∧ Hid (Only w wr (fun i => i = G)) ∧ wr.cell? ⟨w.heap.size, 1, none⟩ = some (.int .i64 (hi : Int)) ∧ Hid (w.heap.size < wr.heap.size)) (fun i _ => hi + 1 - (intOf i).toNat)
  case atStart =>
    refine ⟨lo, Nat.le_refl _, fun h => by omega, fun _ => rfl, rfl, fun q h1 h2 => by omega, ?_, Only.alloc _ _ _, ?_, hid0 (by simp)⟩
    · have e : (fun q => (decide (lo ≤ q) && decide (q < lo)) || f q) = f := by
        funext q
        have : (decide (lo ≤ q) && decide (q < lo)) = false := by simp
        rw [this, Bool.false_or]
      rw [e]
      exact HS.out.below ((Below.refl _ _).alloc (Nat.le_refl _) _)
    · rw [cell_of_row _ w.heap.size _ _ _ _ (heap_alloc_new w _)]; rfl
  case round =>
    obtain ⟨p, hlp, hp1, hp2, rfl, HF, HB, HO, hbox, HZ⟩ := hrel
    by_cases hle : p ≤ hi
    · have hleI : (p : Int) ≤ (hi : Int) := by omega
      have hp0 : (0 : Int) ≤ (p : Int) := by omega
      obtain ⟨d, hd⟩ : ∃ d : Nat, d = p / 64 := ⟨_, rfl⟩
      obtain ⟨b, hb⟩ : ∃ b : Nat, b = 2 ^ (p % 64) := ⟨_, rfl⟩
      obtain ⟨k0, k1⟩ := HB.out.cell d (by omega)
      have ksv := HB.out.sv
      have hdI : (p : Int) / 64 = (d : Int) := by omega
      have hdI1 : (d : Int) < (N : Int) := by omega
      have hdI0 : (0 : Int) ≤ (d : Int) := by omega
      have hmI : (0 : Int) ≤ (p : Int) % 64 := by omega
      have hmI2 : (p : Int) % 64 < 64 := by omega
      have hbl : b < 18446744073709551616 := by
        rw [hb]; exact Nat.lt_of_lt_of_le (Nat.pow_lt_pow_right (by omega) (Nat.mod_lt p (by omega) : p % 64 < 64)) (by decide)
      have hwb : IntKind.u64.wrap (2 ^ (p % 64)) = (b : Int) := by
        rw [hb, IntKind.wrap_u64]
        have e : (2 : Int) ^ (p % 64) = ((2 ^ (p % 64) : Nat) : Int) := by simp
        rw [e]
        rw [hb] at hbl
        omega
      obtain ⟨a, ha⟩ : ∃ a : Nat, a = wordOf (fun q => (decide (lo ≤ q) && decide (q < p)) || f q) d := ⟨_, rfl⟩
      rw [← ha] at k0
      have HBb := hid0 hb
      have HDd := hid0 hd
      have HAa := hid0 ha
      have HBl := hid0 hbl
      obtain ⟨aI, haI⟩ : ∃ aI : Int, (a : Int) = aI := ⟨_, rfl⟩
      obtain ⟨bI, hbI⟩ : ∃ bI : Int, (b : Int) = bI := ⟨_, rfl⟩
      have hal : a < 18446744073709551616 := by rw [ha]; exact wordOf_lt _ _
      obtain ⟨cI, hcI⟩ : ∃ cI : Int, ((a &&& b : Nat) : Int) = cI := ⟨_, rfl⟩
      obtain ⟨eI, heI⟩ : ∃ eI : Int, ((a ||| b : Nat) : Int) = eI := ⟨_, rfl⟩
      have hand : bits .and .u64 aI bI = cI := by rw [← haI, ← hbI, ← hcI]; exact bits_and_u64_nat a b hal hbl
      have hor : bits .or .u64 aI bI = eI := by rw [← haI, ← hbI, ← heI]; exact bits_or_u64_nat a b hal hbl
      have hpd : 64 * (p / 64) + p % 64 = p := by omega
      have hcur : ((decide (lo ≤ p) && decide (p < p)) || f p) = f p := by simp
      have hz := word_and (fun q => (decide (lo ≤ q) && decide (q < p)) || f q) p
      rw [← hd, ← ha, ← hb, hcur] at hz
      have hs := word_or (fun q => (decide (lo ≤ q) && decide (q < p)) || f q) p
      rw [← hd, ← ha, ← hb] at hs
      have HS2 : Hid (∀ n, Bits ((wr.drewN n).setCell ⟨G, d, none⟩ (.int .u64 eI)) R G N cap (fun q => (decide (lo ≤ q) && decide (q < p + 1)) || f q)) := hid0 (fun n => by
        have h1 := (HB.out.drewN n).set p
        have e : (fun q => decide (q = p) || ((decide (lo ≤ q) && decide (q < p)) || f q)) = (fun q => (decide (lo ≤ q) && decide (q < p + 1)) || f q) := by
          funext q
          rw [← Bool.or_assoc]
          congr 1
          rw [Bool.eq_iff_iff]; simp; omega
        rw [← hd, ← hs, e, heI] at h1
        exact h1)
      have HO2 : Hid (∀ n, Only w ((wr.drewN n).setCell ⟨G, d, none⟩ (.int .u64 eI)) (fun i => i = G)) := hid0 (fun n => (HO.out.trans (Only.drewN _ n _) (fun i hi => .inl hi)).trans (Only.setCell _ G d _) (fun i hi => .inl hi))
      have HX2 : Hid (∀ n, ((wr.drewN n).setCell ⟨G, d, none⟩ (.int .u64 eI)).cell? ⟨w.heap.size, 1, none⟩ = some (.int .i64 (hi : Int))) := hid0 (fun n => by
        rw [World.cell?_of_block (w := wr.drewN n) (w' := (wr.drewN n).setCell ⟨G, d, none⟩ (.int .u64 eI)) (a := ⟨w.heap.size, 1, none⟩) (heap_setCell_other _ ⟨G, d, none⟩ _ _ (by simp; omega))]
        exact hbox)
      rw [haI] at k0
      rw [hbI] at hwb
      by_cases hfp : f p = true
      · have hcB : (cI == 0) = false := by
          rw [← hcI]
          have : ¬ (a &&& b) = 0 := fun h => by rw [hz.1 h] at hfp; simp at hfp
          simp only [beq_eq_false_iff_ne, ne_eq]; omega
        have HFp := hid0 hfp
        clear hb hd ha hbl hp1 hp2 hh haI hbI hcI heI hal hz hs hpd hcur HS2 HO2 HX2 hfp HB
        go_wp2
        go_quiet ((fail))
        go_wp2
        go_ret
        exact ⟨HO.out.trans (Only.drewN _ _ _) (fun i hi => .inl hi), .inr ⟨rfl, p, hlp, hle, HFp.out⟩⟩
      · have hfp' : f p = false := by simpa using hfp
        have hc0 : cI = 0 := by rw [← hcI, hz.2 hfp']; rfl
        rw [hc0] at hand
        have HF2 : Hid (∀ q, lo ≤ q → q < p + 1 → f q = false) := hid0 (fun q h1 h2 => by
          by_cases e : q = p
          · subst e; exact hfp'
          · exact HF.out q h1 (by omega))
        have HZ2 : Hid (lo ≤ hi → p + 1 ≤ hi + 1) := hid0 (fun _ => by omega)
        clear hb hd ha hbl hp1 hp2 hh haI hbI hcI heI hal hz hs hpd hcur hfp hfp' hc0 HB HF
        go_wp2
        go_quiet ((fail))
        go_wp2
        go_roundw
        case rel => exact ⟨p + 1, by omega, HZ2.out, fun h => by omega, by go_num, HF2, HS2.out _, HO2.out _, HX2.out _, hid0 (by have := HZ.out; simpa using this)⟩
        case measure => simp [intOf]; omega
    · have hleI : ¬ (p : Int) ≤ (hi : Int) := by omega
      have HR : Hid (Bits wr R G N cap (fun q => (decide (lo ≤ q) && decide (q ≤ hi)) || f q)) := hid0 (by
        have e : (fun q => (decide (lo ≤ q) && decide (q ≤ hi)) || f q) = (fun q => (decide (lo ≤ q) && decide (q < p)) || f q) := by
          funext q
          have : (decide (lo ≤ q) && decide (q ≤ hi)) = (decide (lo ≤ q) && decide (q < p)) := by
            by_cases hlh : lo ≤ hi
            · have := hp1 hlh
              rw [Bool.eq_iff_iff]; simp; omega
            · have := hp2 (by omega)
              rw [Bool.eq_iff_iff]; simp; omega
          rw [this]
        rw [e]; exact HB.out)
      have HF2 : Hid (∀ q, lo ≤ q → q ≤ hi → f q = false) := hid0 (fun q h1 h2 => HF.out q h1 (by omega))
      clear HB HF
      go_wp2
      go_ret
      exact ⟨HO.out, .inl ⟨rfl, HF2.out, HR.out⟩⟩
end Go.Proofs.YthdmhelgmejicaaGreatDoor
