/-
  Cases that may be, as the program and the document ask it (stage 23).
-/
import Derived.Test.YtcbepmjojppokaaGreatDoorMrBW
import Derived.Test.YtcbepmjojppokaaGreatDoorEncodeW
namespace Go.Proofs.YtcbepmjojppokaaGreatDoor
open Go.RowKit Go.Shelf
theorem IA.pa {w : World} {a : Option Addr} {L : List Int} (h : IA w a L) : PA w a L := ⟨fun k hk => by
  obtain ⟨b, off, e, _, h2⟩ := h.at' k hk
  exact ⟨b, off, e, h2⟩⟩
set_option maxRecDepth 10000 in
set_option maxHeartbeats 1600000 in
theorem allScalar_any (ps : List Int) (a : Option Addr) (cap : Nat) (pe : Addr) (w : World) (hl : ps.length ≤ 20000000) (ha : IA w a ps) (hE : w.cell? ⟨1, 0, none⟩ = some (.iface 189 (.pointer (some pe)))) :
    Calls Tryz.prog 37 #[.slice a ps.length cap] w fun e w' => e = .returned (.bool (ps.all scalarP)) ∧ Hid (Below w.heap.size w w') := by
  have HC := hid0 (encode_any ps a cap pe hl w ha.pa hE)
  clear ha hE
  obtain ⟨n, hn⟩ : ∃ n, n = ps.length := ⟨_, rfl⟩
  rw [← hn] at HC ⊢
  clear hn
  unfold encVal at HC
  generalize encAll ps = bs at *
  cases hq : ps.all scalarP with
  | true =>
    rw [hq] at HC
    simp only [if_true] at HC
    go_enter Tryz.func37, Tryz.ntmps37
    go_wp2_with (go_at_call 54; go_loud ((refine HC.out.mono ?_; rintro e w1 ⟨rfl, h1⟩; have H1 := hid0 h1; clear h1)))
    go_ret
    exact ⟨rfl, H1⟩
  | false =>
    rw [hq] at HC
    simp only [Bool.false_eq_true, if_false] at HC
    go_enter Tryz.func37, Tryz.ntmps37
    go_wp2_with (go_at_call 54; go_loud ((refine HC.out.mono ?_; rintro e w1 ⟨rfl, h1⟩; have H1 := hid0 h1; clear h1)))
    go_ret
    exact ⟨rfl, H1⟩
set_option maxRecDepth 10000 in
set_option maxHeartbeats 1600000 in
theorem rise_any (L : List Int) (last : Int) (a : Option Addr) (cap : Nat) (w : World) (hl : L.length ≤ 1000000000) (h0 : 0 ≤ last) (h1 : last ≤ 1000000000) (ha : IA w a L) :
    Calls Tryz.prog 38 #[.slice a L.length cap, .int .i64 last] w fun e w' => e = .returned (.bool (riseF (last + 1) 0 L)) ∧ ∃ q, w' = w.drewN q := by
  have HA := hid0 ha
  obtain ⟨n, hn⟩ : ∃ n, n = L.length := ⟨_, rfl⟩
  have HN := hid0 hn
  have H0 : Hid (riseF (last + 1) 0 L = riseF (last + 1) ((-1 : Int) + 1) (L.drop 0)) := hid0 rfl
  rw [← hn] at hl ⊢
  clear ha hn
  go_enter Tryz.func38, Tryz.ntmps38
  go_wp2
  go_loopw [5, 10] (fun u v wr => ∃ (k : Nat) (z : Int), k ≤ n ∧ v = .int .i64 (k : Int) ∧ u = .int .i64 z ∧ -1 ≤ z ∧ z ≤ 1000000000 ∧ Hid (riseF (last + 1) 0 L = riseF (last + 1) (z + 1) (L.drop k)) ∧ ∃ q, wr = w.drewN q) (fun _ v _ => n - (intOf v).toNat)
  case atStart => exact ⟨0, -1, Nat.zero_le _, rfl, rfl, by omega, by omega, H0, 0, rfl⟩
  case round =>
    clear H0
    obtain ⟨k, z, hk, rfl, rfl, hz1, hz2, HR, q, rfl⟩ := hrel
    by_cases hlt : k < n
    · have hkI : (k : Int) < (n : Int) := by omega
      have hkI0 : (0 : Int) ≤ (k : Int) := by omega
      have hkr : k < L.length := by rw [← HN.out]; exact hlt
      obtain ⟨b, off, rfl, _, d0⟩ := HA.out.at' k hkr
      have hd := riseF_drop (cnt := last + 1) (lo := z + 1) hkr
      obtain ⟨y, hy⟩ : ∃ y, y = L[k] := ⟨_, rfl⟩
      rw [← hy] at d0 hd
      have HD := hid0 hd
      clear hd hy
      by_cases h1 : y ≤ z
      · have HF : Hid (riseF (last + 1) 0 L = false) := hid0 (by rw [HR.out, HD.out, decide_eq_false (by omega)]; rfl)
        clear HR HD
        go_wp2
        go_ret
        exact ⟨by rw [HF.out]; rfl, _, rfl⟩
      · by_cases h2 : y > last
        · have HF : Hid (riseF (last + 1) 0 L = false) := hid0 (by rw [HR.out, HD.out, decide_eq_false (p := y < last + 1) (by omega)]; simp)
          clear HR HD
          go_wp2
          go_ret
          exact ⟨by rw [HF.out]; rfl, _, rfl⟩
        · have HF : Hid (riseF (last + 1) 0 L = riseF (last + 1) (y + 1) (L.drop (k + 1))) := hid0 (by rw [HR.out, HD.out, decide_eq_true (p := z + 1 ≤ y) (by omega), decide_eq_true (p := y < last + 1) (by omega)]; rfl)
          clear HR HD
          go_wp2
          go_roundw
          case rel => exact ⟨k + 1, y, by omega, by go_num, rfl, by omega, by omega, HF, _, rfl⟩
          case measure => simp [intOf]; omega
    · have hkI : ¬ (k : Int) < (n : Int) := by omega
      have HF : Hid (riseF (last + 1) 0 L = true) := hid0 (by rw [HR.out]; exact riseF_end (by have := HN.out; omega))
      clear HR
      go_wp2
      go_ret
      exact ⟨by rw [HF.out]; rfl, _, rfl⟩
/-- May a case be so? -/
def mayC (P B : List Int) : Bool := P.all scalarP && riseF ((P.length : Int) + 1) 0 B
set_option maxRecDepth 10000 in
set_option maxHeartbeats 1600000 in
theorem mayBe_any (P B : List Int) (aP aB : Option Addr) (cP cB : Nat) (pe : Addr) (w : World) (hl : P.length ≤ 20000000) (hb : B.length ≤ 1000000000) (hP : IA w aP P) (hB : IA w aB B) (hE : w.cell? ⟨1, 0, none⟩ = some (.iface 189 (.pointer (some pe)))) :
    Calls Tryz.prog 23 #[.agg #[.slice aP P.length cP, .slice aB B.length cB]] w fun e w' => e = .returned (.bool (mayC P B)) ∧ Hid (Below w.heap.size w w') := by
  obtain ⟨w0, hw0⟩ : ∃ w0, w0 = w.alloc (.cells #[.slice aP P.length cP, .slice aB B.length cB] 50) := ⟨_, rfl⟩
  have hb0 : Below w.heap.size w w0 := by rw [hw0]; exact (Below.refl _ _).alloc (Nat.le_refl _) _
  have hr0 : w0.heap[w.heap.size]? = some (.cells #[.slice aP P.length cP, .slice aB B.length cB] 50 (0, 0)) := by rw [hw0]; exact heap_alloc_new w _
  have HX : Hid (∀ V, Below w0.heap.size w0 V → V.cell? ⟨w.heap.size, 0, none⟩ = some (.slice aP P.length cP) ∧ V.cell? ⟨w.heap.size, 1, none⟩ = some (.slice aB B.length cB)) := hid0 (fun V hV => by
    have hr := (hV.block _ (Array.getElem?_eq_some_iff.1 hr0).1).trans hr0
    exact ⟨by rw [cell_of_row _ _ _ _ _ _ hr]; rfl, by rw [cell_of_row _ _ _ _ _ _ hr]; rfl⟩)
  have HS := hid0 (allScalar_any P aP cP pe w0 hl (hP.past hb0) ((hb0.cell (p := ⟨1, 0, none⟩) (World.block_lt_of_cell? w _ hE)).trans hE))
  have HR : Hid (∀ V, Below w0.heap.size w0 V → Calls Tryz.prog 38 #[.slice aB B.length cB, .int .i64 (P.length : Int)] V fun e w' => e = .returned (.bool (riseF ((P.length : Int) + 1) 0 B)) ∧ ∃ q, w' = V.drewN q) := hid0 (fun V hV => rise_any B (P.length : Int) aB cB V hb (by omega) (by omega) ((hB.past hb0).past hV))
  obtain ⟨x0, x1⟩ := HX.out w0 (Below.refl _ _)
  have HB0 := hid0 hb0
  have hfold := hw0.symm
  have HM : Hid (mayC P B = (P.all scalarP && riseF ((P.length : Int) + 1) 0 B)) := hid0 rfl
  clear hw0 hb0 hr0 hP hB hE
  generalize mayC P B = mm at *
  generalize P.length = n at *
  generalize B.length = m at *
  generalize riseF ((n : Int) + 1) 0 B = rr at *
  cases hq : P.all scalarP with
  | false =>
    rw [hq] at HS HM
    have HM2 : Hid (mm = false) := hid0 HM.out
    clear hq HM
    go_enter Tryz.func23, Tryz.ntmps23
    go_wp2_with (go_at_call 37; go_loud ((refine HS.out.mono ?_; rintro e w1 ⟨rfl, H1⟩)))
    go_ret
    exact ⟨by rw [HM2.out]; rfl, hid0 (HB0.out.trans (H1.out.mono HB0.out.size))⟩
  | true =>
    rw [hq] at HS HM
    have HM2 : Hid (mm = rr) := hid0 (by rw [HM.out]; exact Bool.true_and _)
    clear hq HM
    go_enter Tryz.func23, Tryz.ntmps23
    go_wp2_with (first
      | (go_at_call 37; go_loud ((refine HS.out.mono ?_; rintro e w1 ⟨rfl, H1⟩; clear x0 x1; obtain ⟨x0, x1⟩ := HX.out w1 H1.out)))
      | (go_at_call 38; go_loud ((refine (HR.out w1 H1.out).mono ?_; rintro e w2 ⟨rfl, q2, hw2⟩; subst hw2))))
    go_ret
    exact ⟨by rw [HM2.out]; rfl, hid0 (below_drew' (HB0.out.trans (H1.out.mono HB0.out.size)) _)⟩
set_option maxRecDepth 10000 in
set_option maxHeartbeats 800000 in
theorem refScalar_any (p : Int) (w : World) :
    Calls Tryz.prog 36 #[.int .i64 p] w fun e w' => e = .returned (.bool (scalarP p)) ∧ w' = w := by
  unfold scalarP
  by_cases h1 : 0 ≤ p
  · by_cases h2 : p ≤ 1114111
    · by_cases h3 : p < 55296
      · simp only [decide_eq_true h1, decide_eq_true h2, decide_eq_true h3]
        go_enter Tryz.func36, Tryz.ntmps36
        go_wp2
        go_ret
        exact ⟨rfl, rfl⟩
      · by_cases h4 : 57343 < p
        · simp only [decide_eq_true h1, decide_eq_true h2, decide_eq_false h3, decide_eq_true h4]
          go_enter Tryz.func36, Tryz.ntmps36
          go_wp2
          go_ret
          exact ⟨rfl, rfl⟩
        · simp only [decide_eq_true h1, decide_eq_true h2, decide_eq_false h3, decide_eq_false h4]
          go_enter Tryz.func36, Tryz.ntmps36
          go_wp2
          go_ret
          exact ⟨rfl, rfl⟩
    · simp only [decide_eq_true h1, decide_eq_false h2]
      go_enter Tryz.func36, Tryz.ntmps36
      go_wp2
      go_ret
      exact ⟨rfl, rfl⟩
  · simp only [decide_eq_false h1]
    go_enter Tryz.func36, Tryz.ntmps36
    go_wp2
    go_ret
    exact ⟨rfl, rfl⟩
set_option maxRecDepth 10000 in
set_option maxHeartbeats 1600000 in
theorem refScalars_any (L : List Int) (a : Option Addr) (cap : Nat) (w : World) (hl : L.length ≤ 1000000000) (ha : IA w a L) :
    Calls Tryz.prog 20 #[.slice a L.length cap] w fun e w' => e = .returned (.bool (L.all scalarP)) ∧ ∃ q, w' = w.drewN q := by
  have HA := hid0 ha
  obtain ⟨n, hn⟩ : ∃ n, n = L.length := ⟨_, rfl⟩
  have HN := hid0 hn
  have H0 : Hid (L.all scalarP = (L.drop 0).all scalarP) := hid0 rfl
  rw [← hn] at hl ⊢
  clear ha hn
  go_enter Tryz.func20, Tryz.ntmps20
  go_wp2
  go_loopw [3] (fun v wr => ∃ k : Nat, k ≤ n ∧ v = .int .i64 (k : Int) ∧ Hid (L.all scalarP = (L.drop k).all scalarP) ∧ ∃ q, wr = w.drewN q) (fun v _ => n - (intOf v).toNat)
  case atStart => exact ⟨0, Nat.zero_le _, rfl, H0, 0, rfl⟩
  case round =>
    clear H0
    obtain ⟨k, hk, rfl, HR, q, rfl⟩ := hrel
    by_cases hlt : k < n
    · have hkI : (k : Int) < (n : Int) := by omega
      have hkI0 : (0 : Int) ≤ (k : Int) := by omega
      have hkr : k < L.length := by rw [← HN.out]; exact hlt
      obtain ⟨b, off, rfl, _, d0⟩ := HA.out.at' k hkr
      have hd := all_step L k hkr
      obtain ⟨y, hy⟩ : ∃ y, y = L[k] := ⟨_, rfl⟩
      rw [← hy] at d0 hd
      have HD := hid0 hd
      have HS := hid0 (refScalar_any y (w.drewN q))
      clear hd hy
      cases hs : scalarP y with
      | false =>
        rw [hs] at HS HD
        have HF : Hid (L.all scalarP = false) := hid0 (by rw [HR.out, HD.out]; rfl)
        clear HR HD hs
        go_wp2_with (go_at_call 36; refine HS.out.mono ?_; rintro e w1 ⟨rfl, rfl⟩)
        go_ret
        exact ⟨by rw [HF.out]; rfl, _, rfl⟩
      | true =>
        rw [hs] at HS HD
        have HF : Hid (L.all scalarP = (L.drop (k + 1)).all scalarP) := hid0 (by rw [HR.out, HD.out]; rfl)
        clear HR HD hs
        go_wp2_with (go_at_call 36; refine HS.out.mono ?_; rintro e w1 ⟨rfl, rfl⟩)
        go_roundw
        case rel => exact ⟨k + 1, by omega, by go_num, HF, _, rfl⟩
        case measure => simp [intOf]; omega
    · have hkI : ¬ (k : Int) < (n : Int) := by omega
      have HF : Hid (L.all scalarP = true) := hid0 (by rw [HR.out, List.drop_of_length_le (by have := HN.out; omega)]; rfl)
      clear HR
      go_wp2
      go_ret
      exact ⟨by rw [HF.out]; rfl, _, rfl⟩
end Go.Proofs.YtcbepmjojppokaaGreatDoor
