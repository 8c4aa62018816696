/-
  The walk of offsets.placesOf, New.
-/
import Derived.Test.YtlmbbohhdgeedaaDoorOzCM
namespace Go.Proofs.YtlmbbohhdgeedaaDoor
open Go.RowKit
def slen : Value → Nat
  | .slice _ l _ => l
  | _ => 0
theorem PJ.start {w w2 w4 : World} {v : Value} {U : List (Int × Nat × Nat)} (hO : OwnPl 62 w2 w.heap.size v (plN U 0)) (hB2 : Below w.heap.size w w2)
    (hb4 : Below (w2.heap.size + 1) (w2.alloc (ob5 p0 62)) w4) :
    PJ w (w4.alloc (ob3 (nxU U 0))) w2.heap.size w4.heap.size v U 0 := by
  have hs2 := hB2.size
  have hs4 := hb4.size
  rw [World.size_alloc] at hs4
  have hlt : ∀ g, v.ownBlock = some g → g < w2.heap.size := fun g hg => (World.ownsRow.lt hO g hg).2
  have hB4 : Below w.heap.size w w4 := (hB2.alloc hs2 _).trans (hb4.mono (by omega))
  refine ⟨hO.keep (fun g hg => ?_), ?_, ?_, fun e => ?_, fun e => ?_, by omega, hs2, hB4.alloc (by omega) _⟩
  · have := hlt g hg
    rw [Below.heap_alloc _ _ _ (by omega), hb4.block g (by omega), Below.heap_alloc _ _ _ this]
  · rw [Below.heap_alloc _ _ _ (by omega), hb4.block _ (by omega)]
    exact heap_alloc_new w2 _
  · exact heap_alloc_new w4 _
  · have := hlt _ e; omega
  · have := hlt _ e; omega
set_option maxRecDepth 10000 in
set_option maxHeartbeats 1600000 in
theorem placesOf_any (s : ByteArray) (hs : s.size ≤ 4194400) (w : World) (hT : SeqAt w) :
    Calls Tryd.prog 22 #[.string s] w fun e w' => ∃ v, e = .returned v ∧ OwnPl 62 w' w.heap.size v (allP s.data.toList) ∧ Below w.heap.size w w' := by
  obtain ⟨i0, hi, hz0, hz1, hz2⟩ := info_parts infoPl
  have HT := hid hT
  have hUl : (unitsOf s.data.toList).length ≤ s.size := by have := units_le s; omega
  have HSt : Hid (∀ k, k ≤ (unitsOf s.data.toList).length → (stK (unitsOf s.data.toList) k).b ≤ s.size ∧ (stK (unitsOf s.data.toList) k).u ≤ k ∧ (stK (unitsOf s.data.toList) k).w ≤ 2 * k ∧ (stK (unitsOf s.data.toList) k).l ≤ k + 1 ∧ (stK (unitsOf s.data.toList) k).c ≤ k + 1 ∧ posK s.data.toList k ≤ s.size) := hid (fun k hk => by
    obtain ⟨a1, a2, a3, _, a5, _, a7⟩ := stK_le s.data.toList k hk
    have := (posK_drop s.data.toList k hk).1
    rw [bsize] at a1 this
    exact ⟨a1, a2, a3, a5, a7, this⟩)
  have HNx : Hid (∀ k, k ≤ (unitsOf s.data.toList).length → ∀ W, SeqAt W → Calls Tryd.prog 42 #[.string s, .int .i64 (posK s.data.toList k : Int)] W fun e w' => e = .returned (.tuple #[.agg #[.int .i64 (nxU (unitsOf s.data.toList) k).1, .int .i64 ((nxU (unitsOf s.data.toList) k).2.1 : Int), .int .i64 ((nxU (unitsOf s.data.toList) k).2.2 : Int)], .bool (decide (k < (unitsOf s.data.toList).length))]) ∧ Below W.heap.size W w') := hid (fun k hk W hW => by
    have h := next_k s k hk (by omega) W hW
    rw [optVal_nx] at h
    exact h)
  have HUa : Hid (∀ k (h : k < (unitsOf s.data.toList).length), (nxU (unitsOf s.data.toList) k).2.2 = posK s.data.toList (k + 1) ∧ stK (unitsOf s.data.toList) (k + 1) = stP (stK (unitsOf s.data.toList) k) (nxU (unitsOf s.data.toList) k)) := hid (fun k h => by
    have h1 := nxU_at (unitsOf s.data.toList) k h
    have h2 := (units_at s.data.toList k h).2.2.1
    exact ⟨by rw [h1, h2], by rw [h1]; exact stK_step _ k h⟩)
  have HAl : Hid (plN (unitsOf s.data.toList) ((unitsOf s.data.toList).length + 1) = allP s.data.toList) := hid rfl
  have HN0 := hid (HNx.out 0 (Nat.zero_le _))
  have HPS : Hid (∀ w2 w4 v, OwnPl 62 w2 w.heap.size v (plN (unitsOf s.data.toList) 0) → Below w.heap.size w w2 → Below (w2.heap.size + 1) (w2.alloc (ob5 p0 62)) w4 → PJ w (w4.alloc (ob3 (nxU (unitsOf s.data.toList) 0))) w2.heap.size w4.heap.size v (unitsOf s.data.toList) 0) := hid (fun w2 w4 v => PJ.start)
  have h00 : posK s.data.toList 0 = 0 := rfl
  rw [h00, Int.natCast_zero] at HN0
  clear hT h00
  generalize posK s.data.toList = po at *
  generalize allP s.data.toList = AL at *
  generalize unitsOf s.data.toList = U at *
  generalize hn : U.length = n at *
  have HN : Hid (U.length = n) := hid hn
  clear hn
  obtain ⟨⟨x0, a0, b0⟩, hu0⟩ : ∃ u, u = nxU U 0 := ⟨_, rfl⟩
  rw [← hu0] at HN0 HPS
  clear hu0
  simp only at HN0
  go_enter Tryd.func22, Tryd.ntmps22
  go_wp2_with (first
    | (go_at_call 23; refine (runeCount_any s w (by omega)).mono ?_; rintro e w1 ⟨c, hc, rfl, hb1⟩; have hci : 0 ≤ (c : Int) := by omega)
    | (at_make; refine wpList_make_own _ rfl _ _ 53 rfl w.heap.size 62 i0 (.agg #[.int .i64 0, .int .i64 0, .int .i64 0, .int .i64 0, .int .i64 0]) 5 Tryd.underlying53 hi hz0 hz1 .i64 .i64 _ (c + 1) rfl rfl (by push_cast; rfl) (by rw [hz2]; omega) (by unfold maxLen; omega) hb1.size ?_; intro w2 hown2 hgrow2; have hB2 : Below w.heap.size w w2 := hb1.grown hgrow2 hb1.size (fun k hk => by cases hk); have hs2 := hB2.size; have HOw := hid hown2; have HB2 := hid hB2; clear hown2 hgrow2 hB2 hb1)
    | (go_at_call 42; go_loud (refine (HN0.out _ (HT.out.later (HB2.out.alloc hs2 _))).mono ?_; rintro e w4 ⟨rfl, hb4⟩; have hb4' : Below (w2.heap.size + 1) (w2.alloc (ob5 p0 62)) w4 := (by rw [World.size_alloc] at hb4; exact hb4); have HPJ := hid (HPS.out w2 w4 _ (by exact HOw.out) HB2.out hb4'); clear hb4 hb4' HOw))
    | fail)
  generalize w2.heap.size = H at *
  obtain ⟨wl, hwl⟩ : ∃ wl, wl = w4.alloc (ob3 (x0, a0, b0)) := ⟨_, rfl⟩
  rw [← hwl] at HPJ
  have hfold : w4.alloc (.cells #[.int .i64 x0, .int .i64 (a0 : Int), .int .i64 (b0 : Int)] 28) = wl := hwl.symm
  clear hwl
  try rw [hfold]
  generalize w4.heap.size = B0 at *
  clear hfold HB2 HN0 HPS
  go_loopw [3, 5, 6] (fun v p ok wr => ∃ (k B : Nat), k ≤ n ∧ p = .pointer (some ⟨B, 0, none⟩) ∧ ok = .bool (decide (k < n)) ∧ Hid (PJ w wr H B v U k)) (fun v _ _ _ => n + 1 - slen v)
  case atStart => exact ⟨0, B0, Nat.zero_le _, rfl, by simp, HPJ⟩
  case round =>
    obtain ⟨k, B, hk, rfl, hok, HP⟩ := hrel
    have hwr := HP.out.bel.size
    obtain ⟨au, cu, rfl⟩ : ∃ au cu, u3 = .slice au k cu := by obtain ⟨a, c, h, _⟩ := HP.out.own.pa; rw [plN_len] at h; exact ⟨a, c, h⟩
    obtain ⟨t1, t2, t3, t4, t5, _⟩ := HSt.out k hk
    obtain ⟨_, hP⟩ : ∃ P, P = stK U k := ⟨_, rfl⟩
    rename_i P
    obtain ⟨pb, pu, pw, pl, pc⟩ := P
    obtain ⟨⟨x, a, b⟩, hu⟩ : ∃ u, u = nxU U k := ⟨_, rfl⟩
    have HApp : Hid (∀ o w3 v', w3.ownsRow w.heap.size 62 5 v' (k + 1) (cellsP (plN U k) ++ [.int .i64 (pb : Int), .int .i64 (pu : Int), .int .i64 (pw : Int), .int .i64 (pl : Int), .int .i64 (pc : Int)]) → (wr.alloc o).grownBy w3 (Value.slice au k cu).ownBlock → (v'.ownBlock = (Value.slice au k cu).ownBlock ∨ v'.ownBlock = some (wr.alloc o).heap.size) → OwnPl 62 w3 w.heap.size v' (plN U (k + 1)) ∧ Below w.heap.size w w3 ∧ w3.heap[H]? = some (ob5 (stK U k) 62) ∧ w3.heap[B]? = some (ob3 (nxU U k)) ∧ v'.ownBlock ≠ some H ∧ wr.heap.size < w3.heap.size) := hid (fun o w3 v' h1 h2 h3 => HP.out.app (by rw [← hP]; exact h1) h2 h3)
    have HOw : Hid (wr.ownsRow w.heap.size 62 5 (.slice au k cu) k (cellsP (plN U k))) := hid (by have h := HP.out.own; unfold OwnPl at h; rw [plN_len] at h; exact h)
    have hrH : wr.heap[H]? = some (ob5 ⟨pb, pu, pw, pl, pc⟩ 62) := by rw [hP]; exact HP.out.rowH
    obtain ⟨⟨y0, y1, y2, y3, y4⟩, _⟩ := row5 hrH
    simp only at y0 y1 y2 y3 y4
    have HAL := HAl.out
    have hnl := HN.out
    have HneH := hid HP.out.neH
    have HhB := hid HP.out.hb
    have Hlo := hid HP.out.lo
    rw [← hP] at t1 t2 t3 t4 t5
    simp only at t1 t2 t3 t4 t5
    by_cases hlt : k < n
    · rw [decide_eq_true hlt] at hok
      subst hok
      obtain ⟨v1, v2⟩ := HUa.out k hlt
      have HNk := hid (HNx.out (k + 1) (by omega))
      rw [← v1, ← hu] at HNk
      rw [← hP, ← hu] at v2
      have t6 : b ≤ s.size := by have := (HSt.out (k + 1) (by omega)).2.2.2.2.2; rw [← v1, ← hu] at this; exact this
      have HBe : Hid (∀ W, Calls Tryd.prog 43 #[plV ⟨pb, pu, pw, pl, pc⟩, .agg #[.int .i64 x, .int .i64 (a : Int), .int .i64 (b : Int)]] W fun e w' => e = .returned (plV (stP ⟨pb, pu, pw, pl, pc⟩ (x, a, b))) ∧ Below W.heap.size W w') := hid (fun W => behind_any pb pu pw pl pc a b x (by omega) (by omega) (by omega) (by omega) (by omega) W)
      rw [← v2] at HBe
      obtain ⟨_, hQ⟩ : ∃ Q, Q = stK U (k + 1) := ⟨_, rfl⟩
      rename_i Q
      obtain ⟨qb, qu, qw, ql, qc⟩ := Q
      obtain ⟨⟨x', a', b'⟩, hu'⟩ : ∃ u, u = nxU U (k + 1) := ⟨_, rfl⟩
      have HNxt : Hid (∀ w3 w4 w6 v', OwnPl 62 w3 w.heap.size v' (plN U (k + 1)) → Below w.heap.size w w3 → w3.heap[H]? = some (ob5 (stK U k) 62) → v'.ownBlock ≠ some H → Below w3.heap.size w3 w4 → Below (w4.heap.size + 1) ((st5 w4 H ⟨qb, qu, qw, ql, qc⟩).alloc (ob3 (x, a, b))) w6 →
          PJ w (((w6.setCell ⟨w4.heap.size, 0, none⟩ (.int .i64 x')).setCell ⟨w4.heap.size, 1, none⟩ (.int .i64 (a' : Int))).setCell ⟨w4.heap.size, 2, none⟩ (.int .i64 (b' : Int))) H w4.heap.size v' U (k + 1)) := hid (fun w3 w4 w6 v' h1 h2 h3 h4 h5 h6 => by
        have h := PJ.next (w6 := w6) (u := (x, a, b)) h1 h2 h3 h4 Hlo.out h5 (by rw [← hQ]; exact h6)
        rw [← hu'] at h
        exact h)
      rw [← hQ] at HBe
      rw [← hu'] at HNk
      unfold plV at HBe
      simp only at HBe HNk
      have HhP := hid hP
      have Hhu := hid hu
      have hneB : ¬ B = H := by have := HhB.out; omega
      clear hP hu hQ hu' v1 v2 HAL hnl hrH
      trace_state
      go_wp2_with (first
        | (at_builtin; go_loud (refine wpList_append_own_at _ rfl _ _ 53 rfl w.heap.size 62 i0 (.agg #[.int .i64 0, .int .i64 0, .int .i64 0, .int .i64 0, .int .i64 0]) 5 40 Tryd.underlying53 hi hz0 hz1 hz2 rfl (by decide) (.slice au k cu) k (cellsP (plN U k)) rfl (HOw.out.alloc _) ⟨wr.heap.size, 0, none⟩ 1 1 [.int .i64 (pb : Int), .int .i64 (pu : Int), .int .i64 (pw : Int), .int .i64 (pl : Int), .int .i64 (pc : Int)] rfl rfl (cell5_new _ _ _ _ _ _ _) (fun u hu => by simp only [List.mem_cons, List.not_mem_nil, or_false] at hu; rcases hu with rfl | rfl | rfl | rfl | rfl <;> rfl) (by unfold maxLen; omega) (by omega) (by simp; omega) ?_; intro v' w3 hown' hgrow _ hat; obtain ⟨a3, a4, a5, a6, a7, a8⟩ := HApp.out _ _ _ hown' hgrow hat; obtain ⟨aw, cw, rfl⟩ : ∃ aw cw, v' = .slice aw (k + 1) cw := (by obtain ⟨a9, c9, h9, _⟩ := a3.pa; rw [plN_len] at h9; exact ⟨a9, c9, h9⟩); have A3 := hid a3; have A4 := hid a4; have A5 := hid a5; have A6 := hid a6; have A7 := hid a7; obtain ⟨⟨z0, z1, z2, z3, z4⟩, zf⟩ := row5 a5; rw [← HhP.out] at z0 z1 z2 z3 z4; simp only at z0 z1 z2 z3 z4; obtain ⟨⟨u0, u1, u2⟩, _⟩ := row3 a6; rw [← Hhu.out] at u0 u1 u2; simp only at u0 u1 u2; clear hown' hgrow hat a3 a4 a5 a6 a7 y0 y1 y2 y3 y4 zf))
        | (go_at_call 43; go_loud (refine (HBe.out _).mono ?_; rintro e w4 ⟨rfl, hb4⟩; have HB4 := hid hb4; have h45 := (hb4.block H (Array.getElem?_eq_some_iff.1 A5.out).1).trans A5.out; obtain ⟨_, s0, s1, s2, s3, s4⟩ := row5 h45; obtain ⟨⟨m0, m1, m2⟩, _⟩ := row3 ((hb4.block B (Array.getElem?_eq_some_iff.1 A6.out).1).trans A6.out); rw [← Hhu.out] at m0 m1 m2; simp only at m0 m1 m2; have g4 := hb4.size; clear hb4 h45 z0 z1 z2 z3 z4 u0 u1 u2))
        | (go_at_call 42; go_loud (have hb5 : Below w.heap.size w ((st5 w4 H ⟨qb, qu, qw, ql, qc⟩).alloc (ob3 (x, a, b))) := ((st5_below (A4.out.trans (HB4.out.mono A4.out.size)) Hlo.out _).alloc (by rw [st5_size]; have := A4.out.size; omega) _); have hr5 : ((st5 w4 H ⟨qb, qu, qw, ql, qc⟩).alloc (ob3 (x, a, b))).heap[w4.heap.size]? = some (ob3 (x, a, b)) := (by have h := heap_alloc_new (st5 w4 H ⟨qb, qu, qw, ql, qc⟩) (ob3 (x, a, b)); rw [st5_size] at h; exact h); refine (HNk.out _ (HT.out.later hb5)).mono ?_; rintro e w6 ⟨rfl, hb6⟩; have hb6' : Below (w4.heap.size + 1) ((st5 w4 H ⟨qb, qu, qw, ql, qc⟩).alloc (ob3 (x, a, b))) w6 := (by have hb7 : Below ((st5 w4 H ⟨qb, qu, qw, ql, qc⟩).alloc (ob3 (x, a, b))).heap.size ((st5 w4 H ⟨qb, qu, qw, ql, qc⟩).alloc (ob3 (x, a, b))) w6 := hb6; rw [World.size_alloc, st5_size] at hb7; exact hb7); have hr6 := (hb6'.block w4.heap.size (by omega)).trans hr5; obtain ⟨_, f0, f1, f2⟩ := row3 hr6; have HB6 := hid hb6'; clear hb5 hr5 hb6 hb6' hr6 m0 m1 m2 s0 s1 s2 s3 s4))
        | fail)
      go_roundw
      case rel => exact ⟨k + 1, w4.heap.size, hlt, rfl, rfl, hid (HNxt.out w3 w4 w6 _ A3.out A4.out A5.out A7.out HB4.out HB6.out)⟩
      case measure => simp [slen]; omega
    · rw [decide_eq_false hlt] at hok
      subst hok
      obtain rfl : k = n := by omega
      rw [HAL] at HApp
      clear HNx HSt HUa hrH hP hu
      go_wp2_with (first
        | (at_builtin; go_loud (refine wpList_append_own_at _ rfl _ _ 53 rfl w.heap.size 62 i0 (.agg #[.int .i64 0, .int .i64 0, .int .i64 0, .int .i64 0, .int .i64 0]) 5 40 Tryd.underlying53 hi hz0 hz1 hz2 rfl (by decide) (.slice au k cu) k (cellsP (plN U k)) rfl (HOw.out.alloc _) ⟨wr.heap.size, 0, none⟩ 1 1 [.int .i64 (pb : Int), .int .i64 (pu : Int), .int .i64 (pw : Int), .int .i64 (pl : Int), .int .i64 (pc : Int)] rfl rfl (cell5_new _ _ _ _ _ _ _) (fun u hu => by simp only [List.mem_cons, List.not_mem_nil, or_false] at hu; rcases hu with rfl | rfl | rfl | rfl | rfl <;> rfl) (by unfold maxLen; omega) (by omega) (by simp; omega) ?_; intro v' w3 hown' hgrow _ hat; obtain ⟨a3, a4, _⟩ := HApp.out _ _ _ hown' hgrow hat; have A3 := hid a3; have A4 := hid a4; clear hown' hgrow hat a3 a4))
        | fail)
      go_ret
      exact ⟨_, rfl, A3.out, A4.out⟩
end Go.Proofs.YtlmbbohhdgeedaaDoor
