/-
  Cases that are lent: are they as they were? (stage 23)
-/
import Derived.Test.YtooeagpopncmgaaDoorTfQM
namespace Go.Proofs.YtooeagpopncmgaaDoor
open Go.RowKit Go.Shelf
theorem OwnI.back {W : World} {lo g c m : Nat} {L M : List Int} (h : OwnI W lo (.slice (some ⟨g, 0, none⟩) m c) (L ++ M)) (k : Nat) (hk : k < M.length) : W.cell? ⟨g, L.length + k, none⟩ = some (.int .i64 M[k]) := by
  have hn : m = (L ++ M).length := by
    rcases h.2 with ⟨e1, _⟩ | ⟨g', cap, cur, e1, _⟩
    · cases e1
    · injection e1
  rw [hn] at h
  have := World.ownsRow.cellAt h (L.length + k) (by rw [List.length_append]; omega)
  rw [this, List.map_append, List.getElem?_append_right (by simp)]
  simp [hk]
theorem OwnI.capO {W : World} {lo g c m : Nat} {L : List Int} (h : OwnI W lo (.slice (some ⟨g, 0, none⟩) m c) L) : m ≤ c ∧ m = L.length := by
  rcases h.2 with ⟨e1, _⟩ | ⟨g', cap, cur, e1, _, _, h1, _⟩
  · cases e1
  · injection e1 with e1 e2 e3
    exact ⟨by omega, e2⟩
theorem mks_at (z : Int) (j k : Nat) (h : k < (mks z j).length) : (mks z j)[k] = z := by unfold mks; rw [List.getElem_replicate]
set_option maxRecDepth 10000 in
set_option maxHeartbeats 3200000 in
theorem kept_any (C : List Cs) (lo G c : Nat) (a : Option Addr) (cap : Nat) (w : World) (hl : C.length ≤ 1000000000) (hP : ∀ x ∈ C, x.1.length ≤ 1000000000 ∧ x.2.length ≤ 1000000000) (hK : CK w lo G c C) (hC : CsA w a C) :
    Calls Tryd.prog 7 #[.slice (some ⟨G, 0, none⟩) C.length c, .slice a C.length cap] w fun e w' => e = .returned (.bool true) ∧ Hid (Below w.heap.size w w') := by
  have HK := hid0 hK
  have HPm := hid0 hP
  have HS := hid0 (sameCases_any C (some ⟨G, 0, none⟩) a c cap w hl hP hK.csa hC)
  obtain ⟨n, hn⟩ : ∃ n, n = C.length := ⟨_, rfl⟩
  have HN := hid0 hn
  have hcap := hK.cap
  rw [← hn] at hl HS hcap ⊢
  clear hC hn hP hK
  go_enter Tryd.func7, Tryd.ntmps7
  go_wp2_with (go_at_call 13; go_loud ((refine HS.out.mono ?_; rintro e w1 ⟨rfl, HB1⟩)))
  clear HS
  go_loopw [6, 7, 8, 9] (fun v _ _ _ wr => ∃ k : Nat, k ≤ n ∧ v = .int .i64 (k : Int) ∧ Hid (Below w.heap.size w wr)) (fun v _ _ _ _ => n - (intOf v).toNat)
  case atStart => exact ⟨0, Nat.zero_le _, rfl, HB1⟩
  case round =>
    clear HB1
    obtain ⟨k, hk, rfl, HB⟩ := hrel
    obtain ⟨wo, hwo⟩ : ∃ wo, wo = wr := ⟨_, rfl⟩
    subst hwo
    have hKo := HK.out.past HB.out
    by_cases hlt : k < n
    · have hkI : (k : Int) < (n : Int) := by omega
      have hkI0 : (0 : Int) ≤ (k : Int) := by omega
      have hkr : k < C.length := by rw [← HN.out]; exact hlt
      have hp := HPm.out _ (List.getElem_mem hkr)
      obtain ⟨gP, gB, cP, cB, y0, y1, o1, o2⟩ := hKo.at' k hkr
      generalize C[k]'hkr = x at *
      obtain ⟨P, B⟩ := x
      have hp1 : P.length ≤ 1000000000 := hp.1
      have hp2 : B.length ≤ 1000000000 := hp.2
      have t1 := o1.capO
      have t2 := o2.capO
      have HP1 : Hid (∀ j, j < 64 → wo.cell? ⟨gP, P.length + j, none⟩ = some (.int .i64 (-66))) := hid0 (fun j hj => by
        have hj' : j < (mks (-66) 64).length := by rw [List.length_replicate]; exact hj
        have := o1.back j hj'
        rw [mks_at] at this
        exact this)
      have HP2 : Hid (∀ j, j < 64 → wo.cell? ⟨gB, B.length + j, none⟩ = some (.int .i64 (-67))) := hid0 (fun j hj => by
        have hj' : j < (mks (-67) 64).length := by rw [List.length_replicate]; exact hj
        have := o2.back j hj'
        rw [mks_at] at this
        exact this)
      have u1 : P.length + 64 ≤ cP := t1.1
      have u2 : B.length + 64 ≤ cB := t2.1
      have z0 : wo.cell? ⟨G, k * 2, none⟩ = some (.slice (some ⟨gP, 0, none⟩) P.length cP) := y0
      have z1 : wo.cell? ⟨G, k * 2 + 1, none⟩ = some (.slice (some ⟨gB, 0, none⟩) B.length cB) := y1
      clear hp o1 o2 t1 t2 y0 y1 hKo hkr
      generalize P.length = nP at *
      generalize B.length = nB at *
      have s1 : IntKind.i64.wrap ((nP : Int) + 64) = (nP : Int) + 64 := by rw [IntKind.wrap_i64]; omega
      have s2 : IntKind.i64.wrap ((nB : Int) + 64) = (nB : Int) + 64 := by rw [IntKind.wrap_i64]; omega
      have s3 : (nP : Int) + 64 ≤ (cP : Int) := by omega
      have s4 : (nB : Int) + 64 ≤ (cB : Int) := by omega
      have s5 : (0 : Int) ≤ (nP : Int) + 64 := by omega
      have s6 : (0 : Int) ≤ (nB : Int) + 64 := by omega
      go_wp2
      go_quiet (fail)
      go_wp2
      go_quiet (fail)
      clear s1 s2 s3 s4 s5 s6
      go_wp2
      go_loopw [9] (fun q wy => ∃ j : Nat, j ≤ 64 ∧ q = .int .i64 (j : Int) ∧ ∃ d, wy = wo.drewN d) (fun q _ => 64 - (intOf q).toNat)
      case atStart => exact ⟨0, by omega, rfl, _, World.drewN_drewN _ _ _⟩
      case round =>
        obtain ⟨j, hj, rfl, d, rfl⟩ := hrel
        by_cases hjl : j < 64
        · have hjI : (j : Int) < 64 := by omega
          have c1 := HP1.out j hjl
          have c2 := HP2.out j hjl
          have s1 : IntKind.i64.wrap ((nP : Int) + (j : Int)) = (nP : Int) + (j : Int) := by rw [IntKind.wrap_i64]; omega
          have s2 : IntKind.i64.wrap ((nB : Int) + (j : Int)) = (nB : Int) + (j : Int) := by rw [IntKind.wrap_i64]; omega
          have s3 : (nP : Int) + (j : Int) < ((nP + 64 : Nat) : Int) := by omega
          have s4 : (nB : Int) + (j : Int) < ((nB + 64 : Nat) : Int) := by omega
          have s5 : (0 : Int) ≤ (nP : Int) + (j : Int) := by omega
          have s6 : (0 : Int) ≤ (nB : Int) + (j : Int) := by omega
          have s7 : (nP : Int) + (j : Int) < (nP : Int) + 64 := by omega
          have s8 : (nB : Int) + (j : Int) < (nB : Int) + 64 := by omega
          go_wp2
          go_roundw
          case rel => exact ⟨j + 1, by omega, by go_num, _, rfl⟩
          case measure => simp [intOf]; omega
        · have hjI : ¬ (j : Int) < 64 := by omega
          go_wp2
          go_roundw
          case rel => exact ⟨k + 1, by omega, by go_num, hid0 (below_drew' HB.out _)⟩
          case measure => simp [intOf]; omega
    · have hkI : ¬ (k : Int) < (n : Int) := by omega
      have hsz : n + 64 ≤ c := hcap
      have s1 : IntKind.i64.wrap ((n : Int) + 64) = (n : Int) + 64 := by rw [IntKind.wrap_i64]; omega
      have s3 : (n : Int) + 64 ≤ (c : Int) := by omega
      have s5 : (0 : Int) ≤ (n : Int) + 64 := by omega
      have HM : Hid (∀ q, n ≤ q → q < n + 64 → ∃ g, wo.cell? ⟨G, q * 2, none⟩ = some (.slice (some ⟨g, 0, none⟩) 1 1) ∧ wo.cell? ⟨g, 0, none⟩ = some (.int .i64 (-68))) := hid0 (fun q hq1 hq2 => by
        obtain ⟨g, e1, e2⟩ := hKo.mrk (q - n) (by omega)
        rw [← HN.out, show n + (q - n) = q from by omega] at e1
        exact ⟨g, e1, by rw [cell_of_row _ _ _ _ _ _ e2]; rfl⟩)
      clear hKo
      go_wp2
      go_loopw [11] (fun q wy => ∃ j : Nat, n ≤ j ∧ j ≤ n + 64 ∧ q = .int .i64 (j : Int) ∧ ∃ d, wy = wo.drewN d) (fun q _ => n + 64 - (intOf q).toNat)
      case atStart => exact ⟨n, by omega, by omega, rfl, 0, rfl⟩
      case round =>
        obtain ⟨j, hj1, hj2, rfl, d, rfl⟩ := hrel
        by_cases hjl : j < n + 64
        · have hjI : (j : Int) < (n : Int) + 64 := by omega
          have hjI2 : (j : Int) < ((n + 64 : Nat) : Int) := by omega
          have hjI0 : (0 : Int) ≤ (j : Int) := by omega
          obtain ⟨g, c1, c2⟩ := HM.out j hj1 hjl
          go_wp2
          go_roundw
          case rel => exact ⟨j + 1, by omega, by omega, by go_num, _, rfl⟩
          case measure => simp [intOf]; omega
        · have hjI : ¬ (j : Int) < (n : Int) + 64 := by omega
          have hjI2 : ¬ (j : Int) < ((n + 64 : Nat) : Int) := by omega
          go_wp2
          go_ret
          exact ⟨rfl, hid0 (below_drew' HB.out _)⟩
end Go.Proofs.YtooeagpopncmgaaDoor
