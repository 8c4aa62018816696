/-
  TameCases, SameCases (stage 23).
-/
import Derived.Test.YtcbepmjojppokaaGreatDoorTpNW
namespace Go.Proofs.YtcbepmjojppokaaGreatDoor.Tp
open Go.RowKit Go.Shelf
/-- What TameCases answers. -/
def TamR (C : List Cs) (e : Ending) : Prop := ∃ v : Bool, e = .returned (.bool v) ∧ (v = true → ∀ x ∈ C, x.1.length ≤ 16777216 ∧ x.2.length ≤ 16777216)
set_option maxRecDepth 10000 in
set_option maxHeartbeats 800000 in
theorem sameI (l : List Int) (a b : Option Addr) (ca cb : Nat) (w : World) (hl : l.length ≤ 1000000000) (ha : IA w a l) (hb : IA w b l) :
    Calls Tryz.prog 21 #[.slice a l.length ca, .slice b l.length cb] w fun e w' => e = .returned (.bool true) ∧ ∃ n, w' = w.drewN n := by
  have HA := hid0 ha
  have HB := hid0 hb
  clear ha hb
  go_enter Tryz.func21, Tryz.ntmps21
  go_wp2
  go_loopw [5] (fun i wr => ∃ k : Nat, k ≤ l.length ∧ i = .int .i64 (k : Int) ∧ ∃ n, wr = w.drewN n) (fun i _ => l.length - (intOf i).toNat)
  case atStart => exact ⟨0, Nat.zero_le _, rfl, 0, rfl⟩
  case round =>
    obtain ⟨k, hk, rfl, nd, rfl⟩ := hrel
    by_cases hlt : k < l.length
    · obtain ⟨b1, o1, rfl, _, d1⟩ := HA.out.at' k hlt
      obtain ⟨b2, o2, rfl, _, d2⟩ := HB.out.at' k hlt
      have hkI : (k : Int) < (l.length : Int) := by omega
      have hkI0 : (0 : Int) ≤ (k : Int) := by omega
      generalize l[k] = s at *
      have hself : (s == s) = true := by simp
      go_wp2
      go_quiet ((fail))
      go_wp2
      go_roundw
      case rel => exact ⟨k + 1, by omega, by go_num, _, rfl⟩
      case measure => simp [intOf]; omega
    · have hkI : ¬ (k : Int) < (l.length : Int) := by omega
      go_wp2
      go_ret
      exact ⟨rfl, nd, rfl⟩
set_option maxRecDepth 10000 in
set_option maxHeartbeats 3200000 in
/-- The same cases twice in memory. -/
theorem sameCases_any (C : List Cs) (a b : Option Addr) (ca cb : Nat) (w : World) (hl : C.length ≤ 1000000000) (hP : ∀ x ∈ C, x.1.length ≤ 1000000000 ∧ x.2.length ≤ 1000000000) (ha : CsA w a C) (hb : CsA w b C) :
    Calls Tryz.prog 8 #[.slice a C.length ca, .slice b C.length cb] w fun e w' => e = .returned (.bool true) ∧ Hid (Below w.heap.size w w') := by
  have HA := hid0 ha
  have HB := hid0 hb
  have HPm := hid0 hP
  obtain ⟨n, hn⟩ : ∃ n, n = C.length := ⟨_, rfl⟩
  have HN := hid0 hn
  rw [← hn] at hl ⊢
  clear ha hb hn hP
  go_enter Tryz.func8, Tryz.ntmps8
  go_wp2
  go_loopw [5] (fun i wr => ∃ k : Nat, k ≤ n ∧ i = .int .i64 (k : Int) ∧ Hid (Below w.heap.size w wr)) (fun i _ => n - (intOf i).toNat)
  case atStart => exact ⟨0, Nat.zero_le _, rfl, hid0 (Below.refl _ _)⟩
  case round =>
    obtain ⟨k, hk, rfl, HBl⟩ := hrel
    by_cases hlt : k < n
    · have hkI : (k : Int) < (n : Int) := by omega
      have hkI0 : (0 : Int) ≤ (k : Int) := by omega
      have hkr : k < C.length := by rw [← HN.out]; exact hlt
      obtain ⟨P, B, b1, o1, aP, aB, cP, cB, hx, rfl, hb1, y0', y1', i1, i2⟩ := HA.out.get k hkr
      obtain ⟨P', B', b2, o2, aP', aB', cP', cB', hx', rfl, hb2, z0', z1', j1, j2⟩ := HB.out.get k hkr
      have y0 := (HBl.out.cell (p := ⟨b1, o1 + k * 2, none⟩) hb1).trans y0'
      have y1 := (HBl.out.cell (p := ⟨b1, o1 + k * 2 + 1, none⟩) hb1).trans y1'
      have z0 := (HBl.out.cell (p := ⟨b2, o2 + k * 2, none⟩) hb2).trans z0'
      have z1 := (HBl.out.cell (p := ⟨b2, o2 + k * 2 + 1, none⟩) hb2).trans z1'
      rw [hx] at hx'
      injection hx' with e1 e2
      subst e1
      subst e2
      have hp := HPm.out _ (List.getElem_mem hkr)
      rw [hx] at hp
      have HS1 : Hid (∀ n, Calls Tryz.prog 21 #[.slice aP P.length cP, .slice aP' P.length cP'] (wr.drewN n) fun e w' => e = .returned (.bool true) ∧ ∃ m, w' = wr.drewN m) := hid0 (fun n => (sameI P aP aP' cP cP' (wr.drewN n) hp.1 (i1.past (below_drew' HBl.out _)) (j1.past (below_drew' HBl.out _))).mono (fun _ _ h => ⟨h.1, by obtain ⟨m, hm⟩ := h.2; exact ⟨_, hm.trans (World.drewN_drewN _ _ _)⟩⟩))
      have HS2 : Hid (∀ V, Below w.heap.size w V → ∀ n, Calls Tryz.prog 21 #[.slice aB B.length cB, .slice aB' B.length cB'] (V.drewN n) fun e w' => e = .returned (.bool true) ∧ ∃ m, w' = V.drewN m) := hid0 (fun V hV n => (sameI B aB aB' cB cB' (V.drewN n) hp.2 (i2.past (below_drew' hV _)) (j2.past (below_drew' hV _))).mono (fun _ _ h => ⟨h.1, by obtain ⟨m, hm⟩ := h.2; exact ⟨_, hm.trans (World.drewN_drewN _ _ _)⟩⟩))
      clear hp hx hkr i1 i2 j1 j2 y0' y1' z0' z1'
      generalize P.length = nP at *
      generalize B.length = nB at *
      go_wp2
      go_quiet ((go_at_call 21; exact HS1.out _))
      obtain ⟨V, hV⟩ : ∃ V, V = wr.drewN nq := ⟨_, rfl⟩
      have HV : Hid (Below w.heap.size w V) := hid0 (by rw [hV]; exact below_drew' HBl.out _)
      have HS2 := hid0 (HS2.out V HV.out)
      have y1V : V.cell? ⟨b1, o1 + k * 2 + 1, none⟩ = some (.slice aB nB cB) := by rw [hV]; exact y1
      have z1V : V.cell? ⟨b2, o2 + k * 2 + 1, none⟩ = some (.slice aB' nB cB') := by rw [hV]; exact z1
      rw [← hV]
      clear hV HS1 y0 y1 z0 z1
      go_wp2
      go_quiet ((go_at_call 21; exact HS2.out _))
      all_goals go_wp2
      go_roundw
      case rel => exact ⟨k + 1, by omega, by go_num, hid0 (below_drew' HV.out _)⟩
      case measure => simp [intOf]; omega
    · have hkI : ¬ (k : Int) < (n : Int) := by omega
      go_wp2
      go_ret
      exact ⟨rfl, HBl⟩
end Go.Proofs.YtcbepmjojppokaaGreatDoor.Tp
