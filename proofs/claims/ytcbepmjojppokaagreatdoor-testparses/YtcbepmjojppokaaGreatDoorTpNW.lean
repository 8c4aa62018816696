/-
  The program's Print (stage 23).
-/
import Derived.Test.YtcbepmjojppokaaGreatDoorTpMW
namespace Go.Proofs.YtcbepmjojppokaaGreatDoor.Tp
open Go.RowKit Go.Shelf
/-- The error that Print answers. -/
def errV (A : Nat → Addr) (n : Nat) : Value := if n = 3 then .iface 189 (.pointer (some (A 2))) else if n = 1 then .iface 189 (.pointer (some (A 0))) else .nilIface
theorem sayN_cases (C : List Cs) : sayN C = 0 ∨ sayN C = 1 ∨ sayN C = 3 := by
  unfold sayN
  (repeat' split) <;> simp
theorem num_say (A : Nat → Addr) (C : List Cs) (w : World) (hS : Sents w A) : Calls Tryz.prog 9 #[errV A (sayN C)] w fun e w' => e = .returned (.int .i64 (sayN C : Int)) ∧ w' = w := by
  rcases sayN_cases C with h | h | h <;> rw [h]
  · exact kitNum_nil w
  · exact kitNum_at w A hS 0 (by omega)
  · exact kitNum_at w A hS 2 (by omega)
set_option maxRecDepth 10000 in
set_option maxHeartbeats 3200000 in
theorem print_any (C : List Cs) (a : Option Addr) (cap : Nat) (A : Nat → Addr) (w : World) (hl : C.length ≤ 1000000000) (hP : ∀ x ∈ C, x.1.length ≤ 20000000 ∧ x.2.length ≤ 1000000000) (hC : CsA w a C) (hT : TabAt 20 Lib.deBruijn64tab w) (hS : Sents w A) :
    Calls Tryz.prog 14 #[.slice a C.length cap] w fun e w' => e = .returned (.tuple #[.string ⟨(sayT C).toArray⟩, errV A (sayN C)]) ∧ Hid (Below w.heap.size w w') := by
  have HC := hid0 hC
  obtain ⟨n, hn⟩ : ∃ n, n = C.length := ⟨_, rfl⟩
  have HN := hid0 hn
  have HSay := hid0 (And.intro (fun h => say_many (C := C) h) (And.intro (fun h h2 => say_arg (C := C) h h2) (And.intro (fun h h2 h3 => say_long (C := C) h h2 h3) (fun h h2 h3 => say_fine (C := C) h h2 h3))))
  have hE0 : w.cell? ⟨1, 0, none⟩ = some (.iface 189 (.pointer (some (A 0)))) := hS.c0
  have hE2 : w.cell? ⟨0, 0, none⟩ = some (.iface 189 (.pointer (some (A 2)))) := hS.c2
  have HE : Hid (∀ V, Below w.heap.size w V → V.cell? ⟨1, 0, none⟩ = some (.iface 189 (.pointer (some (A 0)))) ∧ V.cell? ⟨0, 0, none⟩ = some (.iface 189 (.pointer (some (A 2))))) := hid0 (fun V hV => ⟨(hV.cell (p := ⟨1, 0, none⟩) (World.block_lt_of_cell? w _ hE0)).trans hE0, (hV.cell (p := ⟨0, 0, none⟩) (World.block_lt_of_cell? w _ hE2)).trans hE2⟩)
  have HMy : Hid (∀ k (hk : k < C.length) (P B : List Int), C[k] = (P, B) → ∀ (mb : Bool), mayC P B = mb → ∀ (aP aB : Option Addr) (cP cB : Nat) (W : World), Below w.heap.size w W → IA w aP P → IA w aB B → Calls Tryz.prog 23 #[.agg #[.slice aP P.length cP, .slice aB B.length cB]] W fun e w' => e = .returned (.bool mb) ∧ Hid (Below W.heap.size W w')) := hid0 (fun k hk P B hx mb hmb aP aB cP cB W hW h1 h2 => by
    have hp := hP _ (List.getElem_mem hk)
    rw [hx] at hp
    rw [← hmb]
    exact mayBe_any P B aP aB cP cB (A 0) W hp.1 hp.2 (h1.past hW) (h2.past hW) (HE.out W hW).1)
  have HSh : Hid (∀ (W : World), Below w.heap.size w W → C.length ≤ 20000 → okC C = true → Calls Tryz.prog 24 #[.slice a C.length cap] W fun e w' => e = .returned (.tuple #[.string ⟨(sayT C).toArray⟩, errV A (sayN C)]) ∧ Hid (Below W.heap.size W w')) := hid0 (fun W hW h20 hok => by
    refine (shortFile_any C a cap (A 2) W h20 hP hok (hC.past hW) (fun i hi => (hW.cell (p := ⟨20, i, none⟩) (World.block_lt_of_cell? w _ (hT i hi))).trans (hT i hi)) (HE.out W hW).2).mono ?_
    rintro e w' ⟨⟨t, v, rfl, h⟩, hb⟩
    have h2 : ¬ 20000 < C.length := by omega
    refine ⟨?_, hid0 hb⟩
    rcases h with ⟨h3, rfl, rfl⟩ | ⟨h3, rfl, rfl⟩
    · obtain ⟨e1, e2⟩ := say_long h2 hok h3
      rw [e1, e2]; rfl
    · obtain ⟨e1, e2⟩ := say_fine h2 hok h3
      rw [e1, e2]; rfl)
  rw [← hn] at hl HSh ⊢
  clear hC hn hP hT hS
  by_cases hbig : 20000 < n
  · have hbI : (n : Int) > 20000 := by omega
    obtain ⟨e1, e2⟩ := HSay.out.1 (by rw [← HN.out]; exact hbig)
    rw [e1, e2]
    clear HSay HMy HSh HE
    show Calls _ _ _ _ fun e w' => e = .returned (.tuple #[.string ⟨#[]⟩, .iface 189 (.pointer (some (A 2)))]) ∧ _
    go_enter Tryz.func14, Tryz.ntmps14
    go_wp2
    go_quiet (fail)
    all_goals go_wp2
    go_ret2
    exact ⟨rfl, hid0 (below_drew' (Below.refl _ _) _)⟩
  · have hbI : ¬ (n : Int) > 20000 := by omega
    have hbC : ¬ 20000 < C.length := by rw [← HN.out]; exact hbig
    have HbC := hid0 hbC
    clear hbC
    obtain ⟨sN, hsN⟩ : ∃ sN, sN = errV A (sayN C) := ⟨_, rfl⟩
    obtain ⟨sT, hsT⟩ : ∃ sT, sT = (⟨(sayT C).toArray⟩ : ByteArray) := ⟨_, rfl⟩
    have HArg : Hid (okC C = false → sN = .iface 189 (.pointer (some (A 0))) ∧ sT = ⟨#[]⟩) := hid0 (fun h => by
      obtain ⟨e1, e2⟩ := HSay.out.2.1 HbC.out h
      rw [hsN, hsT, e1, e2]
      exact ⟨rfl, rfl⟩)
    rw [← hsN, ← hsT] at HSh ⊢
    clear hsN hsT HSay
    go_enter Tryz.func14, Tryz.ntmps14
    go_wp2
    go_loopw [5, 12] (fun _ v wr => ∃ k : Nat, k ≤ n ∧ v = .int .i64 (k : Int) ∧ Hid (∀ i (hi : i < C.length), i < k → mayC C[i].1 C[i].2 = true) ∧ Hid (Below w.heap.size w wr)) (fun _ v _ => n - (intOf v).toNat)
    case atStart => exact ⟨0, Nat.zero_le _, rfl, hid0 (fun _ _ h => absurd h (Nat.not_lt_zero _)), hid0 (Below.refl _ _)⟩
    case round =>
      obtain ⟨k, hk, rfl, HA, HB⟩ := hrel
      by_cases hlt : k < n
      · have hkI : (k : Int) < (n : Int) := by omega
        have hkI0 : (0 : Int) ≤ (k : Int) := by omega
        have hkr : k < C.length := by rw [← HN.out]; exact hlt
        obtain ⟨P, B, b, off, aP, aB, cP, cB, hx, rfl, hbl, d0, d1, i1, i2⟩ := HC.out.get k hkr
        have y0 : wr.cell? ⟨b, off + k * 2, none⟩ = some (.slice aP P.length cP) := (HB.out.cell (p := ⟨b, off + k * 2, none⟩) hbl).trans d0
        have y1 : wr.cell? ⟨b, off + k * 2 + 1, none⟩ = some (.slice aB B.length cB) := (HB.out.cell (p := ⟨b, off + k * 2 + 1, none⟩) hbl).trans d1
        clear d0 d1
        obtain ⟨W1, hW1⟩ : ∃ W1, W1 = wr.alloc (.cells #[.slice aP P.length cP, .slice aB B.length cB] 50) := ⟨_, rfl⟩
        have hb1 : Below w.heap.size w W1 := by rw [hW1]; exact HB.out.alloc HB.out.size _
        have hr1 : W1.heap[wr.heap.size]? = some (.cells #[.slice aP P.length cP, .slice aB B.length cB] 50 (0, 0)) := by rw [hW1]; exact heap_alloc_new wr _
        have x0 : W1.cell? ⟨wr.heap.size, 0, none⟩ = some (.slice aP P.length cP) := by rw [cell_of_row _ _ _ _ _ _ hr1]; rfl
        have x1 : W1.cell? ⟨wr.heap.size, 1, none⟩ = some (.slice aB B.length cB) := by rw [cell_of_row _ _ _ _ _ _ hr1]; rfl
        have hfold := hW1.symm
        have HB1 := hid0 hb1
        clear hW1 hr1 hb1
        cases hm : mayC P B with
        | false =>
          have HM := hid0 (HMy.out k hkr P B hx false hm aP aB cP cB W1 HB1.out i1 i2)
          have HX := hid0 (HArg.out (okC_no k hkr (by rw [hx]; exact hm)))
          clear hm hkr hx i1 i2
          generalize P.length = nP at *
          generalize B.length = nB at *
          obtain ⟨q1, q2⟩ := HX.out
          subst q1
          subst q2
          clear HArg HX HSh HMy
          go_wp2_with (go_at_call 23; go_loud ((refine HM.out.mono ?_; rintro e w1 ⟨rfl, H1⟩; have HB2 := hid0 (HB1.out.trans (H1.out.mono HB1.out.size)); obtain ⟨z0, z2⟩ := HE.out w1 HB2.out)))
          go_quiet (fail)
          all_goals go_wp2
          go_ret2
          exact ⟨rfl, hid0 (below_drew' HB2.out _)⟩
        | true =>
          have HM := hid0 (HMy.out k hkr P B hx true hm aP aB cP cB W1 HB1.out i1 i2)
          have HA2 : Hid (∀ i (hi : i < C.length), i < k + 1 → mayC C[i].1 C[i].2 = true) := hid0 (fun i hi h => by
            by_cases e : i = k
            · subst e; rw [hx]; exact hm
            · exact HA.out i hi (by omega))
          clear hm hkr hx HA i1 i2
          generalize P.length = nP at *
          generalize B.length = nB at *
          clear HArg HSh HMy
          go_wp2_with (go_at_call 23; go_loud ((refine HM.out.mono ?_; rintro e w1 ⟨rfl, H1⟩)))
          go_roundw
          case rel => exact ⟨k + 1, by omega, by go_num, HA2, hid0 (HB1.out.trans (H1.out.mono HB1.out.size))⟩
          case measure => simp [intOf]; omega
      · have hkI : ¬ (k : Int) < (n : Int) := by omega
        have hok : okC C = true := okC_all (fun i hi => HA.out i hi (by have := HN.out; omega))
        have HS2 := hid0 (HSh.out wr HB.out (by have := HN.out; omega) hok)
        clear hok HA HMy HSh HArg HE
        go_wp2_with (go_at_call 24; go_loud ((refine HS2.out.mono ?_; rintro e w1 ⟨rfl, H1⟩)))
        go_ret2
        exact ⟨rfl, hid0 (HB.out.trans (H1.out.mono HB.out.size))⟩
end Go.Proofs.YtcbepmjojppokaaGreatDoor.Tp
