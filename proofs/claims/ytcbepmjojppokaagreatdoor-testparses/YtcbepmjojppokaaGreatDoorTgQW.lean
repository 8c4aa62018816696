/-
  testfile.reader.read: its walk.
-/
import Derived.Test.YtcbepmjojppokaaGreatDoorTgPW
namespace Go.Proofs.YtcbepmjojppokaaGreatDoor
open Go.RowKit Go.Shelf
theorem store_fn (W : World) (a : Addr) (F : FuncId) (old : Value) (h : W.cell? a = some old) (hf : W.frozen? a = false) : (store a (.func (.func F) #[] #[])).run Tryz.prog W = .ok () (W.setCell a (.func (.func F) #[] #[])) := by
  rw [run_store Tryz.prog W a _ _ (by rfl)]
  simp [h, hf]
theorem store_nf (W : World) (a : Addr) (old : Value) (h : W.cell? a = some old) (hf : W.frozen? a = false) : (store a .nilFunc).run Tryz.prog W = .ok () (W.setCell a .nilFunc) := by
  rw [run_store Tryz.prog W a _ _ (by rfl)]
  simp [h, hf]
theorem ne_mark (W : World) : (binOp .neq 60 (.func (.func 49) #[] #[]) .nilFunc).run Tryz.prog W = .ok (.bool true) W := by kernel_rfl
theorem ne_point (W : World) : (binOp .neq 60 (.func (.func 71) #[] #[]) .nilFunc).run Tryz.prog W = .ok (.bool true) W := by kernel_rfl
theorem ne_nil (W : World) : (binOp .neq 60 .nilFunc .nilFunc).run Tryz.prog W = .ok (.bool false) W := by kernel_rfl
/-- What read leaves. -/
def ReadO (w0 : World) (num : Int) (L : Option (List Int × List Int)) (EA ET : Addr) (e : Ending) (w' : World) : Prop :=
  match L with
  | none => e = .returned (flt num ET) ∧ ∃ s nx P B vP vB, RSt w0 w' num s nx P B vP vB
  | some (P, B) => if P.all scalarP = true then e = .returned .nilIface ∧ ∃ s nx vP vB, RSt w0 w' num s nx P B vP vB else e = .returned (flt num EA) ∧ ∃ s nx P B vP vB, RSt w0 w' num s nx P B vP vB
set_option maxRecDepth 10000 in
set_option maxHeartbeats 1600000 in
theorem read_any (w0 V : World) (num : Int) (s0 : By) (nx0 vP0 vB0 : Value) (EA ET : Addr) (h : RSt w0 V num s0 nx0 [] [] vP0 vB0) (hs : s0.length ≤ 4194000) (hT : w0.cell? ⟨2, 0, none⟩ = some (.iface 189 (.pointer (some ET)))) (hA : w0.cell? ⟨1, 0, none⟩ = some (.iface 189 (.pointer (some EA)))) (hSy : Syn w0) :
    Calls Tryz.prog 27 #[.pointer (some ⟨w0.heap.size, 0, none⟩)] V fun e w' => Hid (ReadO w0 num (rdS (s0.length + 2) true s0 [] []) EA ET e w') := by
  obtain ⟨L, hL⟩ : ∃ L, rdS (s0.length + 2) true s0 [] [] = L := ⟨_, rfl⟩
  rw [hL]
  have H0 : Hid (Rng w0 (V.setCell ⟨w0.heap.size, 2, none⟩ markV) num s0.length (s0.length + 1) L) := hid0 ⟨_, _, _, _, _, _, h.set (nx' := markV) rfl, .inr ⟨true, _, rfl, Nat.le_refl _, Nat.le_refl _, by simp, by simp, hL⟩⟩
  obtain ⟨_, _, v2, _, _, vf⟩ := h.boxc
  have vf2 := vf 2
  have HM : Hid (∀ wr g m s nx P B vP vB, RSt w0 wr num s nx P B vP vB → s.length + 1 ≤ g + 1 → s.length + 2 ≤ m → P.length + s.length ≤ s0.length → B.length + s.length ≤ s0.length → rdS m true s P B = L → ∃ nx' bad, (nx' = .nilFunc ∨ nx' = pointV ∨ nx' = markV) ∧ (bad = true → nx' = .nilFunc ∧ L = none) ∧ Calls Tryz.prog 49 #[.pointer (some ⟨w0.heap.size, 0, none⟩)] wr fun e w' => StepO w0 num s0.length g L nx nx' bad ET e w') := hid0 (fun wr g m s nx P B vP vB h h1 h2 h3 h4 h5 => stepM_any w0 wr num s0.length g m L s nx ET P B vP vB h (by omega) h1 h2 h3 h4 h5 hT)
  have HP : Hid (∀ wr g m s nx P B vP vB, RSt w0 wr num s nx P B vP vB → s.length + 1 ≤ g + 1 → s.length + 2 ≤ m → P.length + s.length ≤ s0.length → B.length + s.length ≤ s0.length → rdS m false s P B = L → ∃ nx' bad, (nx' = .nilFunc ∨ nx' = pointV ∨ nx' = markV) ∧ (bad = true → nx' = .nilFunc ∧ L = none) ∧ Calls Tryz.prog 71 #[.pointer (some ⟨w0.heap.size, 0, none⟩)] wr fun e w' => StepO w0 num s0.length g L nx nx' bad ET e w') := hid0 (fun wr g m s nx P B vP vB h h1 h2 h3 h4 h5 => stepP_any w0 wr num s0.length g m L s nx ET P B vP vB h (by omega) h1 h2 h3 h4 h5 hT hSy)
  have HN : Hid (L = none → ∀ w', (∃ s nx P B vP vB, RSt w0 w' num s nx P B vP vB) → ReadO w0 num L EA ET (.returned (flt num ET)) w') := hid0 (fun hq w' hx => by rw [hq]; exact ⟨rfl, hx⟩)
  have hfl : flt num ET = .iface 42 (.agg #[.int .i64 num, .iface 189 (.pointer (some ET))]) := rfl
  have hst0 := store_fn V ⟨w0.heap.size, 2, none⟩ 49 nx0 v2 vf2
  unfold markV at H0
  clear h vf hL v2 vf2
  obtain ⟨N, hN⟩ : ∃ N, N = s0.length := ⟨_, rfl⟩
  rw [← hN] at H0 HM HP
  have hNs : N ≤ 4194000 := by rw [hN]; exact hs
  clear hN hs
  go_enter Tryz.func27, Tryz.ntmps27
  go_wp2
  go_loopg [] (N + 1) (fun g wr => Rng w0 wr num N g L)
  case atStart => exact H0.out
  case round =>
    clear H0
    obtain ⟨s, nx, P, B, vP, vB, hr, hcs⟩ := hrel.is
    clear hrel
    obtain ⟨_, _, b2, b3, _, bf⟩ := hr.boxc
    have HR := hid0 hr
    have ne1 := ne_mark
    have ne2 := ne_point
    have ne3 := ne_nil
    rcases hcs with ⟨rfl, hLs, hPl⟩ | ⟨b, m, rfl, c1, c2, c3, c4, c5⟩
    · obtain ⟨aP, cP, rfl, iP⟩ := OwnI.ia hr.rp
      have HAl := hid0 (allScalar_any P aP cP EA wr (by omega) iP ((hr.bel.cell (World.block_lt_of_cell? w0 _ hA)).trans hA))
      have HF : Hid (∀ W, RSt w0 W num s .nilFunc P B (.slice aP P.length cP) vB → Calls Tryz.prog 28 #[.pointer (some ⟨w0.heap.size, 0, none⟩), .iface 189 (.pointer (some EA))] W fun e w' => e = .returned (flt num EA) ∧ w' = W) := hid0 (fun W hW => fault_any w0.heap.size num _ .nilFunc _ vB EA W hW.at')
      have HEa : Hid (∀ W, RSt w0 W num s .nilFunc P B (.slice aP P.length cP) vB → W.cell? ⟨1, 0, none⟩ = some (.iface 189 (.pointer (some EA)))) := hid0 (fun W hW => (hW.bel.cell (World.block_lt_of_cell? w0 _ hA)).trans hA)
      clear hr iP HM HP HN bf hA hT hSy hPl
      cases hall : P.all scalarP with
      | true =>
        rw [hall] at HAl
        have HO : Hid (∀ W, RSt w0 W num s .nilFunc P B (.slice aP P.length cP) vB → ReadO w0 num L EA ET (.returned .nilIface) W) := hid0 (fun W hW => by rw [hLs]; unfold ReadO; simp only [hall, if_true]; exact ⟨trivial, _, _, _, _, hW⟩)
        clear HF hall hLs
        go_wp2_with (go_at_call 37; refine HAl.out.mono ?_; rintro e x1 ⟨rfl, h1⟩; have HX := hid0 (HR.out.past h1.out); clear h1)
        go_ret
        exact hid0 (HO.out _ HX.out)
      | false =>
        rw [hall] at HAl
        have HO : Hid (∀ W, RSt w0 W num s .nilFunc P B (.slice aP P.length cP) vB → ReadO w0 num L EA ET (.returned (flt num EA)) W) := hid0 (fun W hW => by rw [hLs]; unfold ReadO; simp only [hall, Bool.false_eq_true, if_false]; exact ⟨trivial, _, _, _, _, _, _, hW⟩)
        clear hall hLs
        go_wp2_with (first
          | (go_at_call 37; refine HAl.out.mono ?_; rintro e x1 ⟨rfl, h1⟩; have HX := hid0 (HR.out.past h1.out); clear h1; have k5 := HEa.out _ HX.out)
          | (go_at_call 28; refine (HF.out _ HX.out).mono ?_; rintro e x2 ⟨rfl, rfl⟩)
          | fail)
        go_ret
        exact hid0 (HO.out _ HX.out)
    · cases gk with
      | zero => exact absurd c1 (by omega)
      | succ g =>
        cases b with
        | true =>
          obtain ⟨nx', bad, n1, n2, hC⟩ := HM.out wr g m s _ P B vP vB hr c1 c2 c3 c4 c5
          have HC := hid0 hC
          clear hC HM HP hr c2 c3 c4 c5 bf
          simp only [if_true] at b2
          unfold markV at b2
          cases bad with
          | true =>
            obtain ⟨rfl, hLn⟩ := n2 rfl
            have HO := hid0 (HN.out hLn)
            clear n1 n2 HN
            go_wp2_with (go_at_call 49; refine HC.out.mono ?_; rintro e x1 ⟨rfl, hx⟩; obtain ⟨⟨k1, k2⟩, _, hS⟩ := hx.out; have HX := hid0 hS; clear hS hx; have hst := store_nf x1 ⟨w0.heap.size, 2, none⟩ _ k1 k2; clear k1 k2)
            go_ret
            exact hid0 (HO.out _ HX.out)
          | false =>
            clear n2 HN
            rcases n1 with rfl | rfl | rfl
            · go_wp2_with (go_at_call 49; refine HC.out.mono ?_; rintro e x1 ⟨rfl, hx⟩; obtain ⟨⟨k1, k2⟩, hS, _⟩ := hx.out; have HX := hid0 (hS rfl); clear hS hx; have hst := store_nf x1 ⟨w0.heap.size, 2, none⟩ _ k1 k2; clear k1 k2)
              go_roundg g
              case measure => omega
              case rel => exact HX.out
            · unfold pointV at HC
              go_wp2_with (go_at_call 49; refine HC.out.mono ?_; rintro e x1 ⟨rfl, hx⟩; obtain ⟨⟨k1, k2⟩, hS, _⟩ := hx.out; have HX := hid0 (hS rfl); clear hS hx; have hst := store_fn x1 ⟨w0.heap.size, 2, none⟩ 71 _ k1 k2; clear k1 k2)
              go_roundg g
              case measure => omega
              case rel => exact HX.out
            · unfold markV at HC
              go_wp2_with (go_at_call 49; refine HC.out.mono ?_; rintro e x1 ⟨rfl, hx⟩; obtain ⟨⟨k1, k2⟩, hS, _⟩ := hx.out; have HX := hid0 (hS rfl); clear hS hx; have hst := store_fn x1 ⟨w0.heap.size, 2, none⟩ 49 _ k1 k2; clear k1 k2)
              go_roundg g
              case measure => omega
              case rel => exact HX.out
        | false =>
          obtain ⟨nx', bad, n1, n2, hC⟩ := HP.out wr g m s _ P B vP vB hr c1 c2 c3 c4 c5
          have HC := hid0 hC
          clear hC HM HP hr c2 c3 c4 c5 bf
          simp only [Bool.false_eq_true, if_false] at b2
          unfold pointV at b2
          cases bad with
          | true =>
            obtain ⟨rfl, hLn⟩ := n2 rfl
            have HO := hid0 (HN.out hLn)
            clear n1 n2 HN
            go_wp2_with (go_at_call 71; refine HC.out.mono ?_; rintro e x1 ⟨rfl, hx⟩; obtain ⟨⟨k1, k2⟩, _, hS⟩ := hx.out; have HX := hid0 hS; clear hS hx; have hst := store_nf x1 ⟨w0.heap.size, 2, none⟩ _ k1 k2; clear k1 k2)
            go_ret
            exact hid0 (HO.out _ HX.out)
          | false =>
            clear n2 HN
            rcases n1 with rfl | rfl | rfl
            · go_wp2_with (go_at_call 71; refine HC.out.mono ?_; rintro e x1 ⟨rfl, hx⟩; obtain ⟨⟨k1, k2⟩, hS, _⟩ := hx.out; have HX := hid0 (hS rfl); clear hS hx; have hst := store_nf x1 ⟨w0.heap.size, 2, none⟩ _ k1 k2; clear k1 k2)
              go_roundg g
              case measure => omega
              case rel => exact HX.out
            · unfold pointV at HC
              go_wp2_with (go_at_call 71; refine HC.out.mono ?_; rintro e x1 ⟨rfl, hx⟩; obtain ⟨⟨k1, k2⟩, hS, _⟩ := hx.out; have HX := hid0 (hS rfl); clear hS hx; have hst := store_fn x1 ⟨w0.heap.size, 2, none⟩ 71 _ k1 k2; clear k1 k2)
              go_roundg g
              case measure => omega
              case rel => exact HX.out
            · unfold markV at HC
              go_wp2_with (go_at_call 71; refine HC.out.mono ?_; rintro e x1 ⟨rfl, hx⟩; obtain ⟨⟨k1, k2⟩, hS, _⟩ := hx.out; have HX := hid0 (hS rfl); clear hS hx; have hst := store_fn x1 ⟨w0.heap.size, 2, none⟩ 49 _ k1 k2; clear k1 k2)
              go_roundg g
              case measure => omega
              case rel => exact HX.out
end Go.Proofs.YtcbepmjojppokaaGreatDoor
