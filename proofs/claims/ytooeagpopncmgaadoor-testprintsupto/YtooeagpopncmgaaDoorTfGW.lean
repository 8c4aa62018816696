/-
  Cases in memory; the document's Print (stage 23).
-/
import Derived.Test.YtooeagpopncmgaaDoorTfEW
import Derived.Test.YtooeagpopncmgaaDoorTfFM
namespace Go.Proofs.YtooeagpopncmgaaDoor
open Go.RowKit Go.Shelf
/-- Cases in memory. -/
structure CsA (w : World) (a : Option Addr) (C : List Cs) : Prop where
  at' : ∀ k (hk : k < C.length), ∃ (b off : Nat) (aP aB : Option Addr) (cP cB : Nat), a = some ⟨b, off, none⟩ ∧ b < w.heap.size ∧ w.cell? ⟨b, off + k * 2, none⟩ = some (.slice aP C[k].1.length cP) ∧ w.cell? ⟨b, off + k * 2 + 1, none⟩ = some (.slice aB C[k].2.length cB) ∧ IA w aP C[k].1 ∧ IA w aB C[k].2
theorem CsA.past {w w' : World} {a : Option Addr} {C : List Cs} (h : CsA w a C) (hb : Below w.heap.size w w') : CsA w' a C := ⟨fun k hk => by
  obtain ⟨b, off, aP, aB, cP, cB, e, hl, h1, h2, h3, h4⟩ := h.at' k hk
  exact ⟨b, off, aP, aB, cP, cB, e, Nat.lt_of_lt_of_le hl hb.size, (hb.cell (p := ⟨b, off + k * 2, none⟩) hl).trans h1, (hb.cell (p := ⟨b, off + k * 2 + 1, none⟩) hl).trans h2, h3.past hb, h4.past hb⟩⟩
theorem CsA.get {w : World} {a : Option Addr} {C : List Cs} (h : CsA w a C) (k : Nat) (hk : k < C.length) : ∃ (P B : List Int) (b off : Nat) (aP aB : Option Addr) (cP cB : Nat), C[k] = (P, B) ∧ a = some ⟨b, off, none⟩ ∧ b < w.heap.size ∧ w.cell? ⟨b, off + k * 2, none⟩ = some (.slice aP P.length cP) ∧ w.cell? ⟨b, off + k * 2 + 1, none⟩ = some (.slice aB B.length cB) ∧ IA w aP P ∧ IA w aB B := by
  obtain ⟨b, off, aP, aB, cP, cB, e, hl, h1, h2, h3, h4⟩ := h.at' k hk
  exact ⟨_, _, b, off, aP, aB, cP, cB, rfl, e, hl, h1, h2, h3, h4⟩
set_option maxRecDepth 10000 in
set_option maxHeartbeats 3200000 in
theorem refPrint_any (C : List Cs) (a : Option Addr) (cap : Nat) (w : World) (hl : C.length ≤ 1000000000) (hP : ∀ x ∈ C, x.1.length ≤ 20000000 ∧ x.2.length ≤ 1000000000) (hC : CsA w a C) :
    Calls Tryd.prog 8 #[.slice a C.length cap] w fun e w' => e = .returned (.tuple #[.string ⟨(sayT C).toArray⟩, .int .i64 (sayN C : Int)]) ∧ Hid (Below w.heap.size w w') := by
  have HC := hid0 hC
  have HPm := hid0 hP
  obtain ⟨n, hn⟩ : ∃ n, n = C.length := ⟨_, rfl⟩
  have HN := hid0 hn
  have HSay := hid0 (And.intro (fun h => say_many (C := C) h) (And.intro (fun h h2 => say_arg (C := C) h h2) (And.intro (fun h h2 h3 => say_long (C := C) h h2 h3) (fun h h2 h3 => say_fine (C := C) h h2 h3))))
  have HMy : Hid (∀ k (hk : k < C.length) (P B : List Int), C[k] = (P, B) → ∀ (mb : Bool), mayC P B = mb → ∀ (aP aB : Option Addr) (cP cB : Nat) (W : World), Below w.heap.size w W → IA w aP P → IA w aB B → Calls Tryd.prog 14 #[.agg #[.slice aP P.length cP, .slice aB B.length cB]] W fun e w' => e = .returned (.bool mb) ∧ Hid (Below W.heap.size W w')) := hid0 (fun k hk P B hx mb hmb aP aB cP cB W hW h1 h2 => by
    have hp := hP _ (List.getElem_mem hk)
    rw [hx] at hp
    rw [← hmb]
    exact refMayBe_any P B aP aB cP cB W (by have := hp.1; simp only at this; omega) hp.2 (h1.past hW) (h2.past hW))
  have HSh : Hid (∀ k (hk : k < C.length) (P B : List Int), C[k] = (P, B) → ∀ (T : List UInt8), shF P B P.length = T → ∀ (aP aB : Option Addr) (cP cB : Nat) (W : World), Below w.heap.size w W → okC C = true → IA w aP P → IA w aB B → Calls Tryd.prog 15 #[.agg #[.slice aP P.length cP, .slice aB B.length cB]] W fun e w' => e = .returned (.string ⟨T.toArray⟩) ∧ Hid (Below W.heap.size W w')) := hid0 (fun k hk P B hx T hT aP aB cP cB W hW hok h1 h2 => by
    have hp := hP _ (List.getElem_mem hk)
    have hm := okC_at hok k hk
    rw [hx] at hp hm
    rw [← hT]
    exact refShort_any P B aP aB cP cB W hp.1 hp.2 (h1.past hW) (h2.past hW) hm)
  rw [← hn] at hl ⊢
  clear hC hn hP
  by_cases hbig : 20000 < n
  · have hbI : (n : Int) > 20000 := by omega
    obtain ⟨e1, e2⟩ := HSay.out.1 (by rw [← HN.out]; exact hbig)
    rw [e1, e2]
    clear HSay HMy HSh
    go_enter Tryd.func8, Tryd.ntmps8
    go_wp2
    go_ret2
    exact ⟨rfl, hid0 (Below.refl _ _)⟩
  · have hbI : ¬ (n : Int) > 20000 := by omega
    have hbC : ¬ 20000 < C.length := by rw [← HN.out]; exact hbig
    have HbC := hid0 hbC
    clear hbC
    obtain ⟨sN, hsN⟩ : ∃ sN, sN = sayN C := ⟨_, rfl⟩
    obtain ⟨sT, hsT⟩ : ∃ sT, sT = sayT C := ⟨_, rfl⟩
    rw [← hsN, ← hsT] at HSay ⊢
    clear hsN hsT
    go_enter Tryd.func8, Tryd.ntmps8
    go_wp2
    go_loopw [4] (fun v wr => ∃ k : Nat, k ≤ n ∧ v = .int .i64 (k : Int) ∧ Hid (∀ i (hi : i < C.length), i < k → mayC C[i].1 C[i].2 = true) ∧ Hid (Below w.heap.size w wr)) (fun v _ => n - (intOf v).toNat)
    case atStart => exact ⟨0, Nat.zero_le _, rfl, hid0 (fun _ _ h => absurd h (Nat.not_lt_zero _)), hid0 (Below.refl _ _)⟩
    case round =>
      obtain ⟨k, hk, rfl, HA, HB⟩ := hrel
      by_cases hlt : k < n
      · have hkI : (k : Int) < (n : Int) := by omega
        have hkI0 : (0 : Int) ≤ (k : Int) := by omega
        have hkr : k < C.length := by rw [← HN.out]; exact hlt
        obtain ⟨P, B, b, off, aP, aB, cP, cB, hx, rfl, hbl, d0, d1, i1, i2⟩ := HC.out.get k hkr
        have y0 : wr.cell? ⟨b, off + k * 2, none⟩ = some (.slice aP P.length cP) := (HB.out.cell (p := ⟨b, off + k * 2, none⟩) hbl).trans d0
        have y1 : wr.cell? ⟨b, off + k * 2 + 1, none⟩ = some (.slice aB B.length cB) := (HB.out.cell (p := ⟨b, off + k * 2 + 1, none⟩) hbl).trans d1
        clear d0 d1
        cases hm : mayC P B with
        | false =>
          have HM := hid0 (HMy.out k hkr P B hx false hm aP aB cP cB wr HB.out i1 i2)
          have HX := hid0 (HSay.out.2.1 HbC.out (okC_no k hkr (by rw [hx]; exact hm)))
          clear hm hkr hx i1 i2
          generalize P.length = nP at *
          generalize B.length = nB at *
          obtain ⟨x1, x2⟩ := HX.out
          subst x1
          subst x2
          clear HSay HX HSh HMy
          go_wp2_with (go_at_call 14; go_loud ((refine HM.out.mono ?_; rintro e w1 ⟨rfl, H1⟩)))
          go_ret2
          exact ⟨rfl, hid0 (HB.out.trans (H1.out.mono HB.out.size))⟩
        | true =>
          have HM := hid0 (HMy.out k hkr P B hx true hm aP aB cP cB wr HB.out i1 i2)
          have HA2 : Hid (∀ i (hi : i < C.length), i < k + 1 → mayC C[i].1 C[i].2 = true) := hid0 (fun i hi h => by
            by_cases e : i = k
            · subst e; rw [hx]; exact hm
            · exact HA.out i hi (by omega))
          clear hm hkr hx HA i1 i2
          generalize P.length = nP at *
          generalize B.length = nB at *
          clear HSay HSh HMy
          go_wp2_with (go_at_call 14; go_loud ((refine HM.out.mono ?_; rintro e w1 ⟨rfl, H1⟩)))
          go_roundw
          case rel => exact ⟨k + 1, by omega, by go_num, HA2, hid0 (HB.out.trans (H1.out.mono HB.out.size))⟩
          case measure => simp [intOf]; omega
      · have hkI : ¬ (k : Int) < (n : Int) := by omega
        have hok : okC C = true := okC_all (fun i hi => HA.out i hi (by have := HN.out; omega))
        have HOk := hid0 hok
        clear hok HA HMy
        have H00 : Hid ((⟨(jn C 0).toArray⟩ : ByteArray) = ⟨#[]⟩) := hid0 rfl
        obtain ⟨wz, hwz⟩ : ∃ wz, wz = wr := ⟨_, rfl⟩
        rw [← hwz] at HB ⊢
        have HBz := hid0 HB.out
        clear hwz HB
        go_wp2
        go_loopw [6, 7] (fun s v wr => ∃ k : Nat, k ≤ n ∧ v = .int .i64 (k : Int) ∧ Hid (s = .string ⟨(jn C k).toArray⟩) ∧ Hid (Below w.heap.size w wr)) (fun _ v _ => n - (intOf v).toNat)
        case atStart => exact ⟨0, Nat.zero_le _, rfl, hid0 (by rw [H00.out]), HBz⟩
        case round =>
          clear H00 HBz
          obtain ⟨k, hk, rfl, HS, HB⟩ := hrel
          by_cases hlt : k < n
          · have hkI : (k : Int) < (n : Int) := by omega
            have hkI0 : (0 : Int) ≤ (k : Int) := by omega
            have hkr : k < C.length := by rw [← HN.out]; exact hlt
            obtain ⟨P, B, b, off, aP, aB, cP1, cB1, hx, rfl, hbl, d0, d1, i1, i2⟩ := HC.out.get k hkr
            have y0 : wr.cell? ⟨b, off + k * 2, none⟩ = some (.slice aP P.length cP1) := (HB.out.cell (p := ⟨b, off + k * 2, none⟩) hbl).trans d0
            have y1 : wr.cell? ⟨b, off + k * 2 + 1, none⟩ = some (.slice aB B.length cB1) := (HB.out.cell (p := ⟨b, off + k * 2 + 1, none⟩) hbl).trans d1
            obtain ⟨T2, hT2⟩ : ∃ T2, shF P B P.length = T2 := ⟨_, rfl⟩
            have HM := hid0 (HSh.out k hkr P B hx T2 hT2 aP aB cP1 cB1 wr HB.out HOk.out i1 i2)
            have hjl := jn_len C 20000000 (fun x hx => (HPm.out x hx).1) k
            have hsl := shF_len P B P.length
            have hpl : P.length ≤ 20000000 := by have := (HPm.out _ (List.getElem_mem hkr)).1; rw [hx] at this; exact this
            have HJ : Hid (jn C (k + 1) = jn C k ++ sep k ++ T2) := hid0 (by rw [jn, cP_at hkr, cB_at hkr, hx, ← hT2])
            rw [hT2] at hsl
            clear d0 d1 i1 i2 hT2 hx
            generalize P.length = nP at *
            generalize B.length = nB at *
            obtain ⟨L, hL⟩ : ∃ L, L = jn C k := ⟨_, rfl⟩
            rw [← hL] at HS HJ hjl
            have hLs : (⟨L.toArray⟩ : ByteArray).size ≤ 5000000000000 := by
              rw [strT]
              have : k * (10 * 20000000 + 3) ≤ 20000 * (10 * 20000000 + 3) := Nat.mul_le_mul_right _ (by omega)
              omega
            have hTs : (⟨T2.toArray⟩ : ByteArray).size ≤ 200000002 := by rw [strT]; omega
            have HSt := HS.out
            subst HSt
            by_cases h0 : 0 < k
            · have h0I : (k : Int) > 0 := by omega
              have HX : Hid ((⟨L.toArray⟩ : ByteArray) ++ ⟨#[10]⟩ ++ ⟨T2.toArray⟩ = ⟨(jn C (k + 1)).toArray⟩) := hid0 (by rw [lit1, app_arrT, app_arrT, HJ.out]; unfold sep; rw [if_neg (by omega)])
              clear HS HJ hL hjl hsl hpl hkr HSay HSh
              generalize (⟨L.toArray⟩ : ByteArray) = LS at *
              generalize (⟨T2.toArray⟩ : ByteArray) = TS at *
              have g1 : ¬ 9223372036854775807 < LS.size + 1 := by omega
              have g2 : ¬ 9223372036854775807 < LS.size + 1 + TS.size := by omega
              go_wp2_with (go_at_call 15; go_loud ((refine HM.out.mono ?_; rintro e w1 ⟨rfl, H1⟩)))
              go_roundw
              case rel => exact ⟨k + 1, by omega, by go_num, hid0 (by rw [HX.out]), hid0 (HB.out.trans (H1.out.mono HB.out.size))⟩
              case measure => simp [intOf]; omega
            · have h0I : ¬ (k : Int) > 0 := by omega
              have HX : Hid ((⟨L.toArray⟩ : ByteArray) ++ ⟨T2.toArray⟩ = ⟨(jn C (k + 1)).toArray⟩) := hid0 (by rw [app_arrT, HJ.out]; unfold sep; rw [if_pos (by omega), List.append_nil])
              clear HS HJ hL hjl hsl hpl hkr HSay HSh
              generalize (⟨L.toArray⟩ : ByteArray) = LS at *
              generalize (⟨T2.toArray⟩ : ByteArray) = TS at *
              have g1 : ¬ 9223372036854775807 < LS.size + TS.size := by omega
              go_wp2_with (go_at_call 15; go_loud ((refine HM.out.mono ?_; rintro e w1 ⟨rfl, H1⟩)))
              go_roundw
              case rel => exact ⟨k + 1, by omega, by go_num, hid0 (by rw [HX.out]), hid0 (HB.out.trans (H1.out.mono HB.out.size))⟩
              case measure => simp [intOf]; omega
          · have hkI : ¬ (k : Int) < (n : Int) := by omega
            have hkn : k = C.length := by have := HN.out; omega
            have HSt := HS.out
            rw [hkn] at HSt
            subst HSt
            by_cases hlong : 1048576 < (jn C C.length).length
            · have HX := hid0 (HSay.out.2.2.1 HbC.out HOk.out hlong)
              obtain ⟨x1, x2⟩ := HX.out
              subst x1
              subst x2
              have hzI : ((⟨(jn C C.length).toArray⟩ : ByteArray).size : Int) > 1048576 := by rw [strT]; omega
              clear HSay HX HSh HS hlong
              generalize (⟨(jn C C.length).toArray⟩ : ByteArray) = LS at *
              go_wp2
              go_ret2
              exact ⟨rfl, HB⟩
            · have HX := hid0 (HSay.out.2.2.2 HbC.out HOk.out hlong)
              obtain ⟨x1, x2⟩ := HX.out
              subst x1
              subst x2
              have hzI : ¬ ((⟨(jn C C.length).toArray⟩ : ByteArray).size : Int) > 1048576 := by rw [strT]; omega
              clear HSay HX HSh HS hlong
              obtain ⟨LS, hLS⟩ : ∃ LS, LS = (⟨(jn C C.length).toArray⟩ : ByteArray) := ⟨_, rfl⟩
              have HLS := hid0 hLS
              rw [← hLS] at hzI ⊢
              clear hLS
              go_wp2
              go_ret2
              exact ⟨by rw [← HLS.out]; rfl, HB⟩
end Go.Proofs.YtooeagpopncmgaaDoor
