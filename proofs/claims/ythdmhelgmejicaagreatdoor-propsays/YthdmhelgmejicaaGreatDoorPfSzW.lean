/-
  PfY9W, PfYaW, SayO.
-/
import Derived.Test.YthdmhelgmejicaaGreatDoorPfSxW
import Derived.Laws.OwnMore
import Derived.Deep.AppendLies
import Derived.Deep.RegionHeldLaw
import Derived.Test.YthdmhelgmejicaaGreatDoorSentP
import Derived.ChangeSlices
import Derived.Deep.Slices
import Derived.Lay
namespace Go.Proofs.YthdmhelgmejicaaGreatDoor
open Go.RowKit Go.Shelf
/-- What stands while the points are tried. -/
structure Fx (w W : World) (a : Option Addr) (L : List Li) (pb : Nat) (aN aS : Option Addr) (cN cS : Nat) (names : List ByteArray) (sp : List Sp) : Prop where
  la : LA W a L
  bel : Below w.heap.size w W
  sa : SA W aN names
  pa : PA W aS sp
  box : W.heap[pb]? = some (.cells #[.slice aN names.length cN, .slice aS sp.length cS] 25 (0, 0))
theorem Fx.later {w W W' : World} {a : Option Addr} {L : List Li} {pb : Nat} {aN aS : Option Addr} {cN cS : Nat} {names : List ByteArray} {sp : List Sp} (h : Fx w W a L pb aN aS cN cS names sp) (hb : Below W.heap.size W W') : Fx w W' a L pb aN aS cN cS names sp :=
  ⟨h.la.later hb, h.bel.trans (hb.mono h.bel.size), h.sa.later hb, h.pa.later hb, (hb.block _ (Array.getElem?_eq_some_iff.1 h.box).1).trans h.box⟩
theorem Fx.p0 {w W : World} {a : Option Addr} {L : List Li} {pb : Nat} {aN aS : Option Addr} {cN cS : Nat} {names : List ByteArray} {sp : List Sp} (h : Fx w W a L pb aN aS cN cS names sp) : W.cell? ⟨pb, 0, none⟩ = some (.slice aN names.length cN) := by rw [cell_of_row _ _ _ _ _ _ h.box]; rfl
theorem Fx.p1 {w W : World} {a : Option Addr} {L : List Li} {pb : Nat} {aN aS : Option Addr} {cN cS : Nat} {names : List ByteArray} {sp : List Sp} (h : Fx w W a L pb aN aS cN cS names sp) : W.cell? ⟨pb, 1, none⟩ = some (.slice aS sp.length cS) := by rw [cell_of_row _ _ _ _ _ _ h.box]; rfl
theorem fx_at {w w2 w3 : World} {a : Option Addr} {L : List Li} {aN aS : Option Addr} {cN cS : Nat} {names : List ByteArray} {sp : List Sp} (hl : LA w3 a L) (hb : Below w.heap.size w w3) (hs : SA w2 aN names) (hp : PA w2 aS sp)
    (hk : (w2.alloc (.cells #[.slice aN names.length cN, .slice aS sp.length cS] 25)).heap[w2.heap.size]? = some (.cells #[.slice aN names.length cN, .slice aS sp.length cS] 25 (0, 0)))
    (h3 : Below (w2.alloc (.cells #[.slice aN names.length cN, .slice aS sp.length cS] 25)).heap.size (w2.alloc (.cells #[.slice aN names.length cN, .slice aS sp.length cS] 25)) w3) : Fx w w3 a L w2.heap.size aN aS cN cS names sp := by
  have h2 := (Below.refl w2.heap.size w2).alloc (Nat.le_refl _) (.cells #[.slice aN names.length cN, .slice aS sp.length cS] 25)
  exact ⟨hl, hb, (hs.later h2).later h3, (hp.later h2).later h3, (h3.block _ (by simp)).trans hk⟩
theorem names_ok {L : List Li} {s : PS} (h : Run L s) : ∀ t ∈ joinL s.sp, 0 ≤ t.2.2 ∧ t.2.2 < (s.names.length : Int) := fun t ht => by
  obtain ⟨hg, hp, _⟩ := join_good s.sp h.ok.rise
  have hle := hg.rise.le t ht
  obtain ⟨u, hu, e, _⟩ := (hp t.2.2 t.1).1 ⟨t, ht, rfl, Int.le_refl _, hle⟩
  obtain ⟨_, _, k, hk, e2⟩ := h.ok.bnd u ((h.ok.mem u).1 hu)
  omega
theorem OwnI.later {w w' : World} {base : Nat} {v : Value} {ps : List Int} (h : OwnI w base v ps) (hb : Below w.heap.size w w') : OwnI w' base v ps := by
  obtain ⟨h1, h2⟩ := h
  refine ⟨h1, ?_⟩
  rcases h2 with h2 | ⟨g, cap, cur, hv, hg, hh, r⟩
  · exact .inl h2
  · exact .inr ⟨g, cap, cur, hv, hg, (hb.block g (Array.getElem?_eq_some_iff.1 hh).1).trans hh, r⟩
set_option maxRecDepth 10000 in
set_option maxHeartbeats 3200000 in
theorem says_okA (L : List Li) (a : Option Addr) (ca : Nat) (pt : Int) (A : Nat → Addr) (w : World) (s : PS) (hn : L.length ≤ 200) (hL : LA w a L) (hE : Sents w A) (hT : TabAt 19 Lib.deBruijn64tab w) (hp : parseL (textL L) = .ok s) (hr : Run L s) (hov : OvIs L (-1)) :
    Calls Tryz.prog 6 #[.agg #[.slice a L.length ca, .int .i64 pt]] w fun e w' => e = .returned (.bool true) ∧ Below w.heap.size w w' := by
  obtain ⟨m, hm⟩ : ∃ m, L.length = m := ⟨_, rfl⟩
  rw [hm]
  have hlen : (textL L).length ≤ 12200 := by have := all_len L; omega
  have HTL : Hid (∀ k, (rd (textL (L.take k))).size ≤ 12200) := hid0 (fun k => by
    have h1 := all_len (L.take k)
    have h2 : (L.take k).length ≤ L.length := by simp; omega
    simp only [ByteArray.size, List.size_toArray]
    omega)
  have HKn := hid0 (fun W (h : Below w.heap.size w W) => known_any A W (hE.below h) (tab_later hT h))
  have HTx := hid0 (fun (l : Li) W => text_at l W)
  have hPa := fun W (h : Below w.heap.size w W) => parse_any (textL L) (by omega) A W (hE.below h)
  rw [hp] at hPa
  have HPa := hid0 hPa
  have HOv : Hid (∀ W, LA W a L → Calls Tryz.prog 16 #[.slice a m ca] W fun e w' => e = .returned (.int .i64 (-1)) ∧ Below W.heap.size W w') := hid0 (fun W h => by
    have h0 := overlap_at L a ca W (by omega) h
    rw [hm] at h0
    refine h0.mono ?_
    rintro e w' ⟨r, h1, h2, h3⟩
    exact ⟨by rw [h1, ov_uniq h2 hov], h3⟩)
  have HBX := hid0 (box_at w (.slice a m ca) (.int .i64 pt) 42 a L hL)
  have HB0 := hid0 ((Below.refl w.heap.size w).alloc (Nat.le_refl _) (.cells #[.slice a m ca, .int .i64 pt] 42))
  have HPk : Hid (∀ W, Calls Tryz.prog 17 #[.int .i64 pt, .int .i64 1114112] W fun e w' => e = .returned (.int .i64 (pickN pt 1114112 : Nat)) ∧ w' = W) := hid0 (fun W => pick_at pt 1114112 (by decide) (by decide) W)
  have HCx : Hid (∀ a b ca cb x W, SA W a s.names → PA W b (joinL s.sp) → Calls Tryz.prog 21 #[.agg #[.slice a s.names.length ca, .slice b (joinL s.sp).length cb], .int .i64 x] W fun e w' => e = .returned (.string (wantL L x)) ∧ Below W.heap.size W w') := hid0 (fun a b ca cb x W ha hb => by
    obtain ⟨f1, f2, f3⟩ := few_parse hp
    have f4 := joinL_len s.sp
    have h0 := class_at s.names (joinL s.sp) a b ca cb x W (by omega) (names_ok hr) ha hb
    rw [cls_run hr] at h0
    exact h0)
  clear hPa hp hE hT hL hov hlen
  have hnI : ¬ (200 : Int) < (m : Int) := by omega
  go_enter Tryz.func6, Tryz.ntmps6
  go_wp2_with (first
    | (go_at_call 12; refine (HKn.out _ HB0.out).mono ?_; rintro e w1 ⟨rfl, hb1⟩; have HB1 := hid0 hb1; have x0 := (HBX.out _ hb1).c0; clear hb1)
    | fail)
  clear x0
  generalize hW0 : w.alloc (.cells #[.slice a m ca, .int .i64 pt] 42) = W0 at HBX HB1 HB0
  have hz0 : W0.heap.size = w.heap.size + 1 := by rw [← hW0]; simp
  clear hW0
  go_loopw [5, 6] (fun v t wr => ∃ k : Nat, k ≤ L.length ∧ v = .string (rd (textL (L.take k))) ∧ t = .int .i64 (k : Int) ∧ Hid (Below W0.heap.size W0 wr)) (fun _ t _ => L.length - (intOf t).toNat)
  case atStart => exact ⟨0, Nat.zero_le _, rfl, rfl, HB1⟩
  case round =>
    clear HB1
    obtain ⟨k, hk, rfl, rfl, HB⟩ := hrel
    by_cases hlt : k < L.length
    · have hkI : (k : Int) < (m : Int) := by omega
      have hk0 : (0 : Int) ≤ (k : Int) := by omega
      obtain ⟨b, off, rfl, hbl, c0, c1, c2, c3, c4, c5⟩ := (HBX.out _ HB.out).la.at' k hlt
      have HTk := hid0 (fun W => HTx.out L[k] W)
      have HMo := hid0 (textL_more L k hlt)
      have z1 := HTL.out k
      have z2 : (rd L[k].tx).size ≤ 60 := by have := tx_len L[k]; simpa [ByteArray.size] using this
      generalize rd (textL (L.take k)) = X at *
      generalize rd L[k].tx = Y at *
      generalize L[k] = l at *
      unfold Li.val at HTk
      obtain ⟨la, lb, ln, lbo, lbl, lco⟩ := l
      simp only at c0 c1 c2 c3 c4 c5 HTk
      go_wp2_with (first
        | (go_at_call 15; refine (HTk.out _).mono ?_; rintro e w2 ⟨rfl, hb2⟩; have HB2 := hid0 (HB.out.trans (hb2.mono HB.out.size)); clear hb2)
        | fail)
      go_roundw
      case rel => exact ⟨k + 1, by omega, by rw [HMo.out], by go_num, HB2⟩
      case measure => simp [intOf]; omega
    · have hkI : ¬ (k : Int) < (m : Int) := by omega
      have hkL : L.take k = L := List.take_of_length_le (by omega)
      rw [hkL]
      have z1 := HTL.out L.length
      rw [List.take_of_length_le (Nat.le_refl _)] at z1
      generalize rd (textL L) = X at *
      clear HTx HTL HKn hkL hlt
      go_wp2_with (first
        | (go_at_call 8; refine (HPa.out _ (HBX.out _ HB.out).bel).mono ?_; rintro e w2 ⟨⟨vN, vS, rfl, hN, hS, _⟩, hb2⟩; obtain ⟨aN, cN, rfl, ha⟩ := hN.sa; obtain ⟨aS, cS, rfl, hb⟩ := hS.pa; have HSA := hid0 ha; have HPA := hid0 hb; have HK := hid0 (heap_alloc_new w2 (.cells #[.slice aN s.names.length cN, .slice aS (joinL s.sp).length cS] 25)); have HB2 := hid0 (HB.out.trans (hb2.mono HB.out.size)); have HB3 := hid0 (HB2.out.alloc HB2.out.size (.cells #[.slice aN s.names.length cN, .slice aS (joinL s.sp).length cS] 25)); clear hb2 ha hb hN hS)
        | (go_at_call 16; refine (HOv.out _ (HBX.out _ HB3.out).la).mono ?_; rintro e w3 ⟨rfl, hb3⟩; have HB4 := hid0 (HB3.out.trans (hb3.mono HB3.out.size)); have x1 := (HBX.out _ HB4.out).c1; have HF3 := hid0 (fx_at (HBX.out _ HB4.out).la (HBX.out _ HB4.out).bel HSA.out HPA.out HK.out hb3); clear hb3)
        | (go_at_call 17; refine (HPk.out _).mono ?_; rintro e w4 ⟨rfl, hw4⟩; have hw5 := hw4.symm; subst hw5)
        | fail)
      clear x1 HB HB2 HB3 HB4 HK HSA HPA HPa HOv z1
      generalize ((pickN pt 1114112 : Nat) : Int) = p0
      have HO0 : Hid (OwnI (w3.alloc (.cells #[.int .i64 p0] 3)) w3.heap.size (.slice (some ⟨w3.heap.size, 0, none⟩) 1 1) [p0]) := hid0 (by
        have := World.ownsRow_lit (base := w3.heap.size) (e := 3) (size := 1) w3 #[.int .i64 p0] 1 (by simp) (by unfold maxLen; omega) rfl
        simpa [OwnI] using this)
      have HB5 := hid0 ((Below.refl w3.heap.size w3).alloc (Nat.le_refl _) (.cells #[.int .i64 p0] 3))
      obtain ⟨i0, hi, hy0, hy1, hy2⟩ := info_parts infoInt
      go_loopw [11, 12] (fun v t wr => ∃ (k : Nat) (ps : List Int), k ≤ L.length ∧ t = .int .i64 (k : Int) ∧ Hid (ps.length = 1 + 4 * k) ∧ Hid (OwnI wr w3.heap.size v ps) ∧ Hid (Below w3.heap.size w3 wr)) (fun _ t _ => L.length - (intOf t).toNat)
      case atStart => exact ⟨0, _, Nat.zero_le _, rfl, hid0 rfl, HO0, HB5⟩
      case round =>
        clear HO0 HB5
        obtain ⟨k, ps, hk, rfl, HPS, HO, HB⟩ := hrel
        by_cases hlt : k < L.length
        · have hkI : (k : Int) < (m : Int) := by omega
          have hk0 : (0 : Int) ≤ (k : Int) := by omega
          have hss := HB.out.size
          obtain ⟨b, off, rfl, hbl, c0, c1, c2, c3, c4, c5⟩ := (HF3.out.la).at' k hlt
          have HLi := hid0 (fun W (hW : Below wr.heap.size wr W) => low_in L[k] wr W hW)
          have HHi := hid0 (fun W (hW : Below wr.heap.size wr W) => high_in L[k] wr W hW)
          generalize L[k] = l at *
          generalize l.lo = p1 at *
          generalize l.hi = p2 at *
          unfold Li.val at HLi HHi
          obtain ⟨la, lb, ln, lbo, lbl, lco⟩ := l
          simp only at c0 c1 c2 c3 c4 c5 HLi HHi
          have HS3 : Hid (∀ W, Below w3.heap.size w3 W → W.cell? ⟨b, off + k * 6, none⟩ = some (.int .i64 la) ∧ W.cell? ⟨b, off + k * 6 + 1, none⟩ = some (.int .i64 lb) ∧ W.cell? ⟨b, off + k * 6 + 2, none⟩ = some (.int .i64 ln) ∧ W.cell? ⟨b, off + k * 6 + 3, none⟩ = some (.bool lbo) ∧ W.cell? ⟨b, off + k * 6 + 4, none⟩ = some (.int .i64 lbl) ∧ W.cell? ⟨b, off + k * 6 + 5, none⟩ = some (.bool lco)) := hid0 (fun W hW => ⟨(hW.cell (p := ⟨b, off + k * 6, none⟩) hbl).trans c0, (hW.cell (p := ⟨b, off + k * 6 + 1, none⟩) hbl).trans c1, (hW.cell (p := ⟨b, off + k * 6 + 2, none⟩) hbl).trans c2, (hW.cell (p := ⟨b, off + k * 6 + 3, none⟩) hbl).trans c3, (hW.cell (p := ⟨b, off + k * 6 + 4, none⟩) hbl).trans c4, (hW.cell (p := ⟨b, off + k * 6 + 5, none⟩) hbl).trans c5⟩)
          have HSo : Hid (∀ W, Below wr.heap.size wr W → W.cell? ⟨b, off + k * 6, none⟩ = some (.int .i64 la) ∧ W.cell? ⟨b, off + k * 6 + 1, none⟩ = some (.int .i64 lb) ∧ W.cell? ⟨b, off + k * 6 + 2, none⟩ = some (.int .i64 ln) ∧ W.cell? ⟨b, off + k * 6 + 3, none⟩ = some (.bool lbo) ∧ W.cell? ⟨b, off + k * 6 + 4, none⟩ = some (.int .i64 lbl) ∧ W.cell? ⟨b, off + k * 6 + 5, none⟩ = some (.bool lco)) := hid0 (fun W hW => HS3.out W (HB.out.trans (hW.mono HB.out.size)))
          have HOW : Hid (∀ W, Below wr.heap.size wr W → W.ownsRow w3.heap.size 3 1 u11 (1 + 4 * k) (ps.map (Value.int .i64))) := hid0 (fun W hW => by
            have := (HO.out.later hW)
            unfold OwnI at this
            rwa [HPS.out] at this)
          have hB0 := Below.refl wr.heap.size wr
          have M1 : Hid True := trivial
          have M2 : Hid True := trivial
          clear c0 c1 c2 c3 c4 c5
          go_wp2
          go_region_held3 (fun W => W.cell? ⟨b, off + k * 6, none⟩ = some (.int .i64 la) ∧ W.cell? ⟨b, off + k * 6 + 1, none⟩ = some (.int .i64 lb) ∧ W.cell? ⟨b, off + k * 6 + 2, none⟩ = some (.int .i64 ln) ∧ W.cell? ⟨b, off + k * 6 + 3, none⟩ = some (.bool lbo) ∧ W.cell? ⟨b, off + k * 6 + 4, none⟩ = some (.int .i64 lbl) ∧ W.cell? ⟨b, off + k * 6 + 5, none⟩ = some (.bool lco)) (first | exact HS15.out | exact HSo.out _ (by go_grown)) (first
            | (go_at_call 18; clear M1; refine (HLi.out _ (by go_grown)).mono ?_; rintro e w11 ⟨rfl, hbw1⟩; have hsw1 := hbw1.size)
            | (go_at_call 18; refine (HLi.out _ (by go_grown)).mono ?_; rintro e w13 ⟨rfl, hbw3⟩; have hsw3 := hbw3.size)
            | (go_at_call 19; clear M2; refine (HHi.out _ (by go_grown)).mono ?_; rintro e w12 ⟨rfl, hbw2⟩; have hsw2 := hbw2.size)
            | (go_at_call 19; refine (HHi.out _ (by go_grown)).mono ?_; rintro e w14 ⟨rfl, hbw4⟩; have hsw4 := hbw4.size)
            | (refine step_append_lies _ (by rfl) _ _ _ (by rfl) w3.heap.size 3 i0 (.int .i64 0) 1 8 Tryz.underlying48 hi hy0 hy1 hy2 rfl (by decide) u11 (1 + 4 * k) (ps.map (Value.int .i64)) (by rfl) (World.ownsRow.alloc (w := w14) (HOW.out _ hbw4) _) ⟨w14.heap.size, 0, none⟩ 4 4 [.int .i64 (p1 : Int), .int .i64 (p2 : Int), .int .i64 (IntKind.i64.wrap ((p1 : Int) - 1)), .int .i64 (IntKind.i64.wrap ((p2 : Int) + 1))] (by rfl) (by rfl) (World.news_of_block (cs := #[.int .i64 (p1 : Int), .int .i64 (p2 : Int), .int .i64 (IntKind.i64.wrap ((p1 : Int) - 1)), .int .i64 (IntKind.i64.wrap ((p2 : Int) + 1))]) (t := 3) (fr := (0, 0)) (heap_alloc_new w14 _)) (by simp [Value.oneCell']) (by omega) (by unfold maxLen; omega) (by omega) (by simp; omega) (w14.heap.size + 1) (by simp) ?_; intro g3 cap3 w15 hown3 hgrow3 hat3 hlt3; have HB15 := hid0 (((HB.out.trans (hbw4.mono HB.out.size)).alloc (by omega) _).grown hgrow3 (by simp; omega) (fun k hk => (World.ownsRow.lt HO.out k hk).1)); have HS15 := hid0 (HS3.out _ HB15.out); have HO15 := hid0 hown3; clear hown3 hgrow3 hat3))
          have HN3 : Hid (OwnI w15 w3.heap.size (.slice (some ⟨g3, 0, none⟩) (1 + 4 * k + 4) cap3) (ps ++ [(p1 : Int), (p2 : Int), IntKind.i64.wrap ((p1 : Int) - 1), IntKind.i64.wrap ((p2 : Int) + 1)])) := hid0 (by
            unfold OwnI
            rw [List.length_append, HPS.out, List.map_append]
            exact HO15.out)
          clear HO15
          go_wp2
          go_roundw
          case rel => exact ⟨k + 1, _, by omega, by go_num, hid0 (by rw [List.length_append, HPS.out]; simp; omega), HN3, HB15⟩
          case measure => simp [intOf]; omega
        · have hkI : ¬ (k : Int) < (m : Int) := by omega
          have hps : ps.length ≤ 1000 := by have := HPS.out; omega
          obtain ⟨aI, cI, rfl, hia⟩ := HO.out.ia
          obtain ⟨wz, hwz⟩ : ∃ wz, wz = wr := ⟨_, rfl⟩
          subst hwz
          have HIA := hid0 hia
          have HF := hid0 (HF3.out.later HB.out)
          clear hia HO HB HPS hlt hk HF3
          go_wp2
          go_loopw [13] (fun t wq => ∃ q : Nat, q ≤ ps.length ∧ t = .int .i64 (q : Int) ∧ Hid (Below wz.heap.size wz wq)) (fun t _ => ps.length - (intOf t).toNat)
          case atStart => exact ⟨0, Nat.zero_le _, rfl, hid0 (Below.refl _ _)⟩
          case round =>
            obtain ⟨q, hq, rfl, HB⟩ := hrel
            by_cases hlq : q < ps.length
            · have hqI : (q : Int) < (ps.length : Int) := by omega
              have hq0 : (0 : Int) ≤ (q : Int) := by omega
              obtain ⟨bI, oI, rfl, cx⟩ := HIA.out.at' q hlq
              have hxl := World.block_lt_of_cell? wz _ cx
              generalize ps[q] = x at cx
              have HX : Hid (∀ W, Below wz.heap.size wz W → W.cell? ⟨bI, oI + q, none⟩ = some (.int .i64 x)) := hid0 (fun W hW => (hW.cell (p := ⟨bI, oI + q, none⟩) hxl).trans cx)
              clear cx
              go_wp2
              go_loopw [14, 15] (fun v t wj => ∃ j : Nat, j ≤ L.length ∧ v = .string (wantL (L.take j) x) ∧ t = .int .i64 (j : Int) ∧ Hid (Below wz.heap.size wz wj)) (fun _ t _ => L.length - (intOf t).toNat)
              case atStart => exact ⟨0, Nat.zero_le _, rfl, rfl, HB⟩
              case round =>
                clear HB
                obtain ⟨j, hj, rfl, rfl, HB⟩ := hrel
                obtain ⟨wj, hwj⟩ : ∃ wj, wj = wr := ⟨_, rfl⟩
                subst hwj
                by_cases hlt : j < L.length
                · have hjI : (j : Int) < (m : Int) := by omega
                  have hj0 : (0 : Int) ≤ (j : Int) := by omega
                  obtain ⟨b, off, rfl, hbl, c0, c1, c2, c3, c4, c5⟩ := ((HF.out.later HB.out).la).at' j hlt
                  have HLi := hid0 (fun W (hW : Below wj.heap.size wj W) => low_in L[j] wj W hW)
                  have HHi := hid0 (fun W (hW : Below wj.heap.size wj W) => high_in L[j] wj W hW)
                  have HNm := hid0 (fun W => name_at L[j] W)
                  have HWm := hid0 (wantL_more L j hlt x)
                  generalize wantL (L.take j) x = X at *
                  generalize rd L[j].nm = Y at *
                  generalize L[j] = l at *
                  generalize l.lo = p1 at *
                  generalize l.hi = p2 at *
                  unfold Li.val at HLi HHi HNm
                  obtain ⟨la, lb, ln, lbo, lbl, lco⟩ := l
                  simp only at c0 c1 c2 c3 c4 c5 HLi HHi HNm
                  have HSo : Hid (∀ W, Below wj.heap.size wj W → W.cell? ⟨b, off + j * 6, none⟩ = some (.int .i64 la) ∧ W.cell? ⟨b, off + j * 6 + 1, none⟩ = some (.int .i64 lb) ∧ W.cell? ⟨b, off + j * 6 + 2, none⟩ = some (.int .i64 ln) ∧ W.cell? ⟨b, off + j * 6 + 3, none⟩ = some (.bool lbo) ∧ W.cell? ⟨b, off + j * 6 + 4, none⟩ = some (.int .i64 lbl) ∧ W.cell? ⟨b, off + j * 6 + 5, none⟩ = some (.bool lco) ∧ W.cell? ⟨bI, oI + q, none⟩ = some (.int .i64 x) ∧ Below wj.heap.size wj W) := hid0 (fun W hW => ⟨(hW.cell (p := ⟨b, off + j * 6, none⟩) hbl).trans c0, (hW.cell (p := ⟨b, off + j * 6 + 1, none⟩) hbl).trans c1, (hW.cell (p := ⟨b, off + j * 6 + 2, none⟩) hbl).trans c2, (hW.cell (p := ⟨b, off + j * 6 + 3, none⟩) hbl).trans c3, (hW.cell (p := ⟨b, off + j * 6 + 4, none⟩) hbl).trans c4, (hW.cell (p := ⟨b, off + j * 6 + 5, none⟩) hbl).trans c5, HX.out _ (HB.out.trans (hW.mono HB.out.size)), hW⟩)
                  have hB0 := Below.refl wj.heap.size wj
                  clear c0 c1 c2 c3 c4 c5
                  by_cases h1 : (p1 : Int) ≤ x
                  · by_cases h2 : x ≤ (p2 : Int)
                    · rw [if_pos ⟨h1, h2⟩] at HWm
                      go_wp2
                      go_region_held3 (fun W => W.cell? ⟨b, off + j * 6, none⟩ = some (.int .i64 la) ∧ W.cell? ⟨b, off + j * 6 + 1, none⟩ = some (.int .i64 lb) ∧ W.cell? ⟨b, off + j * 6 + 2, none⟩ = some (.int .i64 ln) ∧ W.cell? ⟨b, off + j * 6 + 3, none⟩ = some (.bool lbo) ∧ W.cell? ⟨b, off + j * 6 + 4, none⟩ = some (.int .i64 lbl) ∧ W.cell? ⟨b, off + j * 6 + 5, none⟩ = some (.bool lco) ∧ W.cell? ⟨bI, oI + q, none⟩ = some (.int .i64 x) ∧ Below wj.heap.size wj W) (first | exact HSo.out _ (by go_grown) | (go_split_ands; exact HSo.out _ (by go_grown))) (first
                        | (go_at_call 18; go_split_ands; refine (HLi.out _ (by go_grown)).mono ?_; rintro e w11 ⟨rfl, hbw1⟩; have hsw1 := hbw1.size)
                        | (go_at_call 19; go_split_ands; refine (HHi.out _ (by go_grown)).mono ?_; rintro e w12 ⟨rfl, hbw2⟩; have hsw2 := hbw2.size))
                      all_goals
                        go_split_ands
                        have HB6 := hid0 (HB.out.trans (Below.mono (by assumption) HB.out.size))
                        go_wp2_with (first
                          | (go_at_call 20; refine (HNm.out _).mono ?_; rintro e w13 ⟨rfl, hb13⟩; have HB7 := hid0 (HB6.out.trans (hb13.mono HB6.out.size)); clear hb13)
                          | fail)
                        go_roundw
                        case rel => exact ⟨j + 1, by omega, by rw [HWm.out], by go_num, HB7⟩
                        case measure => simp [intOf]; omega
                    · rw [if_neg (fun h => h2 h.2)] at HWm
                      go_wp2
                      go_region_held3 (fun W => W.cell? ⟨b, off + j * 6, none⟩ = some (.int .i64 la) ∧ W.cell? ⟨b, off + j * 6 + 1, none⟩ = some (.int .i64 lb) ∧ W.cell? ⟨b, off + j * 6 + 2, none⟩ = some (.int .i64 ln) ∧ W.cell? ⟨b, off + j * 6 + 3, none⟩ = some (.bool lbo) ∧ W.cell? ⟨b, off + j * 6 + 4, none⟩ = some (.int .i64 lbl) ∧ W.cell? ⟨b, off + j * 6 + 5, none⟩ = some (.bool lco) ∧ W.cell? ⟨bI, oI + q, none⟩ = some (.int .i64 x) ∧ Below wj.heap.size wj W) (first | exact HSo.out _ (by go_grown) | (go_split_ands; exact HSo.out _ (by go_grown))) (first
                        | (go_at_call 18; go_split_ands; refine (HLi.out _ (by go_grown)).mono ?_; rintro e w11 ⟨rfl, hbw1⟩; have hsw1 := hbw1.size)
                        | (go_at_call 19; go_split_ands; refine (HHi.out _ (by go_grown)).mono ?_; rintro e w12 ⟨rfl, hbw2⟩; have hsw2 := hbw2.size))
                      all_goals
                        go_split_ands
                        have HB6 := hid0 (HB.out.trans (Below.mono (by assumption) HB.out.size))
                        go_wp2
                        go_roundw
                        case rel => exact ⟨j + 1, by omega, by rw [HWm.out], by go_num, HB6⟩
                        case measure => simp [intOf]; omega
                  · rw [if_neg (fun h => h1 h.1)] at HWm
                    go_wp2
                    have hdc : decide ((p1 : Int) ≤ x) = false := decide_eq_false (by omega)
                    refine wp_region_noPanic ?_
                    refine wp_region_held_drew (S := (fun W => W.cell? ⟨b, off + j * 6, none⟩ = some (.int .i64 la) ∧ W.cell? ⟨b, off + j * 6 + 1, none⟩ = some (.int .i64 lb) ∧ W.cell? ⟨b, off + j * 6 + 2, none⟩ = some (.int .i64 ln) ∧ W.cell? ⟨b, off + j * 6 + 3, none⟩ = some (.bool lbo) ∧ W.cell? ⟨b, off + j * 6 + 4, none⟩ = some (.int .i64 lbl) ∧ W.cell? ⟨b, off + j * 6 + 5, none⟩ = some (.bool lco) ∧ W.cell? ⟨bI, oI + q, none⟩ = some (.int .i64 x) ∧ Below wj.heap.size wj W)) (by kernel_rfl) ?_ (fun hHeld => ?_)
                    · exact HSo.out _ (by go_grown)
                    refine tkV (i := 0) (d := some 117) (v := ?_) rfl (by kernel_rfl) (by kernel_rfl) (by kernel_rfl) rfl (fun _ _ _ h => h) (by rfl) ?_ (by assumption) ?_
                    rotate_left
                    · (intro w hSw; (try dsimp only at hSw); (try simp only [List.getElem_toArray, List.getElem_cons_zero]); go_simp; try with_reducible rfl)
                    simp only [Act.put, List.setIfInBounds_toArray, List.set_cons_zero, List.set_cons_succ]
                    refine tkV (i := 1) (d := some 118) (v := ?_) rfl (by kernel_rfl) (by kernel_rfl) (by kernel_rfl) rfl (fun _ _ _ h => h) (by rfl) ?_ (by assumption) ?_
                    rotate_left
                    · (intro w hSw; (try dsimp only at hSw); (try simp only [List.getElem_toArray, List.getElem_cons_zero, List.getElem_cons_succ]); go_simp; try with_reducible rfl)
                    simp only [Act.put, List.setIfInBounds_toArray, List.set_cons_zero, List.set_cons_succ]
                    refine tkV (i := 2) (d := some 119) (v := ?_) rfl (by kernel_rfl) (by kernel_rfl) (by kernel_rfl) rfl (fun _ _ _ h => h) (by rfl) ?_ (by assumption) ?_
                    rotate_left
                    · (intro w hSw; (try dsimp only at hSw); (try simp only [List.getElem_toArray, List.getElem_cons_zero, List.getElem_cons_succ]); go_simp; try with_reducible rfl)
                    simp only [Act.put, List.setIfInBounds_toArray, List.set_cons_zero, List.set_cons_succ]
                    refine tkV (i := 3) (d := some 120) (v := ?_) rfl (by kernel_rfl) (by kernel_rfl) (by kernel_rfl) rfl (fun _ _ _ h => h) (by rfl) ?_ (by assumption) ?_
                    rotate_left
                    · (intro w hSw; (try dsimp only at hSw); (try simp only [List.getElem_toArray, List.getElem_cons_zero, List.getElem_cons_succ]); go_simp; try with_reducible rfl)
                    simp only [Act.put, List.setIfInBounds_toArray, List.set_cons_zero, List.set_cons_succ]
                    refine tkV (i := 5) (d := some 122) (v := ?_) rfl (by kernel_rfl) (by kernel_rfl) (by kernel_rfl) rfl (fun _ _ _ h => h) (by rfl) ?_ (by assumption) ?_
                    rotate_left
                    · (intro w hSw; (try dsimp only at hSw); (try simp only [List.getElem_toArray, List.getElem_cons_zero, List.getElem_cons_succ]); go_simp; try with_reducible rfl)
                    simp only [Act.put, List.setIfInBounds_toArray, List.set_cons_zero, List.set_cons_succ]
                    refine tkV (i := 6) (d := some 123) (v := ?_) rfl (by kernel_rfl) (by kernel_rfl) (by kernel_rfl) rfl (fun _ _ _ h => h) (by rfl) ?_ (by assumption) ?_
                    rotate_left
                    · (intro w hSw; (try dsimp only at hSw); (try simp only [List.getElem_toArray, List.getElem_cons_zero, List.getElem_cons_succ]); go_simp; try with_reducible rfl)
                    simp only [Act.put, List.setIfInBounds_toArray, List.set_cons_zero, List.set_cons_succ]
                    refine tkV (i := 7) (d := some 124) (v := ?_) rfl (by kernel_rfl) (by kernel_rfl) (by kernel_rfl) rfl (fun _ _ _ h => h) (by rfl) ?_ (by assumption) ?_
                    rotate_left
                    · (intro w hSw; (try dsimp only at hSw); (try simp only [List.getElem_toArray, List.getElem_cons_zero, List.getElem_cons_succ]); go_simp; try with_reducible rfl)
                    simp only [Act.put, List.setIfInBounds_toArray, List.set_cons_zero, List.set_cons_succ]
                    refine tkV (i := 8) (d := some 125) (v := ?_) rfl (by kernel_rfl) (by kernel_rfl) (by kernel_rfl) rfl (fun _ _ _ h => h) (by rfl) ?_ (by assumption) ?_
                    rotate_left
                    · (intro w hSw; (try dsimp only at hSw); (try simp only [List.getElem_toArray, List.getElem_cons_zero, List.getElem_cons_succ]); go_simp; try with_reducible rfl)
                    simp only [Act.put, List.setIfInBounds_toArray, List.set_cons_zero, List.set_cons_succ]
                    refine wpAnyH_ready (rs := [4]) (by kernel_rfl) (by simp) (AllReadyH.cons rfl (fun K hK => ?_) AllReadyH.nil)
                    try simp only [List.getElem_toArray, List.getElem_cons_zero, List.getElem_cons_succ]
                    go_simp
                    go_split_ands
                    refine (HLi.out _ (by go_grown)).mono ?_
                    rintro e w11 ⟨rfl, hbw11⟩
                    have hsw11 := hbw11.size
                    go_wp2_with fail
                    refine hK.out _ _ ?_ (fun hHeld => ?_)
                    · exact HSo.out _ (by go_grown)
                    clear hK K
                    try simp only [Act.put, List.setIfInBounds_toArray, List.set_cons_zero, List.set_cons_succ]
                    refine tkV (i := 9) (d := some 126) (v := ?_) rfl (by kernel_rfl) (by kernel_rfl) (by kernel_rfl) rfl (fun _ _ _ h => h) (by rfl) ?_ (by assumption) ?_
                    rotate_left
                    · (intro w hSw; (try dsimp only at hSw); (try simp only [List.getElem_toArray, List.getElem_cons_zero, List.getElem_cons_succ]); go_simp; try with_reducible rfl)
                    simp only [Act.put, List.setIfInBounds_toArray, List.set_cons_zero, List.set_cons_succ]
                    refine tkV (i := 10) (d := some 127) (v := ?_) rfl (by kernel_rfl) (by kernel_rfl) (by kernel_rfl) rfl (fun _ _ _ h => h) (by rfl) ?_ (by assumption) ?_
                    rotate_left
                    · (intro w hSw; (try dsimp only at hSw); (try simp only [List.getElem_toArray, List.getElem_cons_zero, List.getElem_cons_succ]); go_simp; try with_reducible rfl)
                    simp only [Act.put, List.setIfInBounds_toArray, List.set_cons_zero, List.set_cons_succ]
                    refine tkU (i := 11) (d := some 128) rfl (by kernel_rfl) (by kernel_rfl) (by kernel_rfl) rfl (fun _ _ _ h => h) (by rfl) (by assumption) ?_
                    simp only [Act.put, List.setIfInBounds_toArray, List.set_cons_zero, List.set_cons_succ]
                    refine tkU (i := 12) (d := some 129) rfl (by kernel_rfl) (by kernel_rfl) (by kernel_rfl) rfl (fun _ _ _ h => h) (by rfl) (by assumption) ?_
                    simp only [Act.put, List.setIfInBounds_toArray, List.set_cons_zero, List.set_cons_succ]
                    refine tkU (i := 13) (d := some 130) rfl (by kernel_rfl) (by kernel_rfl) (by kernel_rfl) rfl (fun _ _ _ h => h) (by rfl) (by assumption) ?_
                    simp only [Act.put, List.setIfInBounds_toArray, List.set_cons_zero, List.set_cons_succ]
                    refine tkU (i := 14) (d := some 131) rfl (by kernel_rfl) (by kernel_rfl) (by kernel_rfl) rfl (fun _ _ _ h => h) (by rfl) (by assumption) ?_
                    simp only [Act.put, List.setIfInBounds_toArray, List.set_cons_zero, List.set_cons_succ]
                    refine tkU (i := 15) (d := some 132) rfl (by kernel_rfl) (by kernel_rfl) (by kernel_rfl) rfl (fun _ _ _ h => h) (by rfl) (by assumption) ?_
                    simp only [Act.put, List.setIfInBounds_toArray, List.set_cons_zero, List.set_cons_succ]
                    refine tkU (i := 16) (d := some 133) rfl (by kernel_rfl) (by kernel_rfl) (by kernel_rfl) rfl (fun _ _ _ h => h) (by rfl) (by assumption) ?_
                    simp only [Act.put, List.setIfInBounds_toArray, List.set_cons_zero, List.set_cons_succ]
                    refine tkU (i := 17) (d := some 134) rfl (by kernel_rfl) (by kernel_rfl) (by kernel_rfl) rfl (fun _ _ _ h => h) (by rfl) (by assumption) ?_
                    simp only [Act.put, List.setIfInBounds_toArray, List.set_cons_zero, List.set_cons_succ]
                    refine tkU (i := 18) (d := some 135) rfl (by kernel_rfl) (by kernel_rfl) (by kernel_rfl) rfl (fun _ _ _ h => h) (by rfl) (by assumption) ?_
                    simp only [Act.put, List.setIfInBounds_toArray, List.set_cons_zero, List.set_cons_succ]
                    refine tkU (i := 19) (d := some 136) rfl (by kernel_rfl) (by kernel_rfl) (by kernel_rfl) rfl (fun _ _ _ h => h) (by rfl) (by assumption) ?_
                    simp only [Act.put, List.setIfInBounds_toArray, List.set_cons_zero, List.set_cons_succ]
                    refine tkU (i := 20) (d := some 137) rfl (by kernel_rfl) (by kernel_rfl) (by kernel_rfl) rfl (fun _ _ _ h => h) (by rfl) (by assumption) ?_
                    simp only [Act.put, List.setIfInBounds_toArray, List.set_cons_zero, List.set_cons_succ]
                    refine tkV (i := 21) (d := some 138) (v := ?_) rfl (by kernel_rfl) (by kernel_rfl) (by kernel_rfl) rfl (fun _ _ _ h => h) (by rfl) ?_ (by assumption) ?_
                    rotate_left
                    · (intro w hSw; (try dsimp only at hSw); (try simp only [List.getElem_toArray, List.getElem_cons_zero, List.getElem_cons_succ]); go_simp; try with_reducible rfl)
                    simp only [Act.put, List.setIfInBounds_toArray, List.set_cons_zero, List.set_cons_succ]
                    refine wpAnyH_done (by kernel_rfl) ?_ _
                    refine NoPanic.normal ?_
                    go_split_ands
                    have HB6 := hid0 (HB.out.trans (Below.mono (by assumption) HB.out.size))
                    go_wp2
                    go_roundw
                    case rel => exact ⟨j + 1, by omega, by rw [HWm.out], by go_num, HB6⟩
                    case measure => simp [intOf]; omega
                · have hjI : ¬ (j : Int) < (m : Int) := by omega
                  rw [List.take_of_length_le (show L.length ≤ j by omega)]
                  have HCl : Hid (∀ W, Below wj.heap.size wj W → Calls Tryz.prog 21 #[.agg #[.slice aN s.names.length cN, .slice aS (joinL s.sp).length cS], .int .i64 x] W fun e w' => e = .returned (.string (wantL L x)) ∧ Below wj.heap.size wj w') := hid0 (fun W hW => by
                    have hf := (HF.out.later HB.out).later hW
                    refine (HCx.out aN aS cN cS x W hf.sa hf.pa).mono ?_
                    rintro e w' ⟨h1, h2⟩
                    exact ⟨h1, hW.trans (h2.mono hW.size)⟩)
                  have HSo : Hid (∀ W, Below wj.heap.size wj W → W.cell? ⟨w2.heap.size, 0, none⟩ = some (.slice aN s.names.length cN) ∧ W.cell? ⟨w2.heap.size, 1, none⟩ = some (.slice aS (joinL s.sp).length cS) ∧ W.cell? ⟨bI, oI + q, none⟩ = some (.int .i64 x) ∧ Below wj.heap.size wj W) := hid0 (fun W hW => ⟨((HF.out.later HB.out).later hW).p0, ((HF.out.later HB.out).later hW).p1, HX.out _ (HB.out.trans (hW.mono HB.out.size)), hW⟩)
                  have hB0 := Below.refl wj.heap.size wj
                  generalize wantL L x = X at *
                  go_wp2
                  go_region_held3 (fun W => W.cell? ⟨w2.heap.size, 0, none⟩ = some (.slice aN s.names.length cN) ∧ W.cell? ⟨w2.heap.size, 1, none⟩ = some (.slice aS (joinL s.sp).length cS) ∧ W.cell? ⟨bI, oI + q, none⟩ = some (.int .i64 x) ∧ Below wj.heap.size wj W) (first | exact HSo.out _ (by go_grown) | (go_split_ands; exact HSo.out _ (by go_grown))) (first
                    | (go_at_call 21; go_split_ands; refine (HCl.out _ (by go_grown)).mono ?_; rintro e w11 ⟨rfl, hbw1⟩; have hsw1 := hbw1.size))
                  all_goals
                    go_split_ands
                    have HB6 := hid0 (HB.out.trans (Below.mono (by assumption) HB.out.size))
                    go_wp2
                    go_roundw
                    case rel => exact ⟨q + 1, by omega, by go_num, HB6⟩
                    case measure => simp [intOf]; omega
            · have hqI : ¬ (q : Int) < (ps.length : Int) := by omega
              go_wp2
              go_ret
              exact ⟨rfl, (HF.out.later HB.out).bel⟩
end Go.Proofs.YthdmhelgmejicaaGreatDoor
namespace Go.Proofs.YthdmhelgmejicaaGreatDoor
open Go.RowKit Go.Shelf
set_option maxRecDepth 10000 in
set_option maxHeartbeats 3200000 in
theorem says_okB (L : List Li) (b0 o0 n : Nat) (ca : Nat) (pt : Int) (A : Nat → Addr) (w : World) (s : PS) (hm : L.length = 200) (hn2 : 200 < n) (hc : n ≤ ca) (hL : LA w (some ⟨b0, o0, none⟩) L) (hE : Sents w A) (hT : TabAt 19 Lib.deBruijn64tab w) (hp : parseL (textL L) = .ok s) (hr : Run L s) (hov : OvIs L (-1)) :
    Calls Tryz.prog 6 #[.agg #[.slice (some ⟨b0, o0, none⟩) n ca, .int .i64 pt]] w fun e w' => e = .returned (.bool true) ∧ Below w.heap.size w w' := by
  have hlen : (textL L).length ≤ 12200 := by have := all_len L; omega
  have HTL : Hid (∀ k, (rd (textL (L.take k))).size ≤ 12200) := hid0 (fun k => by
    have h1 := all_len (L.take k)
    have h2 : (L.take k).length ≤ L.length := by simp; omega
    simp only [ByteArray.size, List.size_toArray]
    omega)
  have HKn := hid0 (fun W (h : Below w.heap.size w W) => known_any A W (hE.below h) (tab_later hT h))
  have HTx := hid0 (fun (l : Li) W => text_at l W)
  have hPa := fun W (h : Below w.heap.size w W) => parse_any (textL L) (by omega) A W (hE.below h)
  rw [hp] at hPa
  have HPa := hid0 hPa
  have HOv : Hid (∀ W, LA W (some ⟨b0, o0, none⟩) L → Calls Tryz.prog 16 #[.slice (some ⟨b0, o0, none⟩) 200 ca] W fun e w' => e = .returned (.int .i64 (-1)) ∧ Below W.heap.size W w') := hid0 (fun W h => by
    have h0 := overlap_at L (some ⟨b0, o0, none⟩) ca W (by omega) h
    rw [hm] at h0
    refine h0.mono ?_
    rintro e w' ⟨r, h1, h2, h3⟩
    exact ⟨by rw [h1, ov_uniq h2 hov], h3⟩)
  have HBX := hid0 (box_at w (.slice (some ⟨b0, o0, none⟩) n ca) (.int .i64 pt) 42 (some ⟨b0, o0, none⟩) L hL)
  have HB0 := hid0 ((Below.refl w.heap.size w).alloc (Nat.le_refl _) (.cells #[.slice (some ⟨b0, o0, none⟩) n ca, .int .i64 pt] 42))
  have HPk : Hid (∀ W, Calls Tryz.prog 17 #[.int .i64 pt, .int .i64 1114112] W fun e w' => e = .returned (.int .i64 (pickN pt 1114112 : Nat)) ∧ w' = W) := hid0 (fun W => pick_at pt 1114112 (by decide) (by decide) W)
  have HCx : Hid (∀ a b ca cb x W, SA W a s.names → PA W b (joinL s.sp) → Calls Tryz.prog 21 #[.agg #[.slice a s.names.length ca, .slice b (joinL s.sp).length cb], .int .i64 x] W fun e w' => e = .returned (.string (wantL L x)) ∧ Below W.heap.size W w') := hid0 (fun a b ca cb x W ha hb => by
    obtain ⟨f1, f2, f3⟩ := few_parse hp
    have f4 := joinL_len s.sp
    have h0 := class_at s.names (joinL s.sp) a b ca cb x W (by omega) (names_ok hr) ha hb
    rw [cls_run hr] at h0
    exact h0)
  clear hPa hp hE hT hL hov hlen
  have hnI : (200 : Int) < (n : Int) := by omega
  have hcI : (200 : Int) ≤ (ca : Int) := by omega
  go_enter Tryz.func6, Tryz.ntmps6
  go_wp2_with (first
    | (go_at_call 12; refine (HKn.out _ HB0.out).mono ?_; rintro e w1 ⟨rfl, hb1⟩; have HB1 := hid0 hb1; have x0 := (HBX.out _ hb1).c0; clear hb1)
    | fail)
  clear x0
  generalize hW0 : w.alloc (.cells #[.slice (some ⟨b0, o0, none⟩) n ca, .int .i64 pt] 42) = W0 at HBX HB1 HB0
  have hz0 : W0.heap.size = w.heap.size + 1 := by rw [← hW0]; simp
  clear hW0
  go_loopw [5, 6] (fun v t wr => ∃ k : Nat, k ≤ L.length ∧ v = .string (rd (textL (L.take k))) ∧ t = .int .i64 (k : Int) ∧ Hid (Below W0.heap.size W0 wr)) (fun _ t _ => L.length - (intOf t).toNat)
  case atStart => exact ⟨0, Nat.zero_le _, rfl, rfl, HB1⟩
  case round =>
    clear HB1
    obtain ⟨k, hk, rfl, rfl, HB⟩ := hrel
    by_cases hlt : k < L.length
    · have hkI : (k : Int) < (200 : Int) := by omega
      have hk0 : (0 : Int) ≤ (k : Int) := by omega
      obtain ⟨b, off, e0, hbl, c0, c1, c2, c3, c4, c5⟩ := (HBX.out _ HB.out).la.at' k hlt
      simp only [Option.some.injEq, Addr.mk.injEq, and_true] at e0
      obtain ⟨rfl, rfl⟩ := e0
      have HTk := hid0 (fun W => HTx.out L[k] W)
      have HMo := hid0 (textL_more L k hlt)
      have z1 := HTL.out k
      have z2 : (rd L[k].tx).size ≤ 60 := by have := tx_len L[k]; simpa [ByteArray.size] using this
      generalize rd (textL (L.take k)) = X at *
      generalize rd L[k].tx = Y at *
      generalize L[k] = l at *
      unfold Li.val at HTk
      obtain ⟨la, lb, ln, lbo, lbl, lco⟩ := l
      simp only at c0 c1 c2 c3 c4 c5 HTk
      go_wp2_with (first
        | (go_at_call 15; refine (HTk.out _).mono ?_; rintro e w2 ⟨rfl, hb2⟩; have HB2 := hid0 (HB.out.trans (hb2.mono HB.out.size)); clear hb2)
        | fail)
      go_roundw
      case rel => exact ⟨k + 1, by omega, by rw [HMo.out], by go_num, HB2⟩
      case measure => simp [intOf]; omega
    · have hkI : ¬ (k : Int) < (200 : Int) := by omega
      have hkL : L.take k = L := List.take_of_length_le (by omega)
      rw [hkL]
      have z1 := HTL.out L.length
      rw [List.take_of_length_le (Nat.le_refl _)] at z1
      generalize rd (textL L) = X at *
      clear HTx HTL HKn hkL hlt
      go_wp2_with (first
        | (go_at_call 8; refine (HPa.out _ (HBX.out _ HB.out).bel).mono ?_; rintro e w2 ⟨⟨vN, vS, rfl, hN, hS, _⟩, hb2⟩; obtain ⟨aN, cN, rfl, ha⟩ := hN.sa; obtain ⟨aS, cS, rfl, hb⟩ := hS.pa; have HSA := hid0 ha; have HPA := hid0 hb; have HK := hid0 (heap_alloc_new w2 (.cells #[.slice aN s.names.length cN, .slice aS (joinL s.sp).length cS] 25)); have HB2 := hid0 (HB.out.trans (hb2.mono HB.out.size)); have HB3 := hid0 (HB2.out.alloc HB2.out.size (.cells #[.slice aN s.names.length cN, .slice aS (joinL s.sp).length cS] 25)); clear hb2 ha hb hN hS)
        | (go_at_call 16; refine (HOv.out _ (HBX.out _ HB3.out).la).mono ?_; rintro e w3 ⟨rfl, hb3⟩; have HB4 := hid0 (HB3.out.trans (hb3.mono HB3.out.size)); have x1 := (HBX.out _ HB4.out).c1; have HF3 := hid0 (fx_at (HBX.out _ HB4.out).la (HBX.out _ HB4.out).bel HSA.out HPA.out HK.out hb3); clear hb3)
        | (go_at_call 17; refine (HPk.out _).mono ?_; rintro e w4 ⟨rfl, hw4⟩; have hw5 := hw4.symm; subst hw5)
        | fail)
      clear x1 HB HB2 HB3 HB4 HK HSA HPA HPa HOv z1
      generalize ((pickN pt 1114112 : Nat) : Int) = p0
      have HO0 : Hid (OwnI (w3.alloc (.cells #[.int .i64 p0] 3)) w3.heap.size (.slice (some ⟨w3.heap.size, 0, none⟩) 1 1) [p0]) := hid0 (by
        have := World.ownsRow_lit (base := w3.heap.size) (e := 3) (size := 1) w3 #[.int .i64 p0] 1 (by simp) (by unfold maxLen; omega) rfl
        simpa [OwnI] using this)
      have HB5 := hid0 ((Below.refl w3.heap.size w3).alloc (Nat.le_refl _) (.cells #[.int .i64 p0] 3))
      obtain ⟨i0, hi, hy0, hy1, hy2⟩ := info_parts infoInt
      go_loopw [11, 12] (fun v t wr => ∃ (k : Nat) (ps : List Int), k ≤ L.length ∧ t = .int .i64 (k : Int) ∧ Hid (ps.length = 1 + 4 * k) ∧ Hid (OwnI wr w3.heap.size v ps) ∧ Hid (Below w3.heap.size w3 wr)) (fun _ t _ => L.length - (intOf t).toNat)
      case atStart => exact ⟨0, _, Nat.zero_le _, rfl, hid0 rfl, HO0, HB5⟩
      case round =>
        clear HO0 HB5
        obtain ⟨k, ps, hk, rfl, HPS, HO, HB⟩ := hrel
        by_cases hlt : k < L.length
        · have hkI : (k : Int) < (200 : Int) := by omega
          have hk0 : (0 : Int) ≤ (k : Int) := by omega
          have hss := HB.out.size
          obtain ⟨b, off, e0, hbl, c0, c1, c2, c3, c4, c5⟩ := (HF3.out.la).at' k hlt
          simp only [Option.some.injEq, Addr.mk.injEq, and_true] at e0
          obtain ⟨rfl, rfl⟩ := e0
          have HLi := hid0 (fun W (hW : Below wr.heap.size wr W) => low_in L[k] wr W hW)
          have HHi := hid0 (fun W (hW : Below wr.heap.size wr W) => high_in L[k] wr W hW)
          generalize L[k] = l at *
          generalize l.lo = p1 at *
          generalize l.hi = p2 at *
          unfold Li.val at HLi HHi
          obtain ⟨la, lb, ln, lbo, lbl, lco⟩ := l
          simp only at c0 c1 c2 c3 c4 c5 HLi HHi
          have HS3 : Hid (∀ W, Below w3.heap.size w3 W → W.cell? ⟨b0, o0 + k * 6, none⟩ = some (.int .i64 la) ∧ W.cell? ⟨b0, o0 + k * 6 + 1, none⟩ = some (.int .i64 lb) ∧ W.cell? ⟨b0, o0 + k * 6 + 2, none⟩ = some (.int .i64 ln) ∧ W.cell? ⟨b0, o0 + k * 6 + 3, none⟩ = some (.bool lbo) ∧ W.cell? ⟨b0, o0 + k * 6 + 4, none⟩ = some (.int .i64 lbl) ∧ W.cell? ⟨b0, o0 + k * 6 + 5, none⟩ = some (.bool lco)) := hid0 (fun W hW => ⟨(hW.cell (p := ⟨b0, o0 + k * 6, none⟩) hbl).trans c0, (hW.cell (p := ⟨b0, o0 + k * 6 + 1, none⟩) hbl).trans c1, (hW.cell (p := ⟨b0, o0 + k * 6 + 2, none⟩) hbl).trans c2, (hW.cell (p := ⟨b0, o0 + k * 6 + 3, none⟩) hbl).trans c3, (hW.cell (p := ⟨b0, o0 + k * 6 + 4, none⟩) hbl).trans c4, (hW.cell (p := ⟨b0, o0 + k * 6 + 5, none⟩) hbl).trans c5⟩)
          have HSo : Hid (∀ W, Below wr.heap.size wr W → W.cell? ⟨b0, o0 + k * 6, none⟩ = some (.int .i64 la) ∧ W.cell? ⟨b0, o0 + k * 6 + 1, none⟩ = some (.int .i64 lb) ∧ W.cell? ⟨b0, o0 + k * 6 + 2, none⟩ = some (.int .i64 ln) ∧ W.cell? ⟨b0, o0 + k * 6 + 3, none⟩ = some (.bool lbo) ∧ W.cell? ⟨b0, o0 + k * 6 + 4, none⟩ = some (.int .i64 lbl) ∧ W.cell? ⟨b0, o0 + k * 6 + 5, none⟩ = some (.bool lco)) := hid0 (fun W hW => HS3.out W (HB.out.trans (hW.mono HB.out.size)))
          have HOW : Hid (∀ W, Below wr.heap.size wr W → W.ownsRow w3.heap.size 3 1 u11 (1 + 4 * k) (ps.map (Value.int .i64))) := hid0 (fun W hW => by
            have := (HO.out.later hW)
            unfold OwnI at this
            rwa [HPS.out] at this)
          have hB0 := Below.refl wr.heap.size wr
          have M1 : Hid True := trivial
          have M2 : Hid True := trivial
          clear c0 c1 c2 c3 c4 c5
          go_wp2
          go_region_held3 (fun W => W.cell? ⟨b0, o0 + k * 6, none⟩ = some (.int .i64 la) ∧ W.cell? ⟨b0, o0 + k * 6 + 1, none⟩ = some (.int .i64 lb) ∧ W.cell? ⟨b0, o0 + k * 6 + 2, none⟩ = some (.int .i64 ln) ∧ W.cell? ⟨b0, o0 + k * 6 + 3, none⟩ = some (.bool lbo) ∧ W.cell? ⟨b0, o0 + k * 6 + 4, none⟩ = some (.int .i64 lbl) ∧ W.cell? ⟨b0, o0 + k * 6 + 5, none⟩ = some (.bool lco)) (first | exact HS15.out | exact HSo.out _ (by go_grown)) (first
            | (go_at_call 18; clear M1; refine (HLi.out _ (by go_grown)).mono ?_; rintro e w11 ⟨rfl, hbw1⟩; have hsw1 := hbw1.size)
            | (go_at_call 18; refine (HLi.out _ (by go_grown)).mono ?_; rintro e w13 ⟨rfl, hbw3⟩; have hsw3 := hbw3.size)
            | (go_at_call 19; clear M2; refine (HHi.out _ (by go_grown)).mono ?_; rintro e w12 ⟨rfl, hbw2⟩; have hsw2 := hbw2.size)
            | (go_at_call 19; refine (HHi.out _ (by go_grown)).mono ?_; rintro e w14 ⟨rfl, hbw4⟩; have hsw4 := hbw4.size)
            | (refine step_append_lies _ (by rfl) _ _ _ (by rfl) w3.heap.size 3 i0 (.int .i64 0) 1 8 Tryz.underlying48 hi hy0 hy1 hy2 rfl (by decide) u11 (1 + 4 * k) (ps.map (Value.int .i64)) (by rfl) (World.ownsRow.alloc (w := w14) (HOW.out _ hbw4) _) ⟨w14.heap.size, 0, none⟩ 4 4 [.int .i64 (p1 : Int), .int .i64 (p2 : Int), .int .i64 (IntKind.i64.wrap ((p1 : Int) - 1)), .int .i64 (IntKind.i64.wrap ((p2 : Int) + 1))] (by rfl) (by rfl) (World.news_of_block (cs := #[.int .i64 (p1 : Int), .int .i64 (p2 : Int), .int .i64 (IntKind.i64.wrap ((p1 : Int) - 1)), .int .i64 (IntKind.i64.wrap ((p2 : Int) + 1))]) (t := 3) (fr := (0, 0)) (heap_alloc_new w14 _)) (by simp [Value.oneCell']) (by omega) (by unfold maxLen; omega) (by omega) (by simp; omega) (w14.heap.size + 1) (by simp) ?_; intro g3 cap3 w15 hown3 hgrow3 hat3 hlt3; have HB15 := hid0 (((HB.out.trans (hbw4.mono HB.out.size)).alloc (by omega) _).grown hgrow3 (by simp; omega) (fun k hk => (World.ownsRow.lt HO.out k hk).1)); have HS15 := hid0 (HS3.out _ HB15.out); have HO15 := hid0 hown3; clear hown3 hgrow3 hat3))
          have HN3 : Hid (OwnI w15 w3.heap.size (.slice (some ⟨g3, 0, none⟩) (1 + 4 * k + 4) cap3) (ps ++ [(p1 : Int), (p2 : Int), IntKind.i64.wrap ((p1 : Int) - 1), IntKind.i64.wrap ((p2 : Int) + 1)])) := hid0 (by
            unfold OwnI
            rw [List.length_append, HPS.out, List.map_append]
            exact HO15.out)
          clear HO15
          go_wp2
          go_roundw
          case rel => exact ⟨k + 1, _, by omega, by go_num, hid0 (by rw [List.length_append, HPS.out]; simp; omega), HN3, HB15⟩
          case measure => simp [intOf]; omega
        · have hkI : ¬ (k : Int) < (200 : Int) := by omega
          have hps : ps.length ≤ 1000 := by have := HPS.out; omega
          obtain ⟨aI, cI, rfl, hia⟩ := HO.out.ia
          obtain ⟨wz, hwz⟩ : ∃ wz, wz = wr := ⟨_, rfl⟩
          subst hwz
          have HIA := hid0 hia
          have HF := hid0 (HF3.out.later HB.out)
          clear hia HO HB HPS hlt hk HF3
          go_wp2
          go_loopw [13] (fun t wq => ∃ q : Nat, q ≤ ps.length ∧ t = .int .i64 (q : Int) ∧ Hid (Below wz.heap.size wz wq)) (fun t _ => ps.length - (intOf t).toNat)
          case atStart => exact ⟨0, Nat.zero_le _, rfl, hid0 (Below.refl _ _)⟩
          case round =>
            obtain ⟨q, hq, rfl, HB⟩ := hrel
            by_cases hlq : q < ps.length
            · have hqI : (q : Int) < (ps.length : Int) := by omega
              have hq0 : (0 : Int) ≤ (q : Int) := by omega
              obtain ⟨bI, oI, rfl, cx⟩ := HIA.out.at' q hlq
              have hxl := World.block_lt_of_cell? wz _ cx
              generalize ps[q] = x at cx
              have HX : Hid (∀ W, Below wz.heap.size wz W → W.cell? ⟨bI, oI + q, none⟩ = some (.int .i64 x)) := hid0 (fun W hW => (hW.cell (p := ⟨bI, oI + q, none⟩) hxl).trans cx)
              clear cx
              go_wp2
              go_loopw [14, 15] (fun v t wj => ∃ j : Nat, j ≤ L.length ∧ v = .string (wantL (L.take j) x) ∧ t = .int .i64 (j : Int) ∧ Hid (Below wz.heap.size wz wj)) (fun _ t _ => L.length - (intOf t).toNat)
              case atStart => exact ⟨0, Nat.zero_le _, rfl, rfl, HB⟩
              case round =>
                clear HB
                obtain ⟨j, hj, rfl, rfl, HB⟩ := hrel
                obtain ⟨wj, hwj⟩ : ∃ wj, wj = wr := ⟨_, rfl⟩
                subst hwj
                by_cases hlt : j < L.length
                · have hjI : (j : Int) < (200 : Int) := by omega
                  have hj0 : (0 : Int) ≤ (j : Int) := by omega
                  obtain ⟨b, off, e0, hbl, c0, c1, c2, c3, c4, c5⟩ := ((HF.out.later HB.out).la).at' j hlt
                  simp only [Option.some.injEq, Addr.mk.injEq, and_true] at e0
                  obtain ⟨rfl, rfl⟩ := e0
                  have HLi := hid0 (fun W (hW : Below wj.heap.size wj W) => low_in L[j] wj W hW)
                  have HHi := hid0 (fun W (hW : Below wj.heap.size wj W) => high_in L[j] wj W hW)
                  have HNm := hid0 (fun W => name_at L[j] W)
                  have HWm := hid0 (wantL_more L j hlt x)
                  generalize wantL (L.take j) x = X at *
                  generalize rd L[j].nm = Y at *
                  generalize L[j] = l at *
                  generalize l.lo = p1 at *
                  generalize l.hi = p2 at *
                  unfold Li.val at HLi HHi HNm
                  obtain ⟨la, lb, ln, lbo, lbl, lco⟩ := l
                  simp only at c0 c1 c2 c3 c4 c5 HLi HHi HNm
                  have HSo : Hid (∀ W, Below wj.heap.size wj W → W.cell? ⟨b0, o0 + j * 6, none⟩ = some (.int .i64 la) ∧ W.cell? ⟨b0, o0 + j * 6 + 1, none⟩ = some (.int .i64 lb) ∧ W.cell? ⟨b0, o0 + j * 6 + 2, none⟩ = some (.int .i64 ln) ∧ W.cell? ⟨b0, o0 + j * 6 + 3, none⟩ = some (.bool lbo) ∧ W.cell? ⟨b0, o0 + j * 6 + 4, none⟩ = some (.int .i64 lbl) ∧ W.cell? ⟨b0, o0 + j * 6 + 5, none⟩ = some (.bool lco) ∧ W.cell? ⟨bI, oI + q, none⟩ = some (.int .i64 x) ∧ Below wj.heap.size wj W) := hid0 (fun W hW => ⟨(hW.cell (p := ⟨b0, o0 + j * 6, none⟩) hbl).trans c0, (hW.cell (p := ⟨b0, o0 + j * 6 + 1, none⟩) hbl).trans c1, (hW.cell (p := ⟨b0, o0 + j * 6 + 2, none⟩) hbl).trans c2, (hW.cell (p := ⟨b0, o0 + j * 6 + 3, none⟩) hbl).trans c3, (hW.cell (p := ⟨b0, o0 + j * 6 + 4, none⟩) hbl).trans c4, (hW.cell (p := ⟨b0, o0 + j * 6 + 5, none⟩) hbl).trans c5, HX.out _ (HB.out.trans (hW.mono HB.out.size)), hW⟩)
                  have hB0 := Below.refl wj.heap.size wj
                  clear c0 c1 c2 c3 c4 c5
                  by_cases h1 : (p1 : Int) ≤ x
                  · by_cases h2 : x ≤ (p2 : Int)
                    · rw [if_pos ⟨h1, h2⟩] at HWm
                      go_wp2
                      go_region_held3 (fun W => W.cell? ⟨b0, o0 + j * 6, none⟩ = some (.int .i64 la) ∧ W.cell? ⟨b0, o0 + j * 6 + 1, none⟩ = some (.int .i64 lb) ∧ W.cell? ⟨b0, o0 + j * 6 + 2, none⟩ = some (.int .i64 ln) ∧ W.cell? ⟨b0, o0 + j * 6 + 3, none⟩ = some (.bool lbo) ∧ W.cell? ⟨b0, o0 + j * 6 + 4, none⟩ = some (.int .i64 lbl) ∧ W.cell? ⟨b0, o0 + j * 6 + 5, none⟩ = some (.bool lco) ∧ W.cell? ⟨bI, oI + q, none⟩ = some (.int .i64 x) ∧ Below wj.heap.size wj W) (first | exact HSo.out _ (by go_grown) | (go_split_ands; exact HSo.out _ (by go_grown))) (first
                        | (go_at_call 18; go_split_ands; refine (HLi.out _ (by go_grown)).mono ?_; rintro e w11 ⟨rfl, hbw1⟩; have hsw1 := hbw1.size)
                        | (go_at_call 19; go_split_ands; refine (HHi.out _ (by go_grown)).mono ?_; rintro e w12 ⟨rfl, hbw2⟩; have hsw2 := hbw2.size))
                      all_goals
                        go_split_ands
                        have HB6 := hid0 (HB.out.trans (Below.mono (by assumption) HB.out.size))
                        go_wp2_with (first
                          | (go_at_call 20; refine (HNm.out _).mono ?_; rintro e w13 ⟨rfl, hb13⟩; have HB7 := hid0 (HB6.out.trans (hb13.mono HB6.out.size)); clear hb13)
                          | fail)
                        go_roundw
                        case rel => exact ⟨j + 1, by omega, by rw [HWm.out], by go_num, HB7⟩
                        case measure => simp [intOf]; omega
                    · rw [if_neg (fun h => h2 h.2)] at HWm
                      go_wp2
                      go_region_held3 (fun W => W.cell? ⟨b0, o0 + j * 6, none⟩ = some (.int .i64 la) ∧ W.cell? ⟨b0, o0 + j * 6 + 1, none⟩ = some (.int .i64 lb) ∧ W.cell? ⟨b0, o0 + j * 6 + 2, none⟩ = some (.int .i64 ln) ∧ W.cell? ⟨b0, o0 + j * 6 + 3, none⟩ = some (.bool lbo) ∧ W.cell? ⟨b0, o0 + j * 6 + 4, none⟩ = some (.int .i64 lbl) ∧ W.cell? ⟨b0, o0 + j * 6 + 5, none⟩ = some (.bool lco) ∧ W.cell? ⟨bI, oI + q, none⟩ = some (.int .i64 x) ∧ Below wj.heap.size wj W) (first | exact HSo.out _ (by go_grown) | (go_split_ands; exact HSo.out _ (by go_grown))) (first
                        | (go_at_call 18; go_split_ands; refine (HLi.out _ (by go_grown)).mono ?_; rintro e w11 ⟨rfl, hbw1⟩; have hsw1 := hbw1.size)
                        | (go_at_call 19; go_split_ands; refine (HHi.out _ (by go_grown)).mono ?_; rintro e w12 ⟨rfl, hbw2⟩; have hsw2 := hbw2.size))
                      all_goals
                        go_split_ands
                        have HB6 := hid0 (HB.out.trans (Below.mono (by assumption) HB.out.size))
                        go_wp2
                        go_roundw
                        case rel => exact ⟨j + 1, by omega, by rw [HWm.out], by go_num, HB6⟩
                        case measure => simp [intOf]; omega
                  · rw [if_neg (fun h => h1 h.1)] at HWm
                    go_wp2
                    have hdc : decide ((p1 : Int) ≤ x) = false := decide_eq_false (by omega)
                    refine wp_region_noPanic ?_
                    refine wp_region_held_drew (S := (fun W => W.cell? ⟨b0, o0 + j * 6, none⟩ = some (.int .i64 la) ∧ W.cell? ⟨b0, o0 + j * 6 + 1, none⟩ = some (.int .i64 lb) ∧ W.cell? ⟨b0, o0 + j * 6 + 2, none⟩ = some (.int .i64 ln) ∧ W.cell? ⟨b0, o0 + j * 6 + 3, none⟩ = some (.bool lbo) ∧ W.cell? ⟨b0, o0 + j * 6 + 4, none⟩ = some (.int .i64 lbl) ∧ W.cell? ⟨b0, o0 + j * 6 + 5, none⟩ = some (.bool lco) ∧ W.cell? ⟨bI, oI + q, none⟩ = some (.int .i64 x) ∧ Below wj.heap.size wj W)) (by kernel_rfl) ?_ (fun hHeld => ?_)
                    · exact HSo.out _ (by go_grown)
                    refine tkV (i := 0) (d := some 117) (v := ?_) rfl (by kernel_rfl) (by kernel_rfl) (by kernel_rfl) rfl (fun _ _ _ h => h) (by rfl) ?_ (by assumption) ?_
                    rotate_left
                    · (intro w hSw; (try dsimp only at hSw); (try simp only [List.getElem_toArray, List.getElem_cons_zero]); go_simp; try with_reducible rfl)
                    simp only [Act.put, List.setIfInBounds_toArray, List.set_cons_zero, List.set_cons_succ]
                    refine tkV (i := 1) (d := some 118) (v := ?_) rfl (by kernel_rfl) (by kernel_rfl) (by kernel_rfl) rfl (fun _ _ _ h => h) (by rfl) ?_ (by assumption) ?_
                    rotate_left
                    · (intro w hSw; (try dsimp only at hSw); (try simp only [List.getElem_toArray, List.getElem_cons_zero, List.getElem_cons_succ]); go_simp; try with_reducible rfl)
                    simp only [Act.put, List.setIfInBounds_toArray, List.set_cons_zero, List.set_cons_succ]
                    refine tkV (i := 2) (d := some 119) (v := ?_) rfl (by kernel_rfl) (by kernel_rfl) (by kernel_rfl) rfl (fun _ _ _ h => h) (by rfl) ?_ (by assumption) ?_
                    rotate_left
                    · (intro w hSw; (try dsimp only at hSw); (try simp only [List.getElem_toArray, List.getElem_cons_zero, List.getElem_cons_succ]); go_simp; try with_reducible rfl)
                    simp only [Act.put, List.setIfInBounds_toArray, List.set_cons_zero, List.set_cons_succ]
                    refine tkV (i := 3) (d := some 120) (v := ?_) rfl (by kernel_rfl) (by kernel_rfl) (by kernel_rfl) rfl (fun _ _ _ h => h) (by rfl) ?_ (by assumption) ?_
                    rotate_left
                    · (intro w hSw; (try dsimp only at hSw); (try simp only [List.getElem_toArray, List.getElem_cons_zero, List.getElem_cons_succ]); go_simp; try with_reducible rfl)
                    simp only [Act.put, List.setIfInBounds_toArray, List.set_cons_zero, List.set_cons_succ]
                    refine tkV (i := 5) (d := some 122) (v := ?_) rfl (by kernel_rfl) (by kernel_rfl) (by kernel_rfl) rfl (fun _ _ _ h => h) (by rfl) ?_ (by assumption) ?_
                    rotate_left
                    · (intro w hSw; (try dsimp only at hSw); (try simp only [List.getElem_toArray, List.getElem_cons_zero, List.getElem_cons_succ]); go_simp; try with_reducible rfl)
                    simp only [Act.put, List.setIfInBounds_toArray, List.set_cons_zero, List.set_cons_succ]
                    refine tkV (i := 6) (d := some 123) (v := ?_) rfl (by kernel_rfl) (by kernel_rfl) (by kernel_rfl) rfl (fun _ _ _ h => h) (by rfl) ?_ (by assumption) ?_
                    rotate_left
                    · (intro w hSw; (try dsimp only at hSw); (try simp only [List.getElem_toArray, List.getElem_cons_zero, List.getElem_cons_succ]); go_simp; try with_reducible rfl)
                    simp only [Act.put, List.setIfInBounds_toArray, List.set_cons_zero, List.set_cons_succ]
                    refine tkV (i := 7) (d := some 124) (v := ?_) rfl (by kernel_rfl) (by kernel_rfl) (by kernel_rfl) rfl (fun _ _ _ h => h) (by rfl) ?_ (by assumption) ?_
                    rotate_left
                    · (intro w hSw; (try dsimp only at hSw); (try simp only [List.getElem_toArray, List.getElem_cons_zero, List.getElem_cons_succ]); go_simp; try with_reducible rfl)
                    simp only [Act.put, List.setIfInBounds_toArray, List.set_cons_zero, List.set_cons_succ]
                    refine tkV (i := 8) (d := some 125) (v := ?_) rfl (by kernel_rfl) (by kernel_rfl) (by kernel_rfl) rfl (fun _ _ _ h => h) (by rfl) ?_ (by assumption) ?_
                    rotate_left
                    · (intro w hSw; (try dsimp only at hSw); (try simp only [List.getElem_toArray, List.getElem_cons_zero, List.getElem_cons_succ]); go_simp; try with_reducible rfl)
                    simp only [Act.put, List.setIfInBounds_toArray, List.set_cons_zero, List.set_cons_succ]
                    refine wpAnyH_ready (rs := [4]) (by kernel_rfl) (by simp) (AllReadyH.cons rfl (fun K hK => ?_) AllReadyH.nil)
                    try simp only [List.getElem_toArray, List.getElem_cons_zero, List.getElem_cons_succ]
                    go_simp
                    go_split_ands
                    refine (HLi.out _ (by go_grown)).mono ?_
                    rintro e w11 ⟨rfl, hbw11⟩
                    have hsw11 := hbw11.size
                    go_wp2_with fail
                    refine hK.out _ _ ?_ (fun hHeld => ?_)
                    · exact HSo.out _ (by go_grown)
                    clear hK K
                    try simp only [Act.put, List.setIfInBounds_toArray, List.set_cons_zero, List.set_cons_succ]
                    refine tkV (i := 9) (d := some 126) (v := ?_) rfl (by kernel_rfl) (by kernel_rfl) (by kernel_rfl) rfl (fun _ _ _ h => h) (by rfl) ?_ (by assumption) ?_
                    rotate_left
                    · (intro w hSw; (try dsimp only at hSw); (try simp only [List.getElem_toArray, List.getElem_cons_zero, List.getElem_cons_succ]); go_simp; try with_reducible rfl)
                    simp only [Act.put, List.setIfInBounds_toArray, List.set_cons_zero, List.set_cons_succ]
                    refine tkV (i := 10) (d := some 127) (v := ?_) rfl (by kernel_rfl) (by kernel_rfl) (by kernel_rfl) rfl (fun _ _ _ h => h) (by rfl) ?_ (by assumption) ?_
                    rotate_left
                    · (intro w hSw; (try dsimp only at hSw); (try simp only [List.getElem_toArray, List.getElem_cons_zero, List.getElem_cons_succ]); go_simp; try with_reducible rfl)
                    simp only [Act.put, List.setIfInBounds_toArray, List.set_cons_zero, List.set_cons_succ]
                    refine tkU (i := 11) (d := some 128) rfl (by kernel_rfl) (by kernel_rfl) (by kernel_rfl) rfl (fun _ _ _ h => h) (by rfl) (by assumption) ?_
                    simp only [Act.put, List.setIfInBounds_toArray, List.set_cons_zero, List.set_cons_succ]
                    refine tkU (i := 12) (d := some 129) rfl (by kernel_rfl) (by kernel_rfl) (by kernel_rfl) rfl (fun _ _ _ h => h) (by rfl) (by assumption) ?_
                    simp only [Act.put, List.setIfInBounds_toArray, List.set_cons_zero, List.set_cons_succ]
                    refine tkU (i := 13) (d := some 130) rfl (by kernel_rfl) (by kernel_rfl) (by kernel_rfl) rfl (fun _ _ _ h => h) (by rfl) (by assumption) ?_
                    simp only [Act.put, List.setIfInBounds_toArray, List.set_cons_zero, List.set_cons_succ]
                    refine tkU (i := 14) (d := some 131) rfl (by kernel_rfl) (by kernel_rfl) (by kernel_rfl) rfl (fun _ _ _ h => h) (by rfl) (by assumption) ?_
                    simp only [Act.put, List.setIfInBounds_toArray, List.set_cons_zero, List.set_cons_succ]
                    refine tkU (i := 15) (d := some 132) rfl (by kernel_rfl) (by kernel_rfl) (by kernel_rfl) rfl (fun _ _ _ h => h) (by rfl) (by assumption) ?_
                    simp only [Act.put, List.setIfInBounds_toArray, List.set_cons_zero, List.set_cons_succ]
                    refine tkU (i := 16) (d := some 133) rfl (by kernel_rfl) (by kernel_rfl) (by kernel_rfl) rfl (fun _ _ _ h => h) (by rfl) (by assumption) ?_
                    simp only [Act.put, List.setIfInBounds_toArray, List.set_cons_zero, List.set_cons_succ]
                    refine tkU (i := 17) (d := some 134) rfl (by kernel_rfl) (by kernel_rfl) (by kernel_rfl) rfl (fun _ _ _ h => h) (by rfl) (by assumption) ?_
                    simp only [Act.put, List.setIfInBounds_toArray, List.set_cons_zero, List.set_cons_succ]
                    refine tkU (i := 18) (d := some 135) rfl (by kernel_rfl) (by kernel_rfl) (by kernel_rfl) rfl (fun _ _ _ h => h) (by rfl) (by assumption) ?_
                    simp only [Act.put, List.setIfInBounds_toArray, List.set_cons_zero, List.set_cons_succ]
                    refine tkU (i := 19) (d := some 136) rfl (by kernel_rfl) (by kernel_rfl) (by kernel_rfl) rfl (fun _ _ _ h => h) (by rfl) (by assumption) ?_
                    simp only [Act.put, List.setIfInBounds_toArray, List.set_cons_zero, List.set_cons_succ]
                    refine tkU (i := 20) (d := some 137) rfl (by kernel_rfl) (by kernel_rfl) (by kernel_rfl) rfl (fun _ _ _ h => h) (by rfl) (by assumption) ?_
                    simp only [Act.put, List.setIfInBounds_toArray, List.set_cons_zero, List.set_cons_succ]
                    refine tkV (i := 21) (d := some 138) (v := ?_) rfl (by kernel_rfl) (by kernel_rfl) (by kernel_rfl) rfl (fun _ _ _ h => h) (by rfl) ?_ (by assumption) ?_
                    rotate_left
                    · (intro w hSw; (try dsimp only at hSw); (try simp only [List.getElem_toArray, List.getElem_cons_zero, List.getElem_cons_succ]); go_simp; try with_reducible rfl)
                    simp only [Act.put, List.setIfInBounds_toArray, List.set_cons_zero, List.set_cons_succ]
                    refine wpAnyH_done (by kernel_rfl) ?_ _
                    refine NoPanic.normal ?_
                    go_split_ands
                    have HB6 := hid0 (HB.out.trans (Below.mono (by assumption) HB.out.size))
                    go_wp2
                    go_roundw
                    case rel => exact ⟨j + 1, by omega, by rw [HWm.out], by go_num, HB6⟩
                    case measure => simp [intOf]; omega
                · have hjI : ¬ (j : Int) < (200 : Int) := by omega
                  rw [List.take_of_length_le (show L.length ≤ j by omega)]
                  have HCl : Hid (∀ W, Below wj.heap.size wj W → Calls Tryz.prog 21 #[.agg #[.slice aN s.names.length cN, .slice aS (joinL s.sp).length cS], .int .i64 x] W fun e w' => e = .returned (.string (wantL L x)) ∧ Below wj.heap.size wj w') := hid0 (fun W hW => by
                    have hf := (HF.out.later HB.out).later hW
                    refine (HCx.out aN aS cN cS x W hf.sa hf.pa).mono ?_
                    rintro e w' ⟨h1, h2⟩
                    exact ⟨h1, hW.trans (h2.mono hW.size)⟩)
                  have HSo : Hid (∀ W, Below wj.heap.size wj W → W.cell? ⟨w2.heap.size, 0, none⟩ = some (.slice aN s.names.length cN) ∧ W.cell? ⟨w2.heap.size, 1, none⟩ = some (.slice aS (joinL s.sp).length cS) ∧ W.cell? ⟨bI, oI + q, none⟩ = some (.int .i64 x) ∧ Below wj.heap.size wj W) := hid0 (fun W hW => ⟨((HF.out.later HB.out).later hW).p0, ((HF.out.later HB.out).later hW).p1, HX.out _ (HB.out.trans (hW.mono HB.out.size)), hW⟩)
                  have hB0 := Below.refl wj.heap.size wj
                  generalize wantL L x = X at *
                  go_wp2
                  go_region_held3 (fun W => W.cell? ⟨w2.heap.size, 0, none⟩ = some (.slice aN s.names.length cN) ∧ W.cell? ⟨w2.heap.size, 1, none⟩ = some (.slice aS (joinL s.sp).length cS) ∧ W.cell? ⟨bI, oI + q, none⟩ = some (.int .i64 x) ∧ Below wj.heap.size wj W) (first | exact HSo.out _ (by go_grown) | (go_split_ands; exact HSo.out _ (by go_grown))) (first
                    | (go_at_call 21; go_split_ands; refine (HCl.out _ (by go_grown)).mono ?_; rintro e w11 ⟨rfl, hbw1⟩; have hsw1 := hbw1.size))
                  all_goals
                    go_split_ands
                    have HB6 := hid0 (HB.out.trans (Below.mono (by assumption) HB.out.size))
                    go_wp2
                    go_roundw
                    case rel => exact ⟨q + 1, by omega, by go_num, HB6⟩
                    case measure => simp [intOf]; omega
            · have hqI : ¬ (q : Int) < (ps.length : Int) := by omega
              go_wp2
              go_ret
              exact ⟨rfl, (HF.out.later HB.out).bel⟩
end Go.Proofs.YthdmhelgmejicaaGreatDoor
namespace Go.Proofs.YthdmhelgmejicaaGreatDoor
open Go.ChangeShapes Go.WideShapes Go.ChangeAt Go.RowKit Go.Joins
theorem LA.take {w : World} {a : Option Addr} {L : List Li} (h : LA w a L) (n : Nat) : LA w a (L.take n) := ⟨fun k hk => by
  have hk2 : k < L.length := by rw [List.length_take] at hk; omega
  rw [List.getElem_take]
  exact h.at' k hk2⟩
theorem propSays_any (L : List Li) (a : Option Addr) (ca : Nat) (pt : Int) (A : Nat → Addr) (w : World) (hc : L.length ≤ ca) (hL : LA w a L) (hE : Sents w A) (hT : TabAt 19 Lib.deBruijn64tab w) :
    Calls Tryz.prog 6 #[.agg #[.slice a L.length ca, .int .i64 pt]] w fun e w' => e = .returned (.bool true) ∧ Below w.heap.size w w' := by
  by_cases hn : L.length ≤ 200
  · obtain ⟨r, hov⟩ := ov_ex L
    obtain ⟨h1, h2⟩ := parse_all L hn r hov
    rcases id hov with ⟨hr, _⟩ | ⟨i, k, hr, _⟩
    · obtain ⟨s, hp, hrun⟩ := h1 hr
      exact says_okA L a ca pt A w s hn hL hE hT hp hrun (hr ▸ hov)
    · exact says_badA L a ca pt A w i hn hL hE hT (h2 i hr) (hr ▸ hov)
  · obtain ⟨b, off, rfl, _⟩ := hL.at' 0 (by omega)
    have hm : (L.take 200).length = 200 := by rw [List.length_take]; omega
    obtain ⟨r, hov⟩ := ov_ex (L.take 200)
    obtain ⟨h1, h2⟩ := parse_all (L.take 200) (by omega) r hov
    rcases id hov with ⟨hr, _⟩ | ⟨i, k, hr, _⟩
    · obtain ⟨s, hp, hrun⟩ := h1 hr
      exact says_okB (L.take 200) b off L.length ca pt A w s hm (by omega) hc (hL.take 200) hE hT hp hrun (hr ▸ hov)
    · exact says_badB (L.take 200) b off L.length ca pt A w i hm (by omega) hc (hL.take 200) hE hT (h2 i hr) (hr ▸ hov)
theorem laid_tail {P : Program} {w : World} {x : String × DataW Unit} {l : List (String × DataW Unit)} (h : laidMet P (x :: l) w) : laidMet P l w := by
  obtain ⟨ps, hl, hnd, hrows⟩ := h
  obtain ⟨g0, t0, cs0, f0, p0, q0, hg0, ht0, hv0, hd0, hl', rfl⟩ := hl
  exact ⟨q0, hl', (List.nodup_append.1 hnd).2.1, fun b off hb => hrows b off (List.mem_append_right _ hb)⟩
theorem g64 : Tryz.prog.globalNamed "math/bits.deBruijn64tab" = some 19 := by kernel_rfl
theorem g64Type : (Tryz.prog.globals[19]?).map (·.type) = some 246 := by kernel_rfl
theorem cells64 : Tryz.prog.cellsOf 246 = 64 := by kernel_rfl
theorem cellsU8 : Tryz.prog.cellsOf 5 = 1 := by kernel_rfl
def tab64 : List Int := [0, 1, 56, 2, 57, 49, 28, 3, 61, 58, 42, 50, 38, 29, 17, 4, 62, 47, 59, 36, 45, 43, 51, 22, 53, 39, 33, 30, 24, 18, 12, 5, 63, 55, 48, 27, 60, 41, 37, 16, 46, 35, 44, 21, 52, 32, 23, 11, 54, 26, 40, 15, 34, 20, 31, 10, 25, 14, 19, 9, 13, 8, 7, 6]
theorem tab64_at : ∀ j, j < Lib.deBruijn64tab.length → tab64.getD j 0 = ((Lib.deBruijn64tab.getD j 0 : Nat) : Int) := by decide
/-- What the row's list gives: the table's cells. -/
theorem tab_of {W : World} {rest : List (String × DataW Unit)} (h : laidMet Tryz.prog (("math/bits.deBruijn64tab", Rows.laid_math_bits_deBruijn64tab) :: rest) W) : TabAt 19 Lib.deBruijn64tab W := by
  have ht : Lib.TabIs Tryz.prog W "math/bits.deBruijn64tab" .u8 tab64 :=
    Lib.tabIs_of_head (rest := rest) g64 g64Type Tryz.underlying246 Tryz.underlying5 cellsU8 cells64 h
  intro j hj
  have hc := ht.cell g64 j (by have e : tab64.length = Lib.deBruijn64tab.length := rfl; omega)
  rw [hc, tab64_at j hj]
theorem cellsInt : Tryz.prog.cellsOf 3 = 1 := by kernel_rfl
theorem cellsBool : Tryz.prog.cellsOf 4 = 1 := by kernel_rfl
theorem cellsLine : Tryz.prog.cellsOf 45 = 6 := by kernel_rfl
theorem cellsLines : Tryz.prog.cellsOf 40 = 1 := by kernel_rfl
theorem cellsSaid : Tryz.prog.cellsOf 42 = 2 := by kernel_rfl
instance : Inhabited Li := ⟨⟨0, 0, 0, false, 0, false⟩⟩
set_option maxRecDepth 100000 in
theorem open_line {H : Type} {enc : TypeId × Value → H} {w : World} {base : Nat} {spare : Nat → Bool} {held : Bool} {n : Nat} {a : Addr} {i : Nat} {cs : List Value} {x : DataW H × List MemPlace}
    (h1 : w.cells? base (a.add (i * 6)) 6 = some cs) (h2 : DataW.trod enc Tryz.prog w base spare held n 45 cs = some x) :
    ∃ t : Li, (i = 0 → a.spot = none) ∧ (a.spot = none → w.cell? ⟨a.block, a.off + i * 6, none⟩ = some (.int .i64 t.a) ∧ w.cell? ⟨a.block, a.off + i * 6 + 1, none⟩ = some (.int .i64 t.b) ∧ w.cell? ⟨a.block, a.off + i * 6 + 2, none⟩ = some (.int .i64 t.n) ∧ w.cell? ⟨a.block, a.off + i * 6 + 3, none⟩ = some (.bool t.both) ∧ w.cell? ⟨a.block, a.off + i * 6 + 4, none⟩ = some (.int .i64 t.bl) ∧ w.cell? ⟨a.block, a.off + i * 6 + 5, none⟩ = some (.bool t.com)) := by
  obtain ⟨_, hlen, hcell⟩ := World.cells?_some h1
  obtain ⟨xs, k, _, hx, _, hxl, hfs⟩ := DataW.trod_struct Tryz.underlying45 h2
  match cs, hlen with
  | [v0, v1, v2, v3, v4, v5], _ =>
    obtain ⟨y0, y1, y2, y3, y4, y5, rfl⟩ : ∃ y0 y1 y2 y3 y4 y5, xs = [y0, y1, y2, y3, y4, y5] := by
      match xs, hxl with
      | [y0, y1, y2, y3, y4, y5], _ => exact ⟨y0, y1, y2, y3, y4, y5, rfl⟩
    have f0 := hfs 0 _ rfl
    have f1 := hfs 1 _ rfl
    have f2 := hfs 2 _ rfl
    have f3 := hfs 3 _ rfl
    have f4 := hfs 4 _ rfl
    have f5 := hfs 5 _ rfl
    simp [cellsInt] at f0 f1 f2 f4
    simp [cellsBool] at f3 f5
    obtain ⟨m0, e0, rfl, _⟩ := DataW.trod_int Tryz.underlying3 f0
    obtain ⟨m1, e1, rfl, _⟩ := DataW.trod_int Tryz.underlying3 f1
    obtain ⟨m2, e2, rfl, _⟩ := DataW.trod_int Tryz.underlying3 f2
    obtain ⟨m3, e3, _⟩ := DataW.trod_bool Tryz.underlying4 f3
    obtain ⟨m4, e4, rfl, _⟩ := DataW.trod_int Tryz.underlying3 f4
    obtain ⟨m5, e5, _⟩ := DataW.trod_bool Tryz.underlying4 f5
    simp only [List.cons.injEq, and_true] at e0 e1 e2 e3 e4 e5
    subst e0 e1 e2 e3 e4 e5
    have q0 := hcell 0 (by omega)
    have q1 := hcell 1 (by omega)
    have q2 := hcell 2 (by omega)
    have q3 := hcell 3 (by omega)
    have q4 := hcell 4 (by omega)
    have q5 := hcell 5 (by omega)
    rw [Deep.add_add] at q0 q1 q2 q3 q4 q5
    refine ⟨⟨m0, m1, m2, m3, m4, m5⟩, fun hi => ?_, fun hsp => ?_⟩
    · subst hi
      exact World.cell?_spot q0
    · obtain ⟨ab, ao, asp⟩ := a
      simp only at hsp
      subst hsp
      rw [WideShapes.add_plain] at q0 q1 q2 q3 q4 q5
      exact ⟨by simpa using q0, by simpa [Nat.add_assoc] using q1, by simpa [Nat.add_assoc] using q2, by simpa [Nat.add_assoc] using q3, by simpa [Nat.add_assoc] using q4, by simpa [Nat.add_assoc] using q5⟩
/-- Lines that are read. -/
theorem open_lines {H : Type} {enc : TypeId × Value → H} {W : World} {n : Nat} {c : Value} {x : DataW H × List MemPlace} (h : DataW.trod enc Tryz.prog W 0 (fun _ => true) true n 40 [c] = some x) :
    ∃ (a : Option Addr) (S : List Li) (cap : Nat), c = .slice a S.length cap ∧ LA W a S ∧ S.length ≤ cap := by
  rcases Deep.open_slice Tryz.underlying40 h with ⟨h0, rfl⟩ | ⟨a, len, cap, m, n', D, Pl, hc, hb, hl, hm, hmm, rfl, hx⟩
  · simp only [List.cons.injEq, and_true] at h0
    exact ⟨none, [], 0, h0, ⟨fun k h => absurd h (Nat.not_lt_zero _)⟩, by simp⟩
  · simp only [List.cons.injEq, and_true] at hc
    have hlm : len ≤ m := by rw [hmm]; split <;> omega
    rw [cellsLine] at hx
    obtain ⟨T, hT⟩ := Deep.choose_lt (n := len) (fun i hi => by obtain ⟨cs, q1, q2⟩ := hx i (by omega); exact open_line q1 q2)
    have hlen : ((List.range len).map T).length = len := by simp
    have hpa : LA W (some a) ((List.range len).map T) := ⟨fun k hk => by
      rw [hlen] at hk
      have et : ((List.range len).map T)[k]'(by rw [hlen]; exact hk) = T k := by simp
      obtain ⟨_, p2⟩ := hT k hk
      have hsp := (hT 0 (by omega)).1 rfl
      obtain ⟨ab, ao, asp⟩ := a
      simp only at hsp
      subst hsp
      have p3 := p2 rfl
      refine ⟨ab, ao, rfl, World.block_lt_of_cell? W _ p3.1, ?_⟩
      rw [et]
      exact p3⟩
    exact ⟨some a, (List.range len).map T, cap, by rw [hlen]; exact hc, hpa, by rw [hlen]; omega⟩
set_option maxRecDepth 100000 in
theorem open_said {H : Type} {enc : TypeId × Value → H} {W : World} {base : Nat} {v : Value} {d : DataW H} {p : List MemPlace} (hv : Value.okWide Tryz.prog W .any base 42 v)
    (h0 : DataW.Trod enc Tryz.prog W 0 (fun _ => true) true 42 v d p) :
    ∃ (a : Option Addr) (S : List Li) (cap : Nat) (pt : Int), v = .agg #[.slice a S.length cap, .int .i64 pt] ∧ LA W a S ∧ S.length ≤ cap := by
  obtain ⟨fuel, hf⟩ := h0
  have hcs : ∃ cs, v = .agg cs := by
    simp only [Value.okWide, Tryz.underlying42] at hv
    obtain ⟨cs, h1, _⟩ := hv
    exact ⟨cs, h1⟩
  obtain ⟨cs, rfl⟩ := hcs
  obtain ⟨xs, n, _, hx, hlen, hxl, hfs⟩ := DataW.trod_struct Tryz.underlying42 hf
  rw [cellsSaid] at hlen
  obtain ⟨l⟩ := cs
  match l, hlen with
  | [c0, c1], _ =>
    obtain ⟨y0, y1, rfl⟩ : ∃ y0 y1, xs = [y0, y1] := by
      match xs, hxl with
      | [y0, y1], _ => exact ⟨y0, y1, rfl⟩
    have h0 := hfs 0 _ rfl
    have h1 := hfs 1 _ rfl
    have h2 : DataW.trod enc Tryz.prog W 0 (fun _ => true) true n 40 [c0] = some y0 := by simpa [Value.cells, cellsLines] using h0
    have h3 : DataW.trod enc Tryz.prog W 0 (fun _ => true) true n 3 [c1] = some y1 := by simpa [Value.cells, cellsInt] using h1
    obtain ⟨m, e, _⟩ := DataW.trod_int Tryz.underlying3 h3
    simp only [List.cons.injEq, and_true] at e
    obtain ⟨a, S, cap, rfl, hL, hc⟩ := open_lines h2
    exact ⟨a, S, cap, m, by rw [e], hL, hc⟩
end Go.Proofs.YthdmhelgmejicaaGreatDoor
