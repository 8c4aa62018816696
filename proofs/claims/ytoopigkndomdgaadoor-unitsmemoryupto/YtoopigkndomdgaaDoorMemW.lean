/-
  The walk of caesuralaw2.UnitsMemory.
-/
import Derived.Test.YtoopigkndomdgaaDoorSameUW
import Derived.Maps.AppendAt
import Derived.Laws.OwnMore
namespace Go.Proofs.YtoopigkndomdgaaDoor
open Go.RowKit
/-- What lay is as it was, but for these blocks. -/
structure Alt (S : Nat → Prop) (w w' : World) : Prop where
  os : w'.os = w.os
  tape : w'.tape = w.tape
  output : w'.output = w.output
  size : w.heap.size ≤ w'.heap.size
  block : ∀ i, i < w.heap.size → ¬ S i → w'.heap[i]? = w.heap[i]?
theorem Alt.refl (S : Nat → Prop) (w : World) : Alt S w w := ⟨rfl, rfl, rfl, Nat.le_refl _, fun _ _ _ => rfl⟩
theorem Alt.below {S : Nat → Prop} {w w1 w2 : World} (h : Alt S w w1) (hb : Below w1.heap.size w1 w2) : Alt S w w2 :=
  ⟨hb.os.trans h.os, hb.tape.trans h.tape, hb.output.trans h.output, Nat.le_trans h.size hb.size, fun i hi hn => (hb.block i (Nat.lt_of_lt_of_le hi h.size)).trans (h.block i hi hn)⟩
theorem Alt.setCell {S : Nat → Prop} {w w1 : World} (h : Alt S w w1) (g o : Nat) (v : Value) (hg : S g) : Alt S w (w1.setCell ⟨g, o, none⟩ v) :=
  ⟨h.os, h.tape, h.output, by simpa using h.size, fun i hi hn => by rw [heap_setCell_other _ _ _ _ (fun e => hn (by subst e; exact hg))]; exact h.block i hi hn⟩
theorem Alt.grown {S : Nat → Prop} {w w1 w2 : World} {row : Option Nat} (h : Alt S w w1) (hg : w1.grownBy w2 row) (hr : ∀ g, row = some g → S g ∨ w.heap.size ≤ g) : Alt S w w2 :=
  ⟨hg.os.trans h.os, hg.tape.trans h.tape, hg.output.trans h.output, Nat.le_trans h.size hg.size, fun i hi hn => by
    rw [hg.block i (Nat.lt_of_lt_of_le hi h.size) (fun e => by
      rcases hr i e.symm with q | q
      · exact hn q
      · omega)]
    exact h.block i hi hn⟩
theorem Alt.mono {S S' : Nat → Prop} {w w' : World} (h : Alt S w w') (hs : ∀ i, S i → S' i) : Alt S' w w' := ⟨h.os, h.tape, h.output, h.size, fun i hi hn => h.block i hi (fun q => hn (hs i q))⟩
theorem Alt.trans {S : Nat → Prop} {a b c : World} (h : Alt S a b) (k : Alt S b c) : Alt S a c :=
  ⟨k.os.trans h.os, k.tape.trans h.tape, k.output.trans h.output, Nat.le_trans h.size k.size, fun i hi hn => (k.block i (Nat.lt_of_lt_of_le hi h.size) hn).trans (h.block i hi hn)⟩
theorem OwnU.alt {S : Nat → Prop} {w w' : World} {base : Nat} {v : Value} {us : List (Int × Nat × Nat)} (h : OwnU w base v us) (ha : Alt S w w') (hn : ∀ g, v.ownBlock = some g → ¬ S g) : OwnU w' base v us := by
  obtain ⟨h1, h2⟩ := h
  refine ⟨h1, ?_⟩
  rcases h2 with h2 | ⟨g, cap, cur, rfl, hg, hh, r⟩
  · exact .inl h2
  · exact .inr ⟨g, cap, cur, rfl, hg, (ha.block g (Array.getElem?_eq_some_iff.1 hh).1 (hn g rfl)).trans hh, r⟩
theorem SeqAt.alt {S : Nat → Prop} {w w' : World} (h : SeqAt w) (ha : Alt S w w') (hn : ¬ S 11) : SeqAt w' := fun i hi k hk =>
  (World.cell?_of_block (a := ⟨11, _, none⟩) (ha.block _ h.pos hn)).trans (h i hi k hk)
/-- A row of the call's own, whatever it holds. -/
def Row3 (w : World) (base g n cap : Nat) : Prop := ∃ xs, w.ownsRow base 30 3 (.slice (some ⟨g, 0, none⟩) n cap) n xs
theorem Row3.cells {w : World} {base g n cap : Nat} (h : Row3 w base g n cap) (k : Nat) (hk : k < n) :
    (∃ v, w.cell? ⟨g, k * 3, none⟩ = some v) ∧ (∃ v, w.cell? ⟨g, k * 3 + 1, none⟩ = some v) ∧ (∃ v, w.cell? ⟨g, k * 3 + 2, none⟩ = some v) ∧ w.frozen? ⟨g, k * 3, none⟩ = false ∧ w.frozen? ⟨g, k * 3 + 1, none⟩ = false ∧ w.frozen? ⟨g, k * 3 + 2, none⟩ = false := by
  obtain ⟨xs, h⟩ := h
  have hl := h.1
  refine ⟨⟨xs[k * 3]'(by omega), ?_⟩, ⟨xs[k * 3 + 1]'(by omega), ?_⟩, ⟨xs[k * 3 + 2]'(by omega), ?_⟩, h.frozenAt _, h.frozenAt _, h.frozenAt _⟩ <;> (rw [h.cellAt _ (by omega), List.getElem?_eq_getElem])
theorem Row3.set {w : World} {base g n cap : Nat} (h : Row3 w base g n cap) (o : Nat) (v : Value) : Row3 (w.setCell ⟨g, o, none⟩ v) base g n cap := by
  obtain ⟨xs, h⟩ := h
  exact ⟨_, (h.stored o v).1⟩
theorem app_list2 (A B : ByteArray) : (A ++ B).data.toList = A.data.toList ++ B.data.toList := by simp
set_option maxRecDepth 10000 in
set_option maxHeartbeats 1600000 in
theorem memory_walk (s : ByteArray) (hs : s.size ≤ 1048576) (w : World) (hT : SeqAt w) :
    Calls Tryd.prog 8 #[.string s] w fun e w' => e = .returned (.bool true) ∧ Below w.heap.size w w' := by
  obtain ⟨i0, hi, hz0, hz1, hz2⟩ := info_parts infoUnit
  have hsz : (⟨#[97]⟩ ++ s : ByteArray).size = 1 + s.size := by rw [ByteArray.size_append']; rfl
  have HS := hid (fun w hT => split_as (⟨#[97]⟩ ++ s) _ rfl (by omega) w hT)
  have HF := hid (fun w => refSplit_any (⟨#[97]⟩ ++ s) (by omega) w)
  have hle := units_le (⟨#[97]⟩ ++ s)
  rw [hsz] at hle
  generalize unitsOf (⟨#[97]⟩ ++ s : ByteArray).data.toList = U at *
  have hpos := hT.pos
  have HT := hid hT
  clear hT
  go_enter Tryd.func8, Tryd.ntmps8
  go_wp2_with (first
    | (go_at_call 11; have hq := HT.out; clear HT; refine (HS.out _ hq).mono ?_; rintro e w1 ⟨g1, cap1, rfl, ho1, hcap1, hg1, hgb1, hb1⟩; have HO1 := hid ho1; have HT1 := hid (hq.later hb1); have HB1 := hid hb1; clear ho1 hq hb1)
    | (go_at_call 11; have hq := HT1.out; clear HT1; refine (HS.out _ hq).mono ?_; rintro e w2 ⟨g2, cap2, rfl, ho2, hcap2, hg2, hgb2, hb2⟩; have HO2 := hid ho2; have HO12 := hid (HO1.out.later hb2); have HT2 := hid (hq.later hb2); have HB2 := hid (HB1.out.trans (hb2.mono HB1.out.size)); have hs12 := hb2.size; clear ho2 hq hb2 HO1 HB1)
    | (go_at_call 15; refine (HF.out _).mono ?_; rintro e w3 ⟨v3, rfl, ho3, hb3⟩; obtain ⟨a3, cap3, rfl, _⟩ := ho3.at.ua; have HO3 := hid ho3; have HO13 := hid (HO12.out.later hb3); have HO23 := hid (HO2.out.later hb3); have HT3 := hid (HT2.out.later hb3); have HB3 := hid (HB2.out.trans (hb3.mono HB2.out.size)); have hs23 := hb3.size; clear ho3 hb3 HO12 HO2 HT2 HB2)
    | fail)
  have HR1 := hid HO13.out
  go_loopw [6] (fun i wr => ∃ k : Nat, k ≤ U.length ∧ i = .int .i64 (k : Int) ∧ Row3 wr w.heap.size g1 U.length cap1 ∧ Alt (fun i => i = g1) w3 wr) (fun i _ => U.length - (intOf i).toNat)
  case atStart => exact ⟨0, Nat.zero_le _, rfl, ⟨_, HR1.out⟩, Alt.refl _ _⟩
  case round =>
    obtain ⟨k, hk, rfl, hrw, hal⟩ := hrel
    by_cases hlt : k < U.length
    · obtain ⟨⟨v0, x0⟩, ⟨v1, x1⟩, ⟨v2, x2⟩, y0, y1, y2⟩ := hrw.cells k hlt
      have HRw := hid hrw
      have hli : (k : Int) < (U.length : Int) := by omega
      clear hrw
      go_wp2
      go_roundw
      case rel => exact ⟨k + 1, by omega, by go_num, ((HRw.out.set _ _).set _ _).set _ _, ((hal.setCell _ _ _ rfl).setCell _ _ _ rfl).setCell _ _ _ rfl⟩
      case measure => simp [intOf]; omega
    · have hli : ¬ (k : Int) < (U.length : Int) := by omega
      have hrw' := hrw
      obtain ⟨xs, hx⟩ := hrw'
      have HX := hid hx
      clear hrw hx
      go_wp2_with (at_builtin; refine wpList_append_own_at _ rfl _ _ 26 rfl w.heap.size 30 i0 (.agg #[.int .i64 0, .int .i64 0, .int .i64 0]) 3 24 Tryd.underlying26 hi hz0 hz1 hz2 rfl (by decide) (.slice (some ⟨g1, 0, none⟩) U.length cap1) _ _ rfl (HX.out.alloc _) ⟨wr.heap.size, 0, none⟩ 1 1 [.int .i64 (-8), .int .i64 0, .int .i64 0] rfl rfl (cell3_new _ _ _ _ _) (by simp [Value.oneCell']) (by unfold maxLen; omega) (by omega) (by have := HB3.out.size; have := hal.size; simp; omega) ?_; intro v5 w5 hown5 hgrow5 _ hat5; obtain ⟨g5, cap5, rfl⟩ := ownsRow_succ hown5)
      have HOwA := hid hown5
      have hggA : g5 = g1 ∨ w3.heap.size ≤ g5 := by
        rcases hat5 with h | h
        · exact .inl (by simpa [Value.ownBlock] using h)
        · exact .inr (by have := hal.size; simp [Value.ownBlock] at h; omega)
      have HAlA := hid ((hal.below (alloc_below _ _)).grown hgrow5 (fun q hq => .inl (by simpa [Value.ownBlock] using hq.symm)))
      clear hown5 hgrow5 hat5 hal
      go_loopw [7, 8] (fun v i wr => ∃ k g cap : Nat, 1 ≤ k ∧ k ≤ 64 ∧ i = .int .i64 (k : Int) ∧ v = .slice (some ⟨g, 0, none⟩) (U.length + k) cap ∧ Row3 wr w.heap.size g (U.length + k) cap ∧ (g = g1 ∨ w3.heap.size ≤ g) ∧ Alt (fun i => i = g1) w3 wr) (fun _ i _ => 64 - (intOf i).toNat)
      case atStart => exact ⟨1, g5, cap5, by omega, by omega, rfl, rfl, ⟨_, HOwA.out⟩, hggA, HAlA.out⟩
      case round =>
        clear HOwA HAlA hggA
        obtain ⟨j, gj, capj, hj1, hj2, rfl, rfl, ⟨ys, hown⟩, hgj, halj⟩ := hrel
        have HOj := hid hown
        clear hown
        by_cases hj : j < 64
        · have hji : (j : Int) < 64 := by omega
          have hszj := halj.size
          go_wp2_with (at_builtin; refine wpList_append_own_at _ rfl _ _ 26 rfl w.heap.size 30 i0 (.agg #[.int .i64 0, .int .i64 0, .int .i64 0]) 3 24 Tryd.underlying26 hi hz0 hz1 hz2 rfl (by decide) (.slice (some ⟨gj, 0, none⟩) (U.length + j) capj) _ _ rfl (HOj.out.alloc _) ⟨wr.heap.size, 0, none⟩ 1 1 [.int .i64 (-8), .int .i64 0, .int .i64 0] rfl rfl (cell3_new _ _ _ _ _) (by simp [Value.oneCell']) (by unfold maxLen; omega) (by omega) (by have := HB3.out.size; simp; omega) ?_; intro vn wn hownn hgrown _ hatn; obtain ⟨gn, capn, rfl⟩ := ownsRow_succ hownn)
          have HOn := hid hownn
          have hgn : gn = g1 ∨ w3.heap.size ≤ gn := by
            rcases hatn with h | h
            · have : gn = gj := by simpa [Value.ownBlock] using h
              omega
            · exact .inr (by simp [Value.ownBlock] at h; omega)
          have HAn := hid ((halj.below (alloc_below _ _)).grown hgrown (fun q hq => by have : gj = q := by simpa [Value.ownBlock] using hq
                                                                                       subst this; exact hgj))
          clear hownn hgrown hatn halj
          go_wp2
          go_roundw
          case rel => exact ⟨j + 1, gn, capn, by omega, by omega, by go_num, rfl, ⟨_, HOn.out⟩, hgn, HAn.out⟩
          case measure => simp [intOf]; omega
        · obtain rfl : j = 64 := by omega
          have hal6 := halj
          have HO2r := hid (HO23.out.alt hal6 (fun g hg => by have : g2 = g := by simpa [Value.ownBlock] using hg
                                                              subst this; show ¬ g2 = g1; omega))
          have HO3r := hid (HO3.out.alt hal6 (fun g hg => by have := (World.ownsRow.lt HO3.out g hg).1; show ¬ g = g1; omega))
          have HTr := hid (HT3.out.alt hal6 (by show ¬ _ = g1; omega))
          have hsr := hal6.size
          have HAr := hid hal6
          clear halj hal6 HO23 HO3 HT3
          go_wp2_with (go_at_call 12; refine (sameU_any U _ _ _ (by omega) HO2r.out.at HO3r.out.at).mono ?_; rintro e w7 ⟨rfl, hq7⟩; have hb7 : Below wr.heap.size wr w7 := (by obtain ⟨q, rfl⟩ := hq7; exact below_drewN (Below.refl _ _) _); clear hq7)
          have HR2 := hid (HO2r.out.later hb7)
          have HO3s := hid (HO3r.out.later hb7)
          have HTs := hid (HTr.out.later hb7)
          have HAs := hid (HAr.out.below hb7)
          have hss := hb7.size
          clear hb7 HO2r HO3r HTr HAr
          go_loopw [10] (fun i wr => ∃ k : Nat, k ≤ U.length ∧ i = .int .i64 (k : Int) ∧ Row3 wr w1.heap.size g2 U.length cap2 ∧ Alt (fun i => i = g2) w7 wr) (fun i _ => U.length - (intOf i).toNat)
          case atStart => exact ⟨0, Nat.zero_le _, rfl, ⟨_, HR2.out⟩, Alt.refl _ _⟩
          case round =>
            obtain ⟨k, hk, rfl, hrw, hal⟩ := hrel
            by_cases hlt : k < U.length
            · obtain ⟨⟨v0, x0⟩, ⟨v1, x1⟩, ⟨v2, x2⟩, y0, y1, y2⟩ := hrw.cells k hlt
              have HRw := hid hrw
              have hli : (k : Int) < (U.length : Int) := by omega
              clear hrw
              go_wp2
              go_roundw
              case rel => exact ⟨k + 1, by omega, by go_num, ((HRw.out.set _ _).set _ _).set _ _, ((hal.setCell _ _ _ rfl).setCell _ _ _ rfl).setCell _ _ _ rfl⟩
              case measure => simp [intOf]; omega
            · have hli : ¬ (k : Int) < (U.length : Int) := by omega
              have hrw' := hrw
              obtain ⟨xs, hx⟩ := hrw'
              have HX := hid hx
              clear hrw hx
              go_wp2_with (at_builtin; refine wpList_append_own_at _ rfl _ _ 26 rfl w1.heap.size 30 i0 (.agg #[.int .i64 0, .int .i64 0, .int .i64 0]) 3 24 Tryd.underlying26 hi hz0 hz1 hz2 rfl (by decide) (.slice (some ⟨g2, 0, none⟩) U.length cap2) _ _ rfl (HX.out.alloc _) ⟨wr.heap.size, 0, none⟩ 1 1 [.int .i64 (-6), .int .i64 0, .int .i64 0] rfl rfl (cell3_new _ _ _ _ _) (by simp [Value.oneCell']) (by unfold maxLen; omega) (by omega) (by have := HB3.out.size; have := hal.size; simp; omega) ?_; intro v9 w9 hown9 hgrow9 _ hat9; obtain ⟨g9, cap9, rfl⟩ := ownsRow_succ hown9)
              have HOwB := hid hown9
              have hggB : g9 = g2 ∨ w7.heap.size ≤ g9 := by
                rcases hat9 with h | h
                · exact .inl (by simpa [Value.ownBlock] using h)
                · exact .inr (by have := hal.size; simp [Value.ownBlock] at h; omega)
              have HAlB := hid ((hal.below (alloc_below _ _)).grown hgrow9 (fun q hq => .inl (by simpa [Value.ownBlock] using hq.symm)))
              clear hown9 hgrow9 hat9 hal
              go_loopw [11, 12] (fun v i wr => ∃ k g cap : Nat, 1 ≤ k ∧ k ≤ 64 ∧ i = .int .i64 (k : Int) ∧ v = .slice (some ⟨g, 0, none⟩) (U.length + k) cap ∧ Row3 wr w1.heap.size g (U.length + k) cap ∧ (g = g2 ∨ w7.heap.size ≤ g) ∧ Alt (fun i => i = g2) w7 wr) (fun _ i _ => 64 - (intOf i).toNat)
              case atStart => exact ⟨1, g9, cap9, by omega, by omega, rfl, rfl, ⟨_, HOwB.out⟩, hggB, HAlB.out⟩
              case round =>
                clear HOwB HAlB hggB
                obtain ⟨j, gj, capj, hj1, hj2, rfl, rfl, ⟨ys, hown⟩, hgj, halj⟩ := hrel
                have HOj := hid hown
                clear hown
                by_cases hj : j < 64
                · have hji : (j : Int) < 64 := by omega
                  have hszj := halj.size
                  go_wp2_with (at_builtin; refine wpList_append_own_at _ rfl _ _ 26 rfl w1.heap.size 30 i0 (.agg #[.int .i64 0, .int .i64 0, .int .i64 0]) 3 24 Tryd.underlying26 hi hz0 hz1 hz2 rfl (by decide) (.slice (some ⟨gj, 0, none⟩) (U.length + j) capj) _ _ rfl (HOj.out.alloc _) ⟨wr.heap.size, 0, none⟩ 1 1 [.int .i64 (-6), .int .i64 0, .int .i64 0] rfl rfl (cell3_new _ _ _ _ _) (by simp [Value.oneCell']) (by unfold maxLen; omega) (by omega) (by have := HB3.out.size; simp; omega) ?_; intro vn wn hownn hgrown _ hatn; obtain ⟨gn, capn, rfl⟩ := ownsRow_succ hownn)
                  have HOn := hid hownn
                  have hgn : gn = g2 ∨ w7.heap.size ≤ gn := by
                    rcases hatn with h | h
                    · have : gn = gj := by simpa [Value.ownBlock] using h
                      omega
                    · exact .inr (by simp [Value.ownBlock] at h; omega)
                  have HAn := hid ((halj.below (alloc_below _ _)).grown hgrown (fun q hq => by have : gj = q := by simpa [Value.ownBlock] using hq
                                                                                               subst this; exact hgj))
                  clear hownn hgrown hatn halj
                  go_wp2
                  go_roundw
                  case rel => exact ⟨j + 1, gn, capn, by omega, by omega, by go_num, rfl, ⟨_, HOn.out⟩, hgn, HAn.out⟩
                  case measure => simp [intOf]; omega
                · obtain rfl : j = 64 := by omega
                  have HOc := hid (HO3s.out.alt halj (fun g hg => by have := (World.ownsRow.lt HO3s.out g hg).1; show ¬ g = g2; omega))
                  have HTc := hid (HTs.out.alt halj (by show ¬ _ = g2; omega))
                  have HAc := hid ((HAs.out.mono (S' := fun i => i = g1 ∨ i = g2) (fun _ h => .inl h)).trans (halj.mono (fun _ h => .inr h)))
                  clear halj HO3s HTs HAs
                  go_wp2_with (first
                    | (go_at_call 11; refine (HS.out _ HTc.out).mono ?_; rintro e wa ⟨ga, capa, rfl, hoa, hcapa, hga, hgba, hba⟩; have HOa := hid hoa; have HOh := hid (HOc.out.later hba); have HAa := hid (HAc.out.below hba); clear hoa hba)
                    | (go_at_call 12; refine (sameU_any U _ _ _ (by omega) HOa.out.at HOh.out.at).mono ?_; rintro e wb ⟨rfl, qb, rfl⟩)
                    | fail)
                  go_ret
                  refine ⟨by simp, below_drewN ?_ _⟩
                  exact ⟨HAa.out.os.trans HB3.out.os, HAa.out.tape.trans HB3.out.tape, HAa.out.output.trans HB3.out.output, Nat.le_trans HB3.out.size HAa.out.size, fun k hk => (HAa.out.block k (by have := HB3.out.size; omega) (by show ¬ (k = g1 ∨ k = g2); omega)).trans (HB3.out.block k hk)⟩
end Go.Proofs.YtoopigkndomdgaaDoor
