/-
  The walk of caesuralaw1.CodecSums.
-/
import Derived.Test.YtageiccempcbaaaDoorKeptW
namespace Go.Proofs.YtageiccempcbaaaDoor
open Go.RowKit
theorem TabAt.below {w w' : World} {B : Nat} (h : TabAt w) (hb : Below B w w') (h0 : 0 < B) : TabAt w' := fun a => (hb.cell (p := ⟨0, _, none⟩) h0).trans (h a)
theorem TabAt.pos {w : World} (h : TabAt w) : 0 < w.heap.size := World.block_lt_of_cell? w _ (h 0#32)
theorem alloc_below (w : World) (o : Obj) : Below w.heap.size w (w.alloc o) := (Below.refl _ _).alloc (Nat.le_refl _) o
/-- What spare hands back, its shape written out. -/
theorem spare_at (s : ByteArray) (w : World) (hs : s.size ≤ 140737488351232) :
    Calls Tryd.prog 9 #[.string s] w fun e w' => ∃ g cap, e = .returned (.slice (some ⟨g, 0, none⟩) (s.size + 64) cap) ∧ w.heap.size ≤ g ∧ g < w'.heap.size ∧ s.size + 64 ≤ cap ∧
      Own w' w.heap.size (.slice (some ⟨g, 0, none⟩) (s.size + 64) cap) (s.data.toList ++ marks 64) ∧ Below w.heap.size w w' := by
  refine (spare_any s w hs).mono ?_
  rintro e w' ⟨v, rfl, hown, hbel⟩
  have hlen : (s.data.toList ++ marks 64).length = s.size + 64 := by simp [marks_length]
  have h0 := hown
  unfold Own at hown
  rw [hlen] at hown
  rcases hown.2 with ⟨rfl, hn⟩ | ⟨g, cap, cur, rfl, hg, hh, hcap, _⟩
  · omega
  · exact ⟨g, cap, rfl, hg, (Array.getElem?_eq_some_iff.1 hh).1, hcap, h0, hbel⟩
/-- The cells of an owned row. -/
theorem Own.cell {w : World} {base g n cap : Nat} {l : List UInt8} (h : Own w base (.slice (some ⟨g, 0, none⟩) n cap) l) (k : Nat) (hk : k < l.length) : w.cell? ⟨g, 0 + k, none⟩ = some (.int .u8 (l[k].toNat : Int)) := by
  rcases h.bytesAt with ⟨h', _⟩ | ⟨b, off, c, h', hc⟩
  · simp at h'
  · simp only [Value.slice.injEq, Option.some.injEq, Addr.mk.injEq, and_true] at h'
    obtain ⟨⟨rfl, rfl⟩, _, _⟩ := h'
    exact hc k hk
theorem Own.front {w : World} {base g n cap : Nat} {l m : List UInt8} {c : Nat} (h : Own w base (.slice (some ⟨g, 0, none⟩) n cap) (l ++ m)) (hc : c = l.length) : BytesAt w (.slice (some ⟨g, 0, none⟩) c cap) l := by
  subst hc
  refine .inr ⟨g, 0, cap, rfl, fun k hk => ?_⟩
  rw [h.cell k (by simp; omega), List.getElem_append_left hk]
theorem Own.kept {w w' : World} {base g n cap B : Nat} {l : List UInt8} (h : Own w base (.slice (some ⟨g, 0, none⟩) n cap) l) (hb : Below B w w') (hg : g < B) : Own w' base (.slice (some ⟨g, 0, none⟩) n cap) l := by
  obtain ⟨h1, h2⟩ := h
  refine ⟨h1, ?_⟩
  rcases h2 with h2 | ⟨g', cap', cur, hv, hg', hh, r⟩
  · exact .inl h2
  · refine .inr ⟨g', cap', cur, hv, hg', ?_, r⟩
    simp only [Value.slice.injEq, Option.some.injEq, Addr.mk.injEq, and_true] at hv
    obtain ⟨rfl, _, _⟩ := hv
    rw [hb.block g hg]; exact hh
theorem Own.free {w : World} {base g n cap : Nat} {l : List UInt8} (h : Own w base (.slice (some ⟨g, 0, none⟩) n cap) l) (k : Nat) : w.frozen? ⟨g, k, none⟩ = false := by
  have h0 := h
  rcases h.2 with ⟨h', _⟩ | ⟨g', cap', cur, h', _⟩
  · simp at h'
  · simp only [Value.slice.injEq, Option.some.injEq, Addr.mk.injEq, and_true] at h'
    obtain ⟨_, rfl, _⟩ := h'
    exact World.ownsRow.frozenAt h0 k
theorem Own.lt_size {w : World} {base g n cap : Nat} {l : List UInt8} (h : Own w base (.slice (some ⟨g, 0, none⟩) n cap) l) : g < w.heap.size := (World.ownsRow.lt h g rfl).2
theorem inMem_at {w : World} {g n cap : Nat} (h : g < w.heap.size) : InMem w (.slice (some ⟨g, 0, none⟩) n cap) := by
  intro b off c m e
  simp only [Value.slice.injEq, Option.some.injEq, Addr.mk.injEq, and_true] at e
  omega
/-- The same list, with other bytes in its first k places. -/
def other (k : Nat) : List UInt8 := (List.range k).map fun j => UInt8.ofNat (j + 1)
def over (l : List UInt8) (k : Nat) : List UInt8 := other k ++ l.drop k
theorem other_length (k : Nat) : (other k).length = k := by simp [other]
theorem over_zero (l : List UInt8) : over l 0 = l := by simp [over, other]
theorem over_length (l : List UInt8) (k : Nat) (h : k ≤ l.length) : (over l k).length = l.length := by simp [over, other_length]; omega
theorem over_succ (l : List UInt8) (k : Nat) (h : k < l.length) : over l (k + 1) = (over l k).set k (UInt8.ofNat (k + 1)) := by
  unfold over
  rw [List.set_append_right _ _ (by rw [other_length]; omega), other_length, Nat.sub_self, List.drop_eq_getElem_cons h, List.set_cons_zero]
  simp [other, List.range_succ]
theorem over_at (l m : List UInt8) : over (l ++ m) l.length = other l.length ++ m := by simp [over]
theorem Own.stored {w : World} {base g n cap : Nat} {l : List UInt8} (h : Own w base (.slice (some ⟨g, 0, none⟩) n cap) l) (k : Nat) (c : UInt8) :
    Own (w.setCell ⟨g, k, none⟩ (.int .u8 (c.toNat : Int))) base (.slice (some ⟨g, 0, none⟩) n cap) (l.set k c) := by
  have h0 := h
  rcases h.2 with ⟨h', _⟩ | ⟨g', cap', cur, h', _⟩
  · simp at h'
  · simp only [Value.slice.injEq, Option.some.injEq, Addr.mk.injEq, and_true] at h'
    obtain ⟨_, rfl, _⟩ := h'
    have := (World.ownsRow.stored h0 k (.int .u8 (c.toNat : Int))).1
    unfold Own
    rw [List.length_set]
    simpa [cellsOf, List.map_set] using this
/-- The boxed parameter's two cells, later on. -/
theorem box2 {w w2 : World} {a b : Value} {t : TypeId} (h : Below (w.heap.size + 1) (w.alloc (.cells #[a, b] t)) w2) :
    w2.cell? ⟨w.heap.size, 0, none⟩ = some a ∧ w2.cell? ⟨w.heap.size, 1, none⟩ = some b :=
  ⟨(h.cell (p := ⟨w.heap.size, 0, none⟩) (by simp)).trans (by simp), (h.cell (p := ⟨w.heap.size, 1, none⟩) (by simp)).trans (by simp)⟩
set_option maxRecDepth 10000 in
set_option maxHeartbeats 800000 in
theorem sums_walk (s : ByteArray) (sum : BitVec 32) (w : World) (hs : s.size ≤ 140737488351232) (ht : TabAt w) :
    Calls Tryd.prog 3 #[.agg #[.string s, .int .u32 (Crc.u sum)]] w fun e w' => e = .returned (.bool true) ∧ Below w.heap.size w w' := by
  have hpos := ht.pos
  have HT : Hid (TabAt w) := ht
  clear ht
  go_enter Tryd.func3, Tryd.ntmps3
  go_wp2_with (first
    | (go_at_call 9; refine (spare_at s _ hs).mono ?_; rintro e w2 ⟨g, cap, rfl, hg, hgl, hcap, hown, hbel⟩; simp only [World.size_alloc] at hg hown hbel; obtain ⟨hb0, hb1⟩ := box2 hbel; have HO : Hid (Own w2 (w.heap.size + 1) (.slice (some ⟨g, 0, none⟩) (s.size + 64) cap) (s.data.toList ++ marks 64)) := hown; have HT2 : Hid (TabAt w2) := (HT.out.below (alloc_below w _) hpos).below hbel (by omega); clear hown)
    | (go_at_call 10; refine (crc_any s.data.toList _ _ (by simp; omega) HT2.out (HO.out.front (by simp))).mono ?_; rintro e w3 ⟨rfl, rfl⟩)
    | fail)
  go_quiet ((go_at_call 11; exact Calls.quiet_of_same (crcMore_any sum s.data.toList _ _ (by simp; omega) HT2.out (HO.out.front (by simp)))))
  go_wp2_with (first
    | (go_at_call 12; refine (kept_any s g 0 cap _ hs (by exact HO.out.cell)).mono ?_; rintro e w4 ⟨rfl, n4, rfl⟩)
    | (go_at_call 13; refine (kitBytes_any s _ _ (by omega) (Nat.le_refl _)).mono ?_; rintro e w5 ⟨v5, rfl, hown5, hbel5⟩; have HO5 : Hid (Own w5 w3.heap.size v5 s.data.toList) := hown5; have hb05 : w5.cell? ⟨w.heap.size, 0, none⟩ = some (.string s) := (hbel5.cell (p := ⟨w.heap.size, 0, none⟩) (by simp; omega)).trans hb0; have hb15 : w5.cell? ⟨w.heap.size, 1, none⟩ = some (.int .u32 (Crc.u sum)) := (hbel5.cell (p := ⟨w.heap.size, 1, none⟩) (by simp; omega)).trans hb1; clear hown5)
    | (go_at_call 14; refine (refCrc_any s.data.toList _ _ (by simp; omega) (by exact HO5.out.bytesAt)).mono ?_; rintro e w6 ⟨rfl, rfl⟩)
    | (go_at_call 15; refine (refMore_any sum s.data.toList _ _ (by simp; omega) (by exact HO5.out.bytesAt)).mono ?_; rintro e w6 ⟨rfl, rfl⟩)
    | fail)
  have HB6 : Hid (Below (w.heap.size + 1) (w.alloc (.cells #[.string s, .int .u32 (Crc.u sum)] 24)) w6) := (below_drewN hbel _).trans (hbel5.mono (by have := hbel.size; simp at this; simp; omega))
  have HO6 : Hid (Own w6 (w.heap.size + 1) (.slice (some ⟨g, 0, none⟩) (s.size + 64) cap) (s.data.toList ++ marks 64)) := Own.kept (w := w3.drewN _) HO.out hbel5 hgl
  clear HO HO5 HT2 hbel hbel5 hb0 hb1 hgl
  go_loopw [9] (fun i wr => ∃ k : Nat, k ≤ s.size ∧ i = .int .i64 k ∧ Own wr (w.heap.size + 1) (.slice (some ⟨g, 0, none⟩) (s.size + 64) cap) (over (s.data.toList ++ marks 64) k) ∧ Below (w.heap.size + 1) w6 wr) (fun i _ => s.size - (intOf i).toNat)
  case atStart => exact ⟨0, Nat.zero_le _, rfl, by rw [over_zero]; exact HO6.out, Below.refl _ _⟩
  case round =>
    clear HO6 hb05 hb15
    obtain ⟨k, hk, rfl, hown, hbelr⟩ := hrel
    have HO : Hid (Own wr (w.heap.size + 1) (.slice (some ⟨g, 0, none⟩) (s.size + 64) cap) (over (s.data.toList ++ marks 64) k)) := hown
    have hllen : (s.data.toList ++ marks 64).length = s.size + 64 := by simp [marks_length]
    by_cases hlt : k < s.size
    · obtain ⟨v0, hck⟩ : ∃ v0, wr.cell? ⟨g, k, none⟩ = some v0 := ⟨_, by have := hown.cell k (by rw [over_length _ _ (by omega)]; omega); rw [Nat.zero_add] at this; exact this⟩
      have hfz := hown.free k
      have hst := hown.stored k (UInt8.ofNat (k + 1))
      rw [← over_succ _ k (by omega)] at hst
      have e8 : ((UInt8.ofNat (k + 1)).toNat : Int) = IntKind.u8.wrap ((k : Int) + 1) := by rw [IntKind.wrap_u8', UInt8.toNat_ofNat']; omega
      rw [e8] at hst
      have HS : Hid (Own (wr.setCell ⟨g, k, none⟩ (.int .u8 (IntKind.u8.wrap ((k : Int) + 1)))) (w.heap.size + 1) (.slice (some ⟨g, 0, none⟩) (s.size + 64) cap) (over (s.data.toList ++ marks 64) (k + 1))) := hst
      clear hown hllen hst e8
      go_wp2
      go_roundw
      case rel => exact ⟨k + 1, by omega, by go_num, HS.out, hbelr.setCell (by exact hg) _⟩
      case measure => simp [intOf]; omega
    · have hks : k = s.data.toList.length := by simp; omega
      rw [hks, over_at] at hown
      have hb0 : wr.cell? ⟨w.heap.size, 0, none⟩ = some (.string s) := (hbelr.cell (p := ⟨w.heap.size, 0, none⟩) (by simp)).trans (box2 HB6.out).1
      have hb1 : wr.cell? ⟨w.heap.size, 1, none⟩ = some (.int .u32 (Crc.u sum)) := (hbelr.cell (p := ⟨w.heap.size, 1, none⟩) (by simp)).trans (box2 HB6.out).2
      have HT2 : Hid (TabAt wr) := ((HT.out.below (alloc_below w _) hpos).below HB6.out (by omega)).below hbelr (by omega)
      have hgl := hown.lt_size
      have HN : Hid (Own wr (w.heap.size + 1) (.slice (some ⟨g, 0, none⟩) (s.size + 64) cap) (other s.data.toList.length ++ marks 64)) := hown
      have HL : Hid ((other s.data.toList.length).length = s.size) := by show _ = _; rw [other_length]; simp
      clear hown HO hks hllen hk
      go_wp2_with (first
        | (go_at_call 16; refine (kitCopy_any (other s.data.toList.length) _ _ (by rw [HL.out]; omega) (by exact HN.out.front HL.out.symm) (by exact inMem_at hgl)).mono ?_; rintro e w7 ⟨v7, rfl, hown7, hbel7⟩; have HO7 : Hid (Own w7 wr.heap.size v7 (other s.data.toList.length)) := hown7; have hb07 : w7.cell? ⟨w.heap.size, 0, none⟩ = some (.string s) := (hbel7.cell (p := ⟨w.heap.size, 0, none⟩) (by have := hbelr.size; have := HB6.out.size; simp at *; omega)).trans hb0; have hb17 : w7.cell? ⟨w.heap.size, 1, none⟩ = some (.int .u32 (Crc.u sum)) := (hbel7.cell (p := ⟨w.heap.size, 1, none⟩) (by have := hbelr.size; have := HB6.out.size; simp at *; omega)).trans hb1; have HT7 : Hid (TabAt w7) := HT2.out.below hbel7 HT2.out.pos; have HN7 : Hid (Own w7 (w.heap.size + 1) (.slice (some ⟨g, 0, none⟩) (s.size + 64) cap) (other s.data.toList.length ++ marks 64)) := HN.out.kept hbel7 hgl; clear hown7)
        | (go_at_call 10; refine (crc_any (other s.data.toList.length) _ _ (by rw [HL.out]; omega) (by exact HT7.out) (by exact HN7.out.front HL.out.symm)).mono ?_; rintro e w8 ⟨rfl, rfl⟩)
        | fail)
      go_quiet ((go_at_call 11; exact Calls.quiet_of_same (crcMore_any sum (other s.data.toList.length) _ _ (by rw [HL.out]; omega) HT7.out (HN7.out.front HL.out.symm))))
      go_wp2_with (first
        | (go_at_call 14; refine (refCrc_any (other s.data.toList.length) _ _ (by rw [HL.out]; omega) (by exact HO7.out.bytesAt)).mono ?_; rintro e w9 ⟨rfl, rfl⟩)
        | (go_at_call 15; refine (refMore_any sum (other s.data.toList.length) _ _ (by rw [HL.out]; omega) (by exact HO7.out.bytesAt)).mono ?_; rintro e w9 ⟨rfl, rfl⟩)
        | fail)
      go_ret
      refine ⟨rfl, ?_⟩
      have hB1 := (alloc_below w (.cells #[.string s, .int .u32 (Crc.u sum)] 24))
      have hB2 : Below w.heap.size w w6 := hB1.trans (HB6.out.mono (by omega))
      have hB3 : Below w.heap.size w wr := hB2.trans (hbelr.mono (by omega))
      exact below_drewN (hB3.trans (hbel7.mono hB3.size)) _
end Go.Proofs.YtageiccempcbaaaDoor
