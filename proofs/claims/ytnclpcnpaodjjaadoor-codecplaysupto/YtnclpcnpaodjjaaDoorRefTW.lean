/-
  The walks of caesuraref1's Writer: Text, Bytes.
-/
import Derived.Test.YtnclpcnpaodjjaaDoorRefW
namespace Go.Proofs.YtnclpcnpaodjjaaDoor
open Go.RowKit
set_option maxRecDepth 10000 in
set_option maxHeartbeats 800000 in
theorem refText_any (s : ByteArray) (B : Nat) (v : Value) (l : List UInt8) (w : World) (h : RWr w B v l) (hl : l.length + s.size + 20 ≤ 536870912) :
    Calls Tryd.prog 22 #[.pointer (some ⟨B, 0, none⟩), .string s] w fun e w' => e = .returned (.tuple #[]) ∧ ∃ v', RWr w' B v' (l ++ (form 9 s.size ++ s.data.toList)) ∧ Only w w' (Wr.S B v) ∧ (∀ k, v'.ownBlock = some k → v.ownBlock = some k ∨ w.heap.size ≤ k) := by
  obtain ⟨i0, hi, hz0, hz1, hz2⟩ := info_parts infoU8
  have hs63 : s.size < 9223372036854775808 := by omega
  have hfl := form_length 9 s.size
  have HR := hid0 h
  obtain ⟨q0, f0⟩ := h.cells
  clear h
  go_enter Tryd.func22, Tryd.ntmps22
  go_wp2
  have HRd : Hid (RWr w.drew B v l) := ⟨HR.out.blk, HR.out.own⟩
  go_region_law
    (first
    | (refine step_append_lies _ (by rfl) _ _ _ (by rfl) 0 5 i0 (.int .u8 0) 1 1 Tryd.underlying26 hi hz0 hz1 hz2 rfl (by decide) v l.length (cellsOf l) (by rfl) (HRd.out.own.later HB1.out) ⟨g1, 0, none⟩ (form 9 s.size).length c1 (cellsOf (form 9 s.size)) (by rfl) (by simp [cellsOf]) (cells_add HO1.out) (cells_one _) (by omega) (by unfold maxLen; omega) (by omega) (Nat.zero_le _) w1.heap.size rfl ?_; intro g2 cap2 w2 hown2 hgrow2 hat2 hlt2; have hq2 : w2.cell? ⟨B, 0, none⟩ = some v := (hgrow2.cell hq1 (fun e => HRd.out.ne e.symm)); have hf2 : w2.frozen? ⟨B, 0, none⟩ = false := ((World.frozen?_of_block (hgrow2.block B (Nat.lt_of_lt_of_le HRd.out.lt HB1.out.size) (fun e => HRd.out.ne e.symm))).trans hf1); have HO2 := hid0 hown2; have HG2 := hid0 hgrow2; have HA2 := hid0 hat2; clear hown2 hgrow2 hat2)
    | (go_simp; go_at_call 31; refine (refForm_any s.size hs63 _).mono ?_; rintro e w1 ⟨v1, rfl, ho1, hb1⟩; have hq1 : w1.cell? ⟨B, 0, none⟩ = some v := (HRd.out.later hb1).cells.1; have hf1 : w1.frozen? ⟨B, 0, none⟩ = false := (HRd.out.later hb1).cells.2; have hg1 : ∃ g c, v1 = .slice (some ⟨g, 0, none⟩) (form 9 s.size).length c := (by rcases ho1.2 with ⟨h, hn⟩ | ⟨g, c, cur, h, _⟩; omega; exact ⟨g, c, h⟩); obtain ⟨g1, c1, rfl⟩ := hg1; have HO1 := hid0 ho1; have HB1 := hid0 hb1; clear ho1 hb1))
  all_goals
    have ho2 : Own w2 0 (.slice (some ⟨g2, 0, none⟩) (l.length + (form 9 s.size).length) cap2) (l ++ form 9 s.size) := by
      have := HO2.out
      unfold Own
      rw [List.length_append, cellsOf_append]
      exact this
    have R := HRd.out.put HB1.out HG2.out ho2 (by rcases HA2.out with h | h; exact .inl h.symm; exact .inr (by rw [h]; rfl))
    have HZ := hid0 R
    clear R ho2 HO2 HG2 HA2 HO1 HB1 hq1 hq2 hf1 hf2
    go_wp2
    go_loopw [4] (fun i wr => ∃ (k : Nat) (u : Value), k ≤ s.size ∧ i = .int .i64 (k : Int) ∧ RWr wr B u (l ++ form 9 s.size ++ s.data.toList.take k) ∧ Only w wr (Wr.S B v) ∧ (∀ k, u.ownBlock = some k → v.ownBlock = some k ∨ w.heap.size ≤ k)) (fun i _ => s.size - (intOf i).toNat)
    case atStart =>
      obtain ⟨z1, z2, z3⟩ := HZ.out
      exact ⟨0, _, Nat.zero_le _, rfl, by simpa using z1, ⟨z2.os, z2.tape, z2.output, z2.size, z2.block⟩, z3⟩
    case round =>
      obtain ⟨k, u, hk, rfl, hr, ho, hn⟩ := hrel
      clear HZ HR HRd q0 f0
      have HR := hid0 hr
      have HY := hid0 ho
      have HN := hid0 hn
      obtain ⟨q0, f0⟩ := hr.cells
      clear hr ho hn
      by_cases hlt : k < s.size
      · have HT : Hid (s.data.toList.take (k + 1) = s.data.toList.take k ++ [s[k]]) := take_snoc _ _ (by simpa using hlt)
        have hlen : (l ++ form 9 s.size ++ s.data.toList.take k).length = l.length + ((form 9 s.size).length + k) := by simp; omega
        have HW : Hid ((wr.alloc (.cells #[.int .u8 (s[k].toNat : Int)] 5)).drew.ownsRow 0 5 1 u (l.length + ((form 9 s.size).length + k)) (cellsOf (l ++ form 9 s.size ++ s.data.toList.take k))) := by
          have h := HR.out.own
          unfold Own at h
          rw [hlen] at h
          exact (h.alloc _).drew
        have HL1 : Hid ((l ++ form 9 s.size ++ s.data.toList.take (k + 1)).length = l.length + ((form 9 s.size).length + k) + 1) := by
          show _ = _
          rw [HT.out, ← List.append_assoc, List.length_append, hlen]
          rfl
        have HL2 : Hid (cellsOf (l ++ form 9 s.size ++ s.data.toList.take (k + 1)) = cellsOf (l ++ form 9 s.size ++ s.data.toList.take k) ++ [.int .u8 (s[k].toNat : Int)]) := by
          show _ = _
          rw [HT.out, ← List.append_assoc, cellsOf_append]
          rfl
        obtain ⟨e0, e1⟩ := (HR.out.later (alloc_below wr (.cells #[.int .u8 (s[k].toNat : Int)] 5))).cells
        have hk0 : (0 : Int) ≤ (k : Int) := by omega
        go_wp2
        go_region_law
          (refine step_append_lies _ (by rfl) _ _ _ (by rfl) 0 5 i0 (.int .u8 0) 1 1 Tryd.underlying26 hi hz0 hz1 hz2 rfl (by decide) u _ _ (by rfl) HW.out ⟨wr.heap.size, 0, none⟩ 1 1 [.int .u8 (s[k].toNat : Int)] (by rfl) (by rfl) (World.news_of_block (cs := #[.int .u8 (s[k].toNat : Int)]) (t := 5) (fr := (0, 0)) (heap_alloc_new wr _)) (by simp [Value.oneCell']) (by omega) (by unfold maxLen; omega) (by omega) (Nat.zero_le _) (wr.heap.size + 1) (by simp) ?_; intro g3 cap3 w3 hown3 hgrow3 hat3 hlt3; have hq3 : w3.cell? ⟨B, 0, none⟩ = some u := (hgrow3.cell e0 (fun e => HR.out.ne e.symm)); have hf3 : w3.frozen? ⟨B, 0, none⟩ = false := ((World.frozen?_of_block (hgrow3.block B (Nat.lt_of_lt_of_le HR.out.lt (by simp)) (fun e => HR.out.ne e.symm))).trans e1); have HO3 := hid0 hown3; have HG3 := hid0 hgrow3; have HA3 := hid0 hat3; clear hown3 hgrow3 hat3)
        all_goals
          have ho3 : Own w3 0 (.slice (some ⟨g3, 0, none⟩) (l.length + ((form 9 s.size).length + k) + 1) cap3) (l ++ form 9 s.size ++ s.data.toList.take (k + 1)) := by
            have := HO3.out
            unfold Own
            rw [HL1.out, HL2.out]
            exact this
          have R := HR.out.put (alloc_below wr (.cells #[.int .u8 (s[k].toNat : Int)] 5)).drew HG3.out ho3 (by rcases HA3.out with h | h; exact .inl h.symm; exact .inr (by rw [h]; simp [Value.ownBlock]))
          have HZ := hid0 R
          clear R ho3 HO3 HG3 HA3 e0 e1
          go_wp2
          go_roundw
          case rel =>
            obtain ⟨z1, z2, z3⟩ := HZ.out
            refine ⟨k + 1, _, hlt, by go_num, z1, HY.out.trans z2 (fun i hi => ?_), fun j hj => ?_⟩
            · rcases hi with hi | hi
              · exact .inl (.inl hi)
              · exact (HN.out i hi).elim (fun h => .inl (.inr h)) .inr
            · rcases z3 j hj with h | h
              · exact HN.out j h
              · exact .inr (Nat.le_trans HY.out.size h)
          case measure => simp [intOf]; omega
      · go_wp2
        go_end0
        rw [List.take_of_length_le (by simp; omega), List.append_assoc] at HR
        exact ⟨rfl, u, HR.out, HY.out, HN.out⟩
set_option maxRecDepth 10000 in
theorem refBytes_any (B : Nat) (v : Value) (l : List UInt8) (w : World) (h : RWr w B v l) (hl : l.length ≤ 536870912) :
    Calls Tryd.prog 26 #[.pointer (some ⟨B, 0, none⟩)] w fun e w' => ∃ v', e = .returned v' ∧ Own w' w.heap.size v' l ∧ Below w.heap.size w w' := by
  obtain ⟨i0, hi, hz0, hz1, hz2⟩ := info_parts infoU8
  have HR := hid0 h
  obtain ⟨q0, f0⟩ := h.cells
  rcases h.own.2 with ⟨rfl, hn⟩ | ⟨g, cap, cur, rfl, _⟩
  · have hl0 : l = [] := List.length_eq_zero_iff.1 hn
    subst hl0
    clear h
    go_enter Tryd.func26, Tryd.ntmps26
    go_wp2
    go_ret
    exact ⟨_, rfl, World.ownsRow_nil _ _ _ _, Below.refl _ _⟩
  · have HC := hid0 (cells_add h.own)
    have HB := h.own.lt_size
    clear h
    go_enter Tryd.func26, Tryd.ntmps26
    go_wp2_with (at_builtin; refine wpList_append_own _ rfl _ _ 26 rfl w.heap.size 5 i0 (.int .u8 0) 1 1 Tryd.underlying26 hi hz0 hz1 hz2 rfl (by decide) _ _ _ rfl (World.ownsRow_nil _ _ _ _) ⟨g, 0, none⟩ l.length cap (cellsOf l) rfl (by simp [cellsOf]) HC.out (cells_one _) (by unfold maxLen; omega) (by omega) (Nat.le_refl _) ?_; intro v1 w1 hown1 hgrow1 _; have HO1 := hid0 hown1; have HG1 : Hid (w.grownBy w1 none) := hgrow1; clear hown1 hgrow1)
    go_ret
    have ho := HO1.out
    rw [Nat.zero_add, List.nil_append] at ho
    exact ⟨_, rfl, ho, (Below.refl _ _).grown HG1.out (Nat.le_refl _) (fun k hk => by simp at hk)⟩
end Go.Proofs.YtnclpcnpaodjjaaDoor
