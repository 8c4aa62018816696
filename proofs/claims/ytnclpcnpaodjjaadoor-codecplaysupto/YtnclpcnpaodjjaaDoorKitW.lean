/-
  The walks of caesurakit.Bytes, caesurakit.Copy, caesuralaw1.spare, caesuralaw1.kept.
-/
import Derived.Test.YtnclpcnpaodjjaaDoorCrcW
namespace Go.Proofs.YtnclpcnpaodjjaaDoor
open Go.RowKit
/-- Bytes as cells. -/
def cellsOf (l : List UInt8) : List Value := l.map fun c => .int .u8 (c.toNat : Int)
theorem cellsOf_length (l : List UInt8) : (cellsOf l).length = l.length := by simp [cellsOf]
/-- A slice value of the call's own, at the head of a block from 'base' on, that reads as these bytes; nil only if it is empty. -/
def Own (w : World) (base : Nat) (v : Value) (l : List UInt8) : Prop := w.ownsRow base 5 1 v l.length (cellsOf l)
theorem infoU8 : (Tryd.prog.info? 5).map (fun i => (i.zero, i.size, i.bytes)) = some (some (.int .u8 0), 1, 1) := by kernel_rfl
theorem Own.bytesAt {w : World} {base : Nat} {v : Value} {l : List UInt8} (h : Own w base v l) : BytesAt w v l := by
  have h0 := h
  rcases h.2 with ⟨rfl, hn⟩ | ⟨g, cap, cur, rfl, _⟩
  · exact .inl ⟨rfl, List.length_eq_zero_iff.1 hn⟩
  · refine .inr ⟨g, 0, cap, rfl, fun k hk => ?_⟩
    rw [Nat.zero_add, World.ownsRow.cellAt h0 k (by omega)]
    simp [cellsOf, hk]
/-- One byte more. -/
theorem own_snoc {w wr w1 : World} {base : Nat} {v v' : Value} {l m : List UInt8} {c : UInt8} {o : Obj} {n : Nat} (hn : n = l.length) (hown : Own wr base v l)
    (hown' : w1.ownsRow base 5 1 v' (n + 1) (cellsOf l ++ [.int .u8 (c.toNat : Int)])) (hgrow : (wr.alloc o).grownBy w1 v.ownBlock) (hm : m = l ++ [c]) (hbel : Below base w wr) (hb : base ≤ w.heap.size) :
    Own w1 base v' m ∧ Below base w w1 := by
  subst hm hn
  have hsz := hbel.size
  refine ⟨?_, (hbel.alloc (by omega) o).grown hgrow (by simp; omega) (fun k hk => (World.ownsRow.lt hown k hk).1)⟩
  have e1 : (l ++ [c]).length = l.length + 1 := by simp
  have e2 : cellsOf (l ++ [c]) = cellsOf l ++ [.int .u8 (c.toNat : Int)] := by simp [cellsOf]
  unfold Own
  rw [e1, e2]
  exact hown'
set_option maxRecDepth 10000 in
set_option maxHeartbeats 400000 in
theorem kitBytes_any (s : ByteArray) (w : World) (base : Nat) (hs : s.size ≤ 140737488355328) (hb : base ≤ w.heap.size) :
    Calls Tryd.prog 9 #[.string s] w fun e w' => ∃ v, e = .returned v ∧ Own w' base v s.data.toList ∧ Below base w w' := by
  obtain ⟨i0, hi, hz0, hz1, hz2⟩ := info_parts infoU8
  go_enter Tryd.func9, Tryd.ntmps9
  go_wp2
  go_loopw [3, 4] (fun v i wr => ∃ k : Nat, k ≤ s.size ∧ i = .int .i64 k ∧ Own wr base v (s.data.toList.take k) ∧ Below base w wr)
    (fun _ i _ => s.size - (intOf i).toNat)
  case atStart => exact ⟨0, Nat.zero_le _, rfl, World.ownsRow_nil _ _ _ _, Below.refl _ _⟩
  case round =>
    obtain ⟨k, hk, rfl, hown, hbel⟩ := hrel
    by_cases hlt : k < s.size
    · have HN : Hid (s.data.toList.take (k + 1) = s.data.toList.take k ++ [s[k]]) := take_snoc _ _ (by simpa using hlt)
      have hlen : (s.data.toList.take k).length = k := by simp; omega
      have hsz := hbel.size
      go_wp2_with (at_builtin; refine wpList_append_own _ rfl _ _ 26 rfl base 5 i0 (.int .u8 0) 1 1 Tryd.underlying26 hi hz0 hz1 hz2 rfl (by decide) _ _ _ rfl (hown.alloc _) ⟨wr.heap.size, 0, none⟩ 1 1 [.int .u8 (s[k].toNat : Int)] rfl rfl ?c1 ?c2 ?c3 ?c4 ?c5 ?_)
      case c1 => exact cell_one_new _ _ _
      case c2 => intro u hu; simp at hu; subst hu; rfl
      case c3 => rw [hlen]; unfold maxLen; omega
      case c4 => rw [hlen]; omega
      case c5 => simp; omega
      · intro v' w1 hown' hgrow _
        have R := own_snoc hlen.symm hown hown' hgrow HN.out hbel hb
        clear hown' hgrow hown hbel
        go_wp2
        go_roundw
        case rel => exact ⟨k + 1, by omega, by go_num, R.1, R.2⟩
        case measure => simp [intOf]; omega
    · go_wp2
      go_ret
      rw [List.take_of_length_le (by simp; omega)] at hown
      exact ⟨_, rfl, hown, hbel⟩
/-- A slice value's block lies in this memory. -/
def InMem (w : World) (v : Value) : Prop := ∀ b off c n, v = .slice (some ⟨b, off, none⟩) n c → b < w.heap.size
/-- The marks behind. -/
def marks (k : Nat) : List UInt8 := (List.range k).map fun i => UInt8.ofNat (200 + i % 7)
theorem marks_succ (k : Nat) : marks (k + 1) = marks k ++ [UInt8.ofNat (200 + k % 7)] := by simp [marks, List.range_succ]
theorem marks_length (k : Nat) : (marks k).length = k := by simp [marks]
theorem mark_toNat (k : Nat) : (UInt8.ofNat (200 + k % 7)).toNat = 200 + k % 7 := by simp; omega
set_option maxRecDepth 10000 in
set_option maxHeartbeats 400000 in
theorem spare_any (s : ByteArray) (w : World) (hs : s.size ≤ 140737488351232) :
    Calls Tryd.prog 6 #[.string s] w fun e w' => ∃ v, e = .returned v ∧ Own w' w.heap.size v (s.data.toList ++ marks 64) ∧ Below w.heap.size w w' := by
  obtain ⟨i0, hi, hz0, hz1, hz2⟩ := info_parts infoU8
  have hK := kitBytes_any s w w.heap.size (by omega) (Nat.le_refl _)
  go_enter Tryd.func6, Tryd.ntmps6
  go_wp2_with (go_at_call 9; refine hK.mono ?_; rintro e w1 ⟨v1, rfl, hown1, hbel1⟩)
  go_loopw [3, 4] (fun v i wr => ∃ k : Nat, k ≤ 64 ∧ i = .int .i64 k ∧ Own wr w.heap.size v (s.data.toList ++ marks k) ∧ Below w.heap.size w wr)
    (fun _ i _ => 64 - (intOf i).toNat)
  case atStart => exact ⟨0, Nat.zero_le _, rfl, by simpa [marks] using hown1, hbel1⟩
  case round =>
    clear hown1 hbel1 hK
    obtain ⟨k, hk, rfl, hown, hbel⟩ := hrel
    by_cases hlt : k < 64
    · have HN : Hid (s.data.toList ++ marks (k + 1) = (s.data.toList ++ marks k) ++ [UInt8.ofNat (200 + k % 7)]) := by show _ = _; rw [marks_succ, List.append_assoc]
      have hlen : (s.data.toList ++ marks k).length = s.size + k := by simp [marks_length]
      have hsz := hbel.size
      have HT : Hid ((UInt8.ofNat (200 + k % 7)).toNat = 200 + k % 7) := mark_toNat k
      go_wp2_with (at_builtin; refine wpList_append_own _ rfl _ _ 26 rfl w.heap.size 5 i0 (.int .u8 0) 1 1 Tryd.underlying26 hi hz0 hz1 hz2 rfl (by decide) _ _ _ rfl (hown.alloc _) ⟨wr.heap.size, 0, none⟩ 1 1 [.int .u8 (200 + (k : Int) % 7)] rfl rfl ?c1 ?c2 ?c3 ?c4 ?c5 ?_)
      case c1 => exact cell_one_new _ _ _
      case c2 => intro u hu; simp at hu; subst hu; rfl
      case c3 => rw [hlen]; unfold maxLen; omega
      case c4 => rw [hlen]; omega
      case c5 => simp; omega
      · intro v' w1 hown' hgrow _
        have e1 : (200 + (k : Int) % 7) = ((UInt8.ofNat (200 + k % 7)).toNat : Int) := by rw [HT.out]; omega
        rw [e1] at hown'
        have R := own_snoc hlen.symm hown hown' hgrow HN.out hbel (Nat.le_refl _)
        clear hown' hgrow hown hbel e1
        go_wp2
        go_roundw
        case rel => exact ⟨k + 1, by omega, by go_num, R.1, R.2⟩
        case measure => simp [intOf]; omega
    · have hk64 : k = 64 := by omega
      subst hk64
      go_wp2
      go_ret
      exact ⟨_, rfl, hown, hbel⟩
end Go.Proofs.YtnclpcnpaodjjaaDoor
