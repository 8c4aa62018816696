/-
  The walks of caesuraref0.SameBytes, caesuralaw1.full.
-/
import Derived.Test.YtnclpcnpaodjjaaDoorRt2W
import Derived.Maps.AppendAt
namespace Go.Proofs.YtnclpcnpaodjjaaDoor
open Go.RowKit
/-- Bytes in memory, each where it is asked. -/
structure BA (w : World) (a : Option Addr) (l : List UInt8) : Prop where
  at' : ∀ k (h : k < l.length), ∃ b off, a = some ⟨b, off, none⟩ ∧ w.cell? ⟨b, off + k, none⟩ = some (.int .u8 (l[k].toNat : Int))
theorem BytesAt.ba {w : World} {v : Value} {l : List UInt8} (h : BytesAt w v l) : ∃ a cap, v = .slice a l.length cap ∧ BA w a l := by
  rcases h with ⟨rfl, rfl⟩ | ⟨b, off, cap, rfl, hc⟩
  · exact ⟨none, 0, rfl, ⟨fun k h => absurd h (Nat.not_lt_zero _)⟩⟩
  · exact ⟨_, cap, rfl, ⟨fun k h => ⟨b, off, rfl, hc k h⟩⟩⟩
set_option maxRecDepth 10000 in
theorem same_ba (l : List UInt8) (a b : Option Addr) (ca cb : Nat) (w : World) (hl : l.length ≤ 140737488355328) (ha : BA w a l) (hb : BA w b l) :
    Calls Tryd.prog 34 #[.slice a l.length ca, .slice b l.length cb] w fun e w' => e = .returned (.bool true) ∧ ∃ n, w' = w.drewN n := by
  have HA := hid0 ha
  have HB := hid0 hb
  clear ha hb
  go_enter Tryd.func34, Tryd.ntmps34
  go_wp2
  go_loopw [5] (fun i wr => ∃ k n : Nat, k ≤ l.length ∧ i = .int .i64 (k : Int) ∧ wr = w.drewN n) (fun i _ => l.length - (intOf i).toNat)
  case atStart => exact ⟨0, 0, Nat.zero_le _, rfl, rfl⟩
  case round =>
    obtain ⟨k, n, hk, rfl, rfl⟩ := hrel
    by_cases hlt : k < l.length
    · obtain ⟨b1, o1, rfl, q1⟩ := HA.out.at' k hlt
      obtain ⟨b2, o2, rfl, q2⟩ := HB.out.at' k hlt
      clear HA HB
      go_wp2
      go_quiet ((fail))
      go_wp2
      go_roundw
      case rel => exact ⟨k + 1, _, hlt, by go_num, rfl⟩
      case measure => simp [intOf]; omega
    · have hk2 : ¬ (k : Int) < (l.length : Int) := by omega
      clear HA HB
      go_wp2
      go_ret
      exact ⟨rfl, n, rfl⟩
set_option maxRecDepth 10000 in
theorem full_ba (l : List UInt8) (m : UInt8) (hm : ∀ c ∈ l, c = m) (a : Option Addr) (ca : Nat) (w : World) (hl : l.length ≤ 140737488355328) (ha : BA w a l) :
    Calls Tryd.prog 36 #[.slice a l.length ca, .int .u8 (m.toNat : Int)] w fun e w' => e = .returned (.bool true) ∧ w' = w := by
  have HA := hid0 ha
  have HM := hid0 hm
  clear ha hm
  go_enter Tryd.func36, Tryd.ntmps36
  go_wp2
  go_loopw [5] (fun i wr => ∃ k : Nat, k ≤ l.length ∧ i = .int .i64 (k : Int) ∧ wr = w) (fun i _ => l.length - (intOf i).toNat)
  case atStart => exact ⟨0, Nat.zero_le _, rfl, rfl⟩
  case round =>
    obtain ⟨k, hk, rfl, rfl⟩ := hrel
    by_cases hlt : k < l.length
    · obtain ⟨b1, o1, rfl, q1⟩ := HA.out.at' k hlt
      rw [HM.out _ (List.getElem_mem hlt)] at q1
      clear HA HM
      go_wp2
      go_roundw
      case rel => exact ⟨k + 1, hlt, by go_num, by trivial⟩
      case measure => simp [intOf]; omega
    · have hk2 : ¬ (k : Int) < (l.length : Int) := by omega
      clear HA HM
      go_wp2
      go_ret
      exact ⟨rfl, rfl⟩
theorem Only.ofGrown {w w' : World} {r : Option Nat} (h : w.grownBy w' r) : Only w w' (fun k => r = some k) := ⟨h.os, h.tape, h.output, h.size, fun k hk hn => h.block k hk (fun e => hn e.symm)⟩
theorem rep_set (k n : Nat) (m : UInt8) (l : List UInt8) (hl : n = l.length) (h : k < n) : (List.replicate k m ++ l.drop k).set k m = List.replicate (k + 1) m ++ l.drop (k + 1) := by
  subst hl
  rw [List.set_append_right _ _ (by simp), List.length_replicate, Nat.sub_self, List.drop_eq_getElem_cons h, List.set_cons_zero, List.replicate_succ']
  simp
/-- One byte more, at whatever place. -/
theorem own_more {w wr w1 : World} {v v0 v' : Value} {l m : List UInt8} {c : UInt8} {o : Obj} {n : Nat} (hn : n = l.length)
    (hown' : w1.ownsRow 0 5 1 v' (n + 1) (cellsOf l ++ [.int .u8 (c.toNat : Int)])) (hgrow : (wr.alloc o).grownBy w1 v.ownBlock) (hm : m = l ++ [c]) (ho : Only w wr (fun k => v0.ownBlock = some k)) (hv : ∀ k, v.ownBlock = some k → v0.ownBlock = some k ∨ w.heap.size ≤ k) :
    Own w1 0 v' m ∧ Only w w1 (fun k => v0.ownBlock = some k) := by
  subst hm hn
  refine ⟨?_, (ho.trans (Only.alloc wr o (fun _ => False)) (fun i hi => hi.elim)).trans (Only.ofGrown hgrow) (fun i hi => hv i hi)⟩
  have e1 : (l ++ [c]).length = l.length + 1 := by simp
  have e2 : cellsOf (l ++ [c]) = cellsOf l ++ [.int .u8 (c.toNat : Int)] := by simp [cellsOf]
  unfold Own
  rw [e1, e2]
  exact hown'
set_option maxRecDepth 10000 in
set_option maxHeartbeats 800000 in
theorem fill_any (l : List UInt8) (m : UInt8) (v : Value) (w : World) (hl : l.length ≤ 140737488351232) (ho : Own w 0 v l) :
    Calls Tryd.prog 35 #[v, .int .u8 (m.toNat : Int)] w fun e w' => ∃ v', e = .returned v' ∧ Own w' 0 v' (List.replicate (l.length + 64) m) ∧ Only w w' (fun k => v.ownBlock = some k) ∧ (∀ k, v'.ownBlock = some k → v.ownBlock = some k ∨ w.heap.size ≤ k) := by
  obtain ⟨i0, hi, hz0, hz1, hz2⟩ := info_parts infoU8
  have hform : ∃ a cap, v = .slice a l.length cap := by
    obtain ⟨a, cap, e, _⟩ := ho.bytesAt.ba
    exact ⟨a, cap, e⟩
  obtain ⟨a, cap, rfl⟩ := hform
  have HO := hid0 ho
  clear ho
  go_enter Tryd.func35, Tryd.ntmps35
  go_wp2
  go_loopw [5] (fun i wr => ∃ k : Nat, k ≤ l.length ∧ i = .int .i64 (k : Int) ∧ Own wr 0 (.slice a l.length cap) (List.replicate k m ++ l.drop k) ∧ Only w wr (fun k => (Value.slice a l.length cap).ownBlock = some k)) (fun i _ => l.length - (intOf i).toNat)
  case atStart => exact ⟨0, Nat.zero_le _, rfl, by simpa using HO.out, Only.refl _ _⟩
  case round =>
    obtain ⟨k, hk, rfl, hown, honly⟩ := hrel
    clear HO
    have HO := hid0 hown
    have HY := hid0 honly
    clear hown honly
    by_cases hlt : k < l.length
    · have hlen : (List.replicate k m ++ l.drop k).length = l.length := by simp; omega
      have hg : ∃ g, a = some ⟨g, 0, none⟩ := by
        rcases HO.out.2 with ⟨h, _⟩ | ⟨g, c, cur, h, _⟩
        · simp only [Value.slice.injEq] at h; omega
        · simp only [Value.slice.injEq] at h; exact ⟨g, h.1⟩
      obtain ⟨g, rfl⟩ := hg
      obtain ⟨x, q1⟩ : ∃ x, wr.cell? ⟨g, k, none⟩ = some x := ⟨_, by have := HO.out.cell k (by omega); rwa [Nat.zero_add] at this⟩
      have q2 := HO.out.free k
      have HS := hid0 (HO.out.stored k m)
      rw [rep_set k l.length m l rfl hlt] at HS
      clear HO hlen
      go_wp2
      go_roundw
      case rel => exact ⟨k + 1, hlt, by go_num, HS.out, HY.out.trans (Only.setCell _ g k _) (fun i hi => .inl (by simp [Value.ownBlock, hi]))⟩
      case measure => simp [intOf]; omega
    · have hk2 : ¬ (k : Int) < (l.length : Int) := by omega
      have hkl : k = l.length := by omega
      rw [hkl, List.drop_length, List.append_nil] at HO
      clear hlt
      go_wp2
      go_loopw [0, 6] (fun v i wr => ∃ j : Nat, j ≤ 64 ∧ i = .int .i64 (j : Int) ∧ Own wr 0 v (List.replicate (l.length + j) m) ∧ Only w wr (fun k => (Value.slice a l.length cap).ownBlock = some k) ∧ (∀ k, v.ownBlock = some k → (Value.slice a l.length cap).ownBlock = some k ∨ w.heap.size ≤ k)) (fun _ i _ => 64 - (intOf i).toNat)
      case atStart => exact ⟨0, Nat.zero_le _, rfl, HO.out, HY.out, fun k hk => .inl hk⟩
      case round =>
        obtain ⟨j, hj, rfl, hown, honly, hnew⟩ := hrel
        clear HO HY hk2
        by_cases hlt : j < 64
        · have hlen : (List.replicate (l.length + j) m).length = l.length + j := by simp
          have HN : Hid (List.replicate (l.length + (j + 1)) m = List.replicate (l.length + j) m ++ [m]) := by show _ = _; rw [← Nat.add_assoc, List.replicate_succ']
          have HW := hid0 hnew
          have HY := hid0 honly
          clear hnew honly
          go_wp2_with (at_builtin; refine wpList_append_own_at _ rfl _ _ 26 rfl 0 5 i0 (.int .u8 0) 1 1 Tryd.underlying26 hi hz0 hz1 hz2 rfl (by decide) _ _ _ rfl (hown.alloc _) ⟨wr.heap.size, 0, none⟩ 1 1 [.int .u8 (m.toNat : Int)] rfl rfl ?c1 ?c2 ?c3 ?c4 ?c5 ?_)
          case c1 => exact cell_one_new _ _ _
          case c2 => intro u hu; simp at hu; subst hu; rfl
          case c3 => rw [hlen]; unfold maxLen; omega
          case c4 => rw [hlen]; omega
          case c5 => simp
          · intro v' w1 hown' hgrow _ hat
            have R := own_more hlen.symm hown' hgrow HN.out HY.out HW.out
            have hnew1 : ∀ k, v'.ownBlock = some k → (Value.slice a l.length cap).ownBlock = some k ∨ w.heap.size ≤ k := by
              intro k hk
              rcases hat with h | h
              · exact HW.out k (h ▸ hk)
              · rw [h] at hk
                simp at hk
                have := HY.out.size
                right; omega
            have HR1 := hid0 R.1
            have HR2 := hid0 R.2
            have HR3 := hid0 hnew1
            clear hown' hgrow hown R hnew1 hat
            go_wp2
            go_roundw
            case rel => exact ⟨j + 1, by omega, by go_num, HR1.out, HR2.out, HR3.out⟩
            case measure => simp [intOf]; omega
        · have hj64 : j = 64 := by omega
          subst hj64
          have H1 := hid0 hown
          have H2 := hid0 honly
          have H3 := hid0 hnew
          clear hown honly hnew
          go_wp2
          go_ret
          exact ⟨_, rfl, H1.out, H2.out, H3.out⟩
end Go.Proofs.YtnclpcnpaodjjaaDoor
