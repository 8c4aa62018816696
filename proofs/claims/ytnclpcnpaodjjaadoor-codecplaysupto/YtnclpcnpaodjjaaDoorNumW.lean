/-
  The walks of codec.NewWriter, (*codec.Writer).Num, (*codec.Writer).Bytes.
-/
import Derived.Test.YtnclpcnpaodjjaaDoorBufW
import Derived.Test.YtnclpcnpaodjjaaDoorForm
namespace Go.Proofs.YtnclpcnpaodjjaaDoor
open Go.RowKit
set_option maxRecDepth 10000 in
theorem newWriter_any (w : World) : Calls Tryd.prog 19 #[] w fun e w' => e = .returned (.pointer (some ⟨w.heap.size, 0, none⟩)) ∧
    w' = w.alloc (.cells #[.slice none 0 0, .int .i64 0, .int .i8 0] 73) := by
  go_enter Tryd.func19, Tryd.ntmps19
  go_wp2
  go_ret
  exact ⟨rfl, rfl⟩
theorem wr_new (w : World) : Wr (w.alloc (.cells #[.slice none 0 0, .int .i64 0, .int .i8 0] 73)) w.heap.size (.slice none 0 0) [] :=
  ⟨heap_alloc_new w _, World.ownsRow_nil _ _ _ _, fun a n c e => by simp at e⟩
set_option maxRecDepth 10000 in
set_option maxHeartbeats 400000 in
theorem wrNum_any (N : Nat) (hN : N < 9223372036854775808) (B : Nat) (v : Value) (l : List UInt8) (w : World) (h : Wr w B v l) (hl : l.length + 10 ≤ 64) :
    Calls Tryd.prog 23 #[.pointer (some ⟨B, 0, none⟩), .int .i64 (N : Int)] w fun e w' => e = .returned .nilIface ∧ ∃ v', Wr w' B v' (l ++ form 9 N) ∧ Only w w' (Wr.S B v) ∧ (∀ k, v'.ownBlock = some k → v.ownBlock = some k ∨ w.heap.size ≤ k) := by
  have hneg : ¬ (N : Int) < 0 := by omega
  have HW : Hid (Wr w B v l) := h
  clear h
  go_enter Tryd.func23, Tryd.ntmps23
  go_wp2
  go_loopw [1] (fun i wr => ∃ (m f : Nat) (p : List UInt8) (u : Value), i = .int .i64 (m : Int) ∧ m < 9223372036854775808 ∧ m < 128 ^ (f + 1) ∧ p.length + f ≤ 9 ∧ p ++ form f m = form 9 N ∧
      Wr wr B u (l ++ p) ∧ Only w wr (Wr.S B v) ∧ (∀ k, u.ownBlock = some k → v.ownBlock = some k ∨ w.heap.size ≤ k)) (fun i _ => (intOf i).toNat)
  case atStart => exact ⟨N, 9, [], v, rfl, hN, by omega, by simp, rfl, by simpa using HW.out, Only.refl _ _, fun k hk => .inl hk⟩
  case round =>
    obtain ⟨m, f, p, u, rfl, hm, hf, hp, hform, hwr, honly, hnew⟩ := hrel
    have HF : Hid (p ++ form f m = form 9 N) := hform
    have HR : Hid (Wr wr B u (l ++ p)) := hwr
    have HO : Hid (Only w wr (Wr.S B v)) := honly
    have HK : Hid (∀ k, u.ownBlock = some k → v.ownBlock = some k ∨ w.heap.size ≤ k) := hnew
    by_cases hbig : m < 128
    · have hWB := writeByte_any (UInt8.ofNat m) B u (l ++ p) wr hwr (by simp; omega)
      rw [u8_toNat _ (by omega)] at hWB
      clear hform hwr honly hnew hf
      go_wp2_with (go_at_call 32; refine hWB.mono ?_; rintro e w1 ⟨rfl, u1, hwr1, honly1, hnew1⟩)
      go_ret
      refine ⟨rfl, u1, ?_, HO.out.trans honly1 (fun i hi => ?_), fun k hk => ?_⟩
      · rw [← HF.out, form_small f m hbig, ← List.append_assoc]; exact hwr1
      · rcases hi with hi | hi
        · exact .inl (.inl hi)
        · exact (HK.out i hi).elim (fun h => .inl (.inr h)) .inr
      · rcases hnew1 k hk with h | h
        · exact HK.out k h
        · exact .inr (Nat.le_trans HO.out.size h)
    · have hWB := writeByte_any (UInt8.ofNat (m % 128 + 128)) B u (l ++ p) wr hwr (by simp; omega)
      have ec : ((UInt8.ofNat (m % 128 + 128)).toNat : Int) = (m : Int) % 128 + 128 := by rw [u8_toNat _ (by omega)]; omega
      rw [ec] at hWB
      have e7 := low7 m hm
      have e8 := high8 m
      obtain ⟨f, rfl⟩ : ∃ f', f = f' + 1 := by
        cases f with
        | zero => simp at hf; omega
        | succ f => exact ⟨f, rfl⟩
      have HD : Hid (m / 128 < 128 ^ (f + 1)) := by
        show _ < _
        rw [Nat.div_lt_iff_lt_mul (by omega)]
        rw [Nat.pow_succ] at hf
        exact hf
      clear hform hwr honly hnew ec hf
      go_wp2_with (go_at_call 32; refine hWB.mono ?_; rintro e w1 ⟨rfl, u1, hwr1, honly1, hnew1⟩)
      go_roundw
      case rel =>
        refine ⟨m / 128, f, p ++ [UInt8.ofNat (m % 128 + 128)], u1, by go_num, by omega, HD.out, by simp; omega, ?_, ?_, HO.out.trans honly1 (fun i hi => ?_), fun k hk => ?_⟩
        · rw [← HF.out, form_big f m hbig]; simp
        · rw [← List.append_assoc]; exact hwr1
        · rcases hi with hi | hi
          · exact .inl (.inl hi)
          · exact (HK.out i hi).elim (fun h => .inl (.inr h)) .inr
        · rcases hnew1 k hk with h | h
          · exact HK.out k h
          · exact .inr (Nat.le_trans HO.out.size h)
      case measure => simp [intOf]; omega
set_option maxRecDepth 10000 in
theorem wrNum_neg (N : Int) (hN : N < 0) (p : Value) (x : Value) (w : World) (hx : w.cell? ⟨6, 0, none⟩ = some x) :
    Calls Tryd.prog 23 #[p, .int .i64 N] w fun e w' => e = .returned x ∧ w' = w := by
  go_enter Tryd.func23, Tryd.ntmps23
  go_wp2
  go_ret
  exact ⟨rfl, rfl⟩
set_option maxRecDepth 10000 in
theorem clone_none (w : World) : Calls Tryd.prog 27 #[.slice none 0 0] w fun e w' => e = .returned (.slice none 0 0) ∧ w' = w := by
  have q25 : ∀ (w : World) (a : Option Addr) (n c : Nat), (binOp .eql 26 (.slice a n c) (.slice none 0 0)).run Tryd.prog w = .ok (.bool a.isNone) w := fun w a n c => Lib.run_eql_slice_nil w _ _ a n c 0 0 Tryd.underlying26
  go_enter Tryd.func27, Tryd.ntmps27
  go_wp2
  go_ret
  exact ⟨rfl, rfl⟩
set_option maxRecDepth 10000 in
set_option maxHeartbeats 400000 in
theorem clone_some (l : List UInt8) (b off cap : Nat) (w : World) (hl : l.length ≤ 140737488355328) (hblk : b < w.heap.size)
    (hc : ∀ k (h : k < l.length), w.cell? ⟨b, off + k, none⟩ = some (.int .u8 (l[k].toNat : Int))) :
    Calls Tryd.prog 27 #[.slice (some ⟨b, off, none⟩) l.length cap] w fun e w' => ∃ g c, e = .returned (.slice (some ⟨g, 0, none⟩) l.length c) ∧ Own w' w.heap.size (.slice (some ⟨g, 0, none⟩) l.length c) l ∧ Below w.heap.size w w' := by
  have q25 : ∀ (w : World) (a : Option Addr) (n c : Nat), (binOp .eql 26 (.slice a n c) (.slice none 0 0)).run Tryd.prog w = .ok (.bool a.isNone) w := fun w a n c => Lib.run_eql_slice_nil w _ _ a n c 0 0 Tryd.underlying26
  obtain ⟨i0, hi, hz0, hz1, hz2⟩ := info_parts infoU8
  go_enter Tryd.func27, Tryd.ntmps27
  go_wp2_with (at_builtin; refine wpList_append_own _ rfl _ _ 26 rfl w.heap.size 5 i0 (.int .u8 0) 1 1 Tryd.underlying26 hi hz0 hz1 hz2 rfl (by decide) _ _ _ rfl (World.ownsRow_made w #[] 0 (Nat.le_refl _) (by unfold maxLen; omega) rfl) ⟨b, off, none⟩ l.length cap (cellsOf l) rfl (by simp [cellsOf]) ?c1 ?c2 ?c3 ?c4 ?c5 ?_)
  case c1 =>
    intro j u hj
    have hjl : j < l.length := by
      have := (List.getElem?_eq_some_iff.1 hj).1
      simpa [cellsOf] using this
    rw [show ((⟨b, off, none⟩ : Addr).add j) = ⟨b, off + j, none⟩ from by unfold Addr.add; split <;> simp_all]
    rw [World.cell?_of_block (a := ⟨b, off + j, none⟩) (Below.heap_alloc w _ b hblk), hc j hjl]
    simp [cellsOf, hjl] at hj
    rw [hj]
  case c2 => intro u hu; simp [cellsOf] at hu; obtain ⟨c, _, rfl⟩ := hu; rfl
  case c3 => unfold maxLen; omega
  case c4 => omega
  case c5 => simp
  · intro v' w1 hown hgrow hnil
    have hbel : Below w.heap.size w w1 := (alloc_below w _).grown hgrow (by simp) (fun k hk => by simp [Value.ownBlock] at hk; omega)
    have hex : ∃ g c, v' = .slice (some ⟨g, 0, none⟩) l.length c := by
      rcases hown.2 with ⟨h, _⟩ | ⟨g, c, cur, h, _⟩
      · exact (hnil h).elim
      · exact ⟨g, c, h⟩
    obtain ⟨g, c, hv⟩ := hex
    rw [hv] at hown ⊢
    clear hnil hv
    have HO : Hid (Own w1 w.heap.size (.slice (some ⟨g, 0, none⟩) l.length c) l) := hown
    clear hown hgrow
    go_wp2
    go_ret
    exact ⟨g, c, rfl, HO.out, hbel⟩
theorem clone_any (l : List UInt8) (v : Value) (w : World) (hs : l.length ≤ 140737488355328) (hv : BytesAt w v l) (hm : InMem w v) :
    Calls Tryd.prog 27 #[v] w fun e w' => ∃ v', e = .returned v' ∧ Own w' w.heap.size v' l ∧ Below w.heap.size w w' := by
  rcases hv with ⟨rfl, rfl⟩ | ⟨b, off, cap, rfl, hc⟩
  · exact (clone_none w).mono fun e w' ⟨he, hw⟩ => ⟨_, he, World.ownsRow_nil _ _ _ _, by rw [hw]; exact Below.refl _ _⟩
  · exact (clone_some l b off cap w hs (hm _ _ _ _ rfl) hc).mono fun e w' ⟨g, c, he, ho, hb⟩ => ⟨_, he, ho, hb⟩
set_option maxRecDepth 10000 in
theorem bufBytes_any (B : Nat) (v : Value) (l : List UInt8) (w : World) (h : Wr w B v l) :
    Calls Tryd.prog 39 #[.pointer (some ⟨B, 0, none⟩)] w fun e w' => e = .returned v ∧ ∃ k, w' = w.drewN k := by
  obtain ⟨h0, h1, h2, hf⟩ := h.blk.cells
  rcases h.own.2 with ⟨rfl, hn⟩ | ⟨g, cap, cur, rfl, _, hh, hnc, hcm, _⟩
  · clear hf h2 h hn
    go_enter Tryd.func39, Tryd.ntmps39
    go_wp2
    go_quiet ((fail))
    go_wp2
    go_ret
    exact ⟨rfl, _, rfl⟩
  · clear hf h2 h hh
    unfold maxLen at hcm
    go_enter Tryd.func39, Tryd.ntmps39
    go_wp2
    go_quiet ((fail))
    go_wp2
    go_ret
    exact ⟨rfl, _, rfl⟩
theorem Wr.drewN {w : World} {B : Nat} {v : Value} {l : List UInt8} (h : Wr w B v l) (k : Nat) : Wr (w.drewN k) B v l := ⟨h.blk, h.own, h.room⟩
theorem Own.inMem {w : World} {base : Nat} {v : Value} {l : List UInt8} (h : Own w base v l) : InMem w v := by
  intro b off c n e
  subst e
  exact h.block_lt rfl
set_option maxRecDepth 10000 in
theorem wrBytes_any (B : Nat) (v : Value) (l : List UInt8) (w : World) (h : Wr w B v l) (hl : l.length ≤ 140737488355328) :
    Calls Tryd.prog 33 #[.pointer (some ⟨B, 0, none⟩)] w fun e w' => ∃ v', e = .returned v' ∧ Own w' w.heap.size v' l ∧ Below w.heap.size w w' := by
  have hb := bufBytes_any B v l w h
  have hC : ∀ k, Calls Tryd.prog 27 #[v] (w.drewN k) fun e w' => ∃ v', e = .returned v' ∧ Own w' w.heap.size v' l ∧ Below w.heap.size w w' := fun k =>
    (clone_any l v (w.drewN k) hl (h.drewN k).own.bytesAt (h.drewN k).own.inMem).mono fun e w' ⟨v', he, ho, hb⟩ => ⟨v', he, ho, (below_drewN (Below.refl _ w) k).trans hb⟩
  clear h
  go_enter Tryd.func33, Tryd.ntmps33
  go_wp2_with (first
    | (go_at_call 39; refine hb.mono ?_; rintro e w1 ⟨rfl, k1, rfl⟩)
    | (go_at_call 27; refine (hC _).mono ?_; rintro e w2 ⟨v2, rfl, ho2, hb2⟩))
  go_ret
  exact ⟨_, rfl, ho2, hb2⟩
end Go.Proofs.YtnclpcnpaodjjaaDoor
