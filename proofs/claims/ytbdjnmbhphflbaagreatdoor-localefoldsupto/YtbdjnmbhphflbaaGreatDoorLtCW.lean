/-
  The walk of locale's oneForm.
-/
import Derived.Test.YtbdjnmbhphflbaaGreatDoorLtBW
import Derived.Test.YtbdjnmbhphflbaaGreatDoorLtKW
import Derived.Test.YtbdjnmbhphflbaaGreatDoorLt8W
namespace Go.Proofs.YtbdjnmbhphflbaaGreatDoor
open Go.RowKit Go.Shelf Go.Lib
theorem ext169 : Builder.Extra Tryz.prog Tryz.lays169_ren where
  sizeBuilder := by kernel_rfl
  liesBuilder := by kernel_rfl
  t5 := Tryz.underlying5
  a5 := Tryz.isAgg5
  z5 := Tryz.sizeOf5
  v5 := Tryz.zeroValue5
  infoByte := by kernel_rfl
  cellsByte := by kernel_rfl
  sizeByte := by kernel_rfl
  neB5 := by decide
theorem bl_later {B b : Nat} {bs : List Value} {w w' : World} (h : Bl B b bs w) (hb : Below w.heap.size w w') : Bl B b bs w' := by
  have bld : ∀ p, Lib.BuilderAt 92 5 B b p bs w → Lib.BuilderAt 92 5 B b p bs w' := fun p ⟨h1, v, h2, h3, h4⟩ => ⟨h1, v, (hb.block b (Array.getElem?_eq_some_iff.1 h2).1).trans h2, World.ownsRow.kept h3 (row := none) ⟨hb.os, hb.tape, hb.output, hb.size, fun k hk _ => hb.block k hk⟩ (by cases hv : v.ownBlock <;> simp), h4⟩
  exact h.elim (fun x => .inl (bld _ x)) (fun x => .inr (bld _ x))
theorem formL_take (l : List (List UInt8)) (k : Nat) (h : k < l.length) : formL (l.take (k + 1)) = formL (l.take k) ++ [pfL (decide (k = 0)) l[k]] := by
  cases l with
  | nil => simp at h
  | cons p r =>
    cases k with
    | zero => simp [formL]
    | succ k =>
      have h' : k < r.length := by simpa using h
      rw [List.take_succ_cons, List.take_succ_cons]
      simp only [formL, List.cons_append]
      rw [List.take_add_one, List.getElem?_eq_getElem h', List.map_append]
      rfl
theorem formL_ne (l : List (List UInt8)) (k : Nat) (h : 0 < k) (hl : k < l.length) : formL (l.take k) ≠ [] := by
  cases l with
  | nil => simp at hl
  | cons p r =>
    obtain ⟨j, rfl⟩ : ∃ j, k = j + 1 := ⟨k - 1, by omega⟩
    simp [formL]
theorem pfL_len (first : Bool) (p : List UInt8) : (pfL first p).length ≤ 4 * p.length := by
  have h := smL_len p.length p (Nat.le_refl _)
  unfold pfL
  split
  · exact h
  · split
    · rw [List.length_map]; omega
    · split
      · rw [List.length_append, List.length_map, List.length_map, List.length_take, List.length_drop]; omega
      · exact h
theorem joinU_bound (m : Nat) : ∀ (xs : List (List UInt8)), (∀ x ∈ xs, x.length ≤ m) → (joinU xs).length ≤ (m + 1) * xs.length
  | [], _ => by simp [joinU, Lib.join, List.intercalate]
  | [x], h => by rw [joinU_one]; have := h x (by simp); simp; omega
  | x :: x2 :: r, h => by
    have ih := joinU_bound m (x2 :: r) (fun y hy => h y (by simp [hy]))
    have h1 := h x (by simp)
    rw [joinU_cons, List.length_append, List.length_cons]
    simp only [List.length_cons] at ih ⊢
    have e : (m + 1) * (r.length + 1 + 1) = (m + 1) * (r.length + 1) + (m + 1) := by rw [Nat.mul_add (m + 1) (r.length + 1) 1, Nat.mul_one]
    omega
theorem formL_len (l : List (List UInt8)) : (formL l).length = l.length := by cases l <;> simp [formL]
theorem formL_le {l : List (List UInt8)} {m : Nat} (h : ∀ p ∈ l, p.length ≤ m) : ∀ p ∈ formL l, p.length ≤ 4 * m := by
  cases l with
  | nil => simp [formL]
  | cons q r =>
    intro p hp
    rcases List.mem_cons.1 hp with rfl | hp
    · have h1 := pfL_len true q; have h2 := h q (by simp); omega
    · obtain ⟨c, hc, rfl⟩ := List.mem_map.1 hp
      have h1 := pfL_len false c; have h2 := h c (by simp [hc]); omega
theorem bytes_app (a b : List UInt8) : Lib.byteCells (a ++ b) = Lib.byteCells a ++ Lib.byteCells b := by simp [Lib.byteCells]
theorem strCells_strOf (l : List UInt8) : Lib.strCells (strOf l) = Lib.byteCells l := by simp [Lib.strCells, Lib.byteCells, strOf_data]
set_option maxRecDepth 10000 in
set_option maxHeartbeats 3200000 in
theorem oneFormL_any (s : ByteArray) (hs : s.size ≤ 64) (w : World) (hm : Mx w) (hT : Tb w) : Calls Tryz.prog 34 #[.string s] w fun e w' => e = .returned (.string (strOf (joinU (formL (pieces s.data.toList))))) ∧ Below w.heap.size w w' := by
  have HLE : Hid (s.data.toList.length ≤ 64) := hid0 (by simpa using hs)
  have HM := hid0 hm
  have HT := hid0 hT
  obtain ⟨R, hR⟩ : ∃ R, R = strOf (s.data.toList.map rep) := ⟨_, rfl⟩
  have HRE : Hid (Calls Tryz.prog 56 #[.string s, .string ⟨#[45]⟩, .string ⟨#[95]⟩] w fun e w' => e = .returned (.string R) ∧ Below w.heap.size w w') := hid0 (by rw [hR]; exact repl_any s (by omega) w hm)
  obtain ⟨n, hn⟩ : ∃ n, n = (pieces s.data.toList).length := ⟨_, rfl⟩
  have hn65 : n ≤ 65 := by have h1 := pieces_count s.data.toList; have h2 := HLE.out; omega
  have HSL : Hid (∀ W, Mx W → Calls Tryz.prog 55 #[.string R, .string ⟨#[95]⟩] W fun e w' => e = .returned (.slice (some ⟨W.heap.size, 0, none⟩) n n) ∧ w' = W.alloc (.cells (cellsS ((pieces s.data.toList).map strOf)).toArray 9)) := hid0 (fun W hW => by rw [hR, hn]; exact split_any s.data.toList (by have := HLE.out; omega) W hW)
  have HSW : Hid (∀ W w', w' = W.alloc (.cells (cellsS ((pieces s.data.toList).map strOf)).toArray 9) → Below W.heap.size W w' ∧ SA w' (some ⟨W.heap.size, 0, none⟩) ((pieces s.data.toList).map strOf)) := hid0 (fun W w' hw => by
    rw [hw]
    refine ⟨(Below.refl _ _).alloc (Nat.le_refl _) _, ⟨fun k hk => ⟨W.heap.size, 0, rfl, by simp, ?_⟩⟩⟩
    rw [cell_of_row _ _ _ _ _ _ (heap_alloc_new W _)]
    simp only [List.length_map] at hk
    simp [cellsS, hk])
  have Hn := hid0 hn
  have HPL : Hid (∀ p ∈ pieces s.data.toList, p.length ≤ 64) := hid0 (fun p hp => by have h1 := pieces_len s.data.toList p hp; have h2 := HLE.out; omega)
  obtain ⟨ps, hps⟩ : ∃ ps, ps = pieces s.data.toList := ⟨_, rfl⟩
  rw [← hps] at HSL HSW Hn HPL ⊢
  obtain ⟨Y, hY⟩ : ∃ Y, Y = strOf (joinU (formL ps)) := ⟨_, rfl⟩
  rw [← hY]
  have HY := hid0 hY
  clear hm hT hR hn hps hY
  have M0 : Hid True := trivial
  go_enter Tryz.func34, Tryz.ntmps34
  go_wp2_with (first
    | (go_at_call 56; clear M0; refine HRE.out.mono ?_; rintro e w1 ⟨rfl, hb1⟩; have HB1 := hid0 hb1; have HSP := hid0 (HSL.out w1 (HM.out.below hb1)); have M1 : Hid True := trivial; clear hb1)
    | (go_at_call 55; clear M1; refine HSP.out.mono ?_; rintro e w2 ⟨rfl, hw2⟩; obtain ⟨hb2, hsa2⟩ := HSW.out w1 w2 hw2; have HB2 := hid0 (Below.later HB1.out hb2); have HSA2 := hid0 hsa2; clear hb2 hsa2 hw2))
  have HFB : Hid (Bl w2.heap.size w2.heap.size (Lib.byteCells (joinU (formL (ps.take 0)))) (w2.alloc (.cells #[.pointer none, .slice none 0 0] 92))) := hid0 (by
    have h := Lib.fresh_isBuilder 92 5 w2
    simpa [formL, joinU, Lib.join, List.intercalate, Lib.byteCells] using h)
  have HFL : Hid (Below w2.heap.size w2 (w2.alloc (.cells #[.pointer none, .slice none 0 0] 92))) := hid0 ((Below.refl _ _).alloc (Nat.le_refl _) _)
  go_loopw [12] (fun i wr => ∃ k : Nat, k ≤ n ∧ i = .int .i64 (k : Int) ∧ Hid (Bl w2.heap.size w2.heap.size (Lib.byteCells (joinU (formL (ps.take k)))) wr) ∧ Hid (Below w2.heap.size w2 wr)) (fun i _ => n - (intOf i).toNat)
  case atStart => exact ⟨0, Nat.zero_le _, rfl, HFB, HFL⟩
  case round =>
    clear HFB HFL
    obtain ⟨k, hk, rfl, HBl, HBr⟩ := hrel
    have hbs := HBr.out.size
    have HLN : Hid ((joinU (formL (ps.take k))).length ≤ 257 * 65) := hid0 (by
      have h1 := joinU_bound 256 (formL (ps.take k)) (fun p hp => by have := formL_le (m := 64) (fun q hq => HPL.out q (List.mem_of_mem_take hq)) p hp; omega)
      rw [formL_len, List.length_take] at h1
      have : 257 * min k ps.length ≤ 257 * 65 := Nat.mul_le_mul_left _ (by omega)
      omega)
    by_cases hlt : k < n
    · have hkI : (k : Int) < (n : Int) := by omega
      have hkI0 : (0 : Int) ≤ (k : Int) := by omega
      have hkP : k < ps.length := by rw [← Hn.out]; exact hlt
      obtain ⟨p, hp⟩ : ∃ p, ps[k] = p := ⟨_, rfl⟩
      have hpl : p.length ≤ 64 := by rw [← hp]; exact HPL.out _ (List.getElem_mem hkP)
      obtain ⟨b1, o1, he, hlt1, hc⟩ := (HSA2.out.below HBr.out).at' k (by simpa using hkP)
      cases he
      rw [List.getElem_map, hp, Nat.zero_add] at hc
      have HNX : Hid (formL (ps.take (k + 1)) = formL (ps.take k) ++ [pfL (decide (k = 0)) p]) := hid0 (by rw [formL_take ps k hkP, hp])
      have hpf := pfL_len (decide (k = 0)) p
      have HPF : Hid (∀ W, Below w2.heap.size w2 W → Calls Tryz.prog 59 #[.string (strOf p), .bool (decide (k = 0))] W fun e w' => e = .returned (.string (strOf (pfL (decide (k = 0)) p))) ∧ Below W.heap.size W w') := hid0 (fun W hW => partFormL_any p (decide (k = 0)) hpl W (HT.out.below (Below.later HB2.out hW)))
      have HXZ : Hid ((strOf (pfL (decide (k = 0)) p)).size ≤ 256) := hid0 (by rw [strOf_size]; omega)
      have HXC := hid0 (strCells_strOf (pfL (decide (k = 0)) p))
      have HLB : Hid ((Lib.byteCells (joinU (formL (ps.take k)))).length ≤ 257 * 65) := hid0 (by rw [Lib.byteCells_length]; exact HLN.out)
      by_cases h0 : k = 0
      · subst h0
        have hd : decide (0 = 0) = true := rfl
        have HN2 : Hid (Lib.byteCells (joinU (formL (ps.take 0))) ++ Lib.strCells (strOf (pfL (decide (0 = 0)) p)) = Lib.byteCells (joinU (formL (ps.take (0 + 1))))) := hid0 (by
          rw [HXC.out, HNX.out]
          simp [formL, joinU, Lib.join, List.intercalate, Lib.byteCells])
        rw [hd] at HPF HXZ HN2
        clear hd
        obtain ⟨X, hX⟩ : ∃ X, X = strOf (pfL true p) := ⟨_, rfl⟩
        obtain ⟨bs, hbs'⟩ : ∃ bs, bs = Lib.byteCells (joinU (formL (ps.take 0))) := ⟨_, rfl⟩
        rw [← hX] at HPF HXZ HN2
        rw [← hbs'] at HBl HN2 HLB
        generalize strOf p = S at *
        clear HXC HNX HLN hp hX hbs'
        go_wp2_with (first
          | (go_at_call 59; refine (HPF.out _ HBr.out).mono ?_; rintro e w5 ⟨rfl, hb5⟩; have HB5 := hid0 (Below.later HBr.out hb5); have HBl5 := hid0 (bl_later HBl.out hb5); clear hb5)
          | (go_at_call 58; refine (writeString_any _ _ _ X _ HBl5.out (by have h1 := HLB.out; have h2 := HXZ.out; omega) HB5.out.size).mono ?_; rintro e w6 ⟨rfl, h1, h2, h3⟩; have HB6 := hid0 (HB5.out.trans h2); have HBl6 : Hid (Bl w2.heap.size w2.heap.size (Lib.byteCells (joinU (formL (ps.take (0 + 1))))) w6) := hid0 (.inr (by rw [← HN2.out]; exact h1)); clear h1 h2 h3))
        go_roundw
        case rel => exact ⟨1, by omega, by first | rfl | go_num, HBl6, HB6⟩
        case measure => simp [intOf]; omega
      · have hg : (0 : Int) < (k : Int) := by omega
        have hk0 : ((k : Int) == 0) = false := by simp; omega
        have hd : decide (k = 0) = false := by simpa using h0
        have HN2 : Hid (Lib.byteCells (joinU (formL (ps.take k))) ++ [.int .u8 95] ++ Lib.strCells (strOf (pfL (decide (k = 0)) p)) = Lib.byteCells (joinU (formL (ps.take (k + 1))))) := hid0 (by
          rw [HXC.out, HNX.out, joinU_snoc _ _ (formL_ne ps k (by omega) hkP), bytes_app]
          simp [Lib.byteCells])
        rw [hd] at HPF HXZ HN2
        clear hd
        obtain ⟨X, hX⟩ : ∃ X, X = strOf (pfL false p) := ⟨_, rfl⟩
        obtain ⟨bs, hbs'⟩ : ∃ bs, bs = Lib.byteCells (joinU (formL (ps.take k))) := ⟨_, rfl⟩
        rw [← hX] at HPF HXZ HN2
        rw [← hbs'] at HBl HN2 HLB
        generalize strOf p = S at *
        clear HXC HNX HLN hp hX hbs'
        go_wp2_with (first
          | (go_at_call 57; refine (writeByte_any _ _ _ 95 _ HBl.out (by have h1 := HLB.out; omega) HBr.out.size).mono ?_; rintro e w4 ⟨rfl, h1, h2, h3⟩; have HB4 := hid0 (HBr.out.trans h2); have HBl4 : Hid (Bl w2.heap.size w2.heap.size (bs ++ [.int .u8 95]) w4) := hid0 (.inr h1); clear h1 h2 h3)
          | (go_at_call 59; refine (HPF.out _ HB4.out).mono ?_; rintro e w5 ⟨rfl, hb5⟩; have HB5 := hid0 (Below.later HB4.out hb5); have HBl5 := hid0 (bl_later HBl4.out hb5); clear hb5)
          | (go_at_call 58; refine (writeString_any _ _ _ X _ HBl5.out (by have h1 := HLB.out; have h2 := HXZ.out; rw [List.length_append]; simp; omega) HB5.out.size).mono ?_; rintro e w6 ⟨rfl, h1, h2, h3⟩; have HB6 := hid0 (HB5.out.trans h2); have HBl6 : Hid (Bl w2.heap.size w2.heap.size (Lib.byteCells (joinU (formL (ps.take (k + 1))))) w6) := hid0 (.inr (by rw [← HN2.out]; exact h1)); clear h1 h2 h3))
        go_roundw
        case rel => exact ⟨k + 1, by omega, by go_num, HBl6, HB6⟩
        case measure => simp [intOf]; omega
    · have hkI : ¬ (k : Int) < (n : Int) := by omega
      have HS := hid0 (Any.Builder_String_any_k Tryz.lays169 ext169 w2.heap.size w2.heap.size (joinU (formL (ps.take k))) wr (Lib.IsBuilderF.of HBl.out) HBr.out.size)
      have HE : Hid (joinU (formL (ps.take k)) = joinU (formL ps)) := hid0 (by rw [List.take_of_length_le (by have := Hn.out; omega)])
      rw [HE.out] at HS
      have HS2 : Hid (Calls Tryz.prog 60 #[.pointer (some ⟨w2.heap.size, 0, none⟩)] wr fun e w' => e = .returned (.string Y) ∧ Below w2.heap.size wr w') := hid0 (by rw [HY.out]; exact HS.out.mono (fun e w' h => ⟨h.1, h.2.2.1⟩))
      clear HS HBl
      go_wp2_with (go_at_call 60; refine HS2.out.mono ?_; rintro e w7 ⟨rfl, hb7⟩)
      go_ret
      exact ⟨rfl, Below.later HB2.out (HBr.out.trans hb7)⟩
end Go.Proofs.YtbdjnmbhphflbaaGreatDoor
