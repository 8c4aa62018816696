/-
  LtCW, LtDW, Lc5W, Lc6W, Lc7W, Lc8W, LdM, LdEW, LdOW, LrM, LrTW, LrEW, ShelfT, LrBW.
-/
import Derived.Test.YtlnejmmhhmmomaaGreatDoorMsc
import Derived.Test.YtlnejmmhhmmomaaGreatDoorMsb
import Derived.Lib.SlicesS
import Derived.Lib.AppendZeros
import Derived.Deep.DeepAppendRoom
import Derived.Deep.AppendLies
import Derived.Laws.StructEq
import Derived.Maps.OwnSet
import Derived.Maps.RangeWalk
import Derived.Sort.KeysCollected
import Derived.Sort.OwnSorted
import Derived.Shelf.Sort.Plain
import Derived.Test.YtlnejmmhhmmomaaGreatDoorProg
import Derived.RangeFuncNested
import Derived.RangeFuncBound
import Derived.RangeFuncCalls
import Derived.RangeFuncLeaves
import Derived.RangeFuncBox
namespace Go.Proofs.YtlnejmmhhmmomaaGreatDoor
open Go.RowKit Go.Shelf Go.Lib
theorem ext169 : Builder.Extra Tryz.prog Tryz.lays169_ren where
  sizeBuilder := by kernel_rfl
  liesBuilder := by kernel_rfl
  t5 := Tryz.underlying5
  a5 := Tryz.isAgg5
  z5 := Tryz.sizeOf5
  v5 := Tryz.zeroValue5
  infoByte := by kernel_rfl
  cellsByte := by kernel_rfl
  sizeByte := by kernel_rfl
  neB5 := by decide
theorem bl_later {B b : Nat} {bs : List Value} {w w' : World} (h : Bl B b bs w) (hb : Below w.heap.size w w') : Bl B b bs w' := by
  have bld : ∀ p, Lib.BuilderAt 97 5 B b p bs w → Lib.BuilderAt 97 5 B b p bs w' := fun p ⟨h1, v, h2, h3, h4⟩ => ⟨h1, v, (hb.block b (Array.getElem?_eq_some_iff.1 h2).1).trans h2, World.ownsRow.kept h3 (row := none) ⟨hb.os, hb.tape, hb.output, hb.size, fun k hk _ => hb.block k hk⟩ (by cases hv : v.ownBlock <;> simp), h4⟩
  exact h.elim (fun x => .inl (bld _ x)) (fun x => .inr (bld _ x))
theorem formL_take (l : List (List UInt8)) (k : Nat) (h : k < l.length) : formL (l.take (k + 1)) = formL (l.take k) ++ [pfL (decide (k = 0)) l[k]] := by
  cases l with
  | nil => simp at h
  | cons p r =>
    cases k with
    | zero => simp [formL]
    | succ k =>
      have h' : k < r.length := by simpa using h
      rw [List.take_succ_cons, List.take_succ_cons]
      simp only [formL, List.cons_append]
      rw [List.take_add_one, List.getElem?_eq_getElem h', List.map_append]
      rfl
theorem formL_ne (l : List (List UInt8)) (k : Nat) (h : 0 < k) (hl : k < l.length) : formL (l.take k) ≠ [] := by
  cases l with
  | nil => simp at hl
  | cons p r =>
    obtain ⟨j, rfl⟩ : ∃ j, k = j + 1 := ⟨k - 1, by omega⟩
    simp [formL]
theorem pfL_len (first : Bool) (p : List UInt8) : (pfL first p).length ≤ 4 * p.length := by
  have h := smL_len p.length p (Nat.le_refl _)
  unfold pfL
  split
  · exact h
  · split
    · rw [List.length_map]; omega
    · split
      · rw [List.length_append, List.length_map, List.length_map, List.length_take, List.length_drop]; omega
      · exact h
theorem joinU_bound (m : Nat) : ∀ (xs : List (List UInt8)), (∀ x ∈ xs, x.length ≤ m) → (joinU xs).length ≤ (m + 1) * xs.length
  | [], _ => by simp [joinU, Lib.join, List.intercalate]
  | [x], h => by rw [joinU_one]; have := h x (by simp); simp; omega
  | x :: x2 :: r, h => by
    have ih := joinU_bound m (x2 :: r) (fun y hy => h y (by simp [hy]))
    have h1 := h x (by simp)
    rw [joinU_cons, List.length_append, List.length_cons]
    simp only [List.length_cons] at ih ⊢
    have e : (m + 1) * (r.length + 1 + 1) = (m + 1) * (r.length + 1) + (m + 1) := by rw [Nat.mul_add (m + 1) (r.length + 1) 1, Nat.mul_one]
    omega
theorem formL_len (l : List (List UInt8)) : (formL l).length = l.length := by cases l <;> simp [formL]
theorem formL_le {l : List (List UInt8)} {m : Nat} (h : ∀ p ∈ l, p.length ≤ m) : ∀ p ∈ formL l, p.length ≤ 4 * m := by
  cases l with
  | nil => simp [formL]
  | cons q r =>
    intro p hp
    rcases List.mem_cons.1 hp with rfl | hp
    · have h1 := pfL_len true q; have h2 := h q (by simp); omega
    · obtain ⟨c, hc, rfl⟩ := List.mem_map.1 hp
      have h1 := pfL_len false c; have h2 := h c (by simp [hc]); omega
theorem bytes_app (a b : List UInt8) : Lib.byteCells (a ++ b) = Lib.byteCells a ++ Lib.byteCells b := by simp [Lib.byteCells]
theorem strCells_strOf (l : List UInt8) : Lib.strCells (strOf l) = Lib.byteCells l := by simp [Lib.strCells, Lib.byteCells, strOf_data]
set_option maxRecDepth 10000 in
set_option maxHeartbeats 3200000 in
theorem oneFormL_any (s : ByteArray) (hs : s.size ≤ 64) (w : World) (hm : Mx w) (hT : Tb w) : Calls Tryz.prog 43 #[.string s] w fun e w' => e = .returned (.string (strOf (joinU (formL (pieces s.data.toList))))) ∧ Below w.heap.size w w' := by
  have HLE : Hid (s.data.toList.length ≤ 64) := hid0 (by simpa using hs)
  have HM := hid0 hm
  have HT := hid0 hT
  obtain ⟨R, hR⟩ : ∃ R, R = strOf (s.data.toList.map rep) := ⟨_, rfl⟩
  have HRE : Hid (Calls Tryz.prog 59 #[.string s, .string ⟨#[45]⟩, .string ⟨#[95]⟩] w fun e w' => e = .returned (.string R) ∧ Below w.heap.size w w') := hid0 (by rw [hR]; exact repl_any s (by omega) w hm)
  obtain ⟨n, hn⟩ : ∃ n, n = (pieces s.data.toList).length := ⟨_, rfl⟩
  have hn65 : n ≤ 65 := by have h1 := pieces_count s.data.toList; have h2 := HLE.out; omega
  have HSL : Hid (∀ W, Mx W → Calls Tryz.prog 58 #[.string R, .string ⟨#[95]⟩] W fun e w' => e = .returned (.slice (some ⟨W.heap.size, 0, none⟩) n n) ∧ w' = W.alloc (.cells (cellsS ((pieces s.data.toList).map strOf)).toArray 9)) := hid0 (fun W hW => by rw [hR, hn]; exact split_any s.data.toList (by have := HLE.out; omega) W hW)
  have HSW : Hid (∀ W w', w' = W.alloc (.cells (cellsS ((pieces s.data.toList).map strOf)).toArray 9) → Below W.heap.size W w' ∧ SA w' (some ⟨W.heap.size, 0, none⟩) ((pieces s.data.toList).map strOf)) := hid0 (fun W w' hw => by
    rw [hw]
    refine ⟨(Below.refl _ _).alloc (Nat.le_refl _) _, ⟨fun k hk => ⟨W.heap.size, 0, rfl, by simp, ?_⟩⟩⟩
    rw [cell_of_row _ _ _ _ _ _ (heap_alloc_new W _)]
    simp only [List.length_map] at hk
    simp [cellsS, hk])
  have Hn := hid0 hn
  have HPL : Hid (∀ p ∈ pieces s.data.toList, p.length ≤ 64) := hid0 (fun p hp => by have h1 := pieces_len s.data.toList p hp; have h2 := HLE.out; omega)
  obtain ⟨ps, hps⟩ : ∃ ps, ps = pieces s.data.toList := ⟨_, rfl⟩
  rw [← hps] at HSL HSW Hn HPL ⊢
  obtain ⟨Y, hY⟩ : ∃ Y, Y = strOf (joinU (formL ps)) := ⟨_, rfl⟩
  rw [← hY]
  have HY := hid0 hY
  clear hm hT hR hn hps hY
  have M0 : Hid True := trivial
  go_enter Tryz.func43, Tryz.ntmps43
  go_wp2_with (first
    | (go_at_call 59; clear M0; refine HRE.out.mono ?_; rintro e w1 ⟨rfl, hb1⟩; have HB1 := hid0 hb1; have HSP := hid0 (HSL.out w1 (HM.out.below hb1)); have M1 : Hid True := trivial; clear hb1)
    | (go_at_call 58; clear M1; refine HSP.out.mono ?_; rintro e w2 ⟨rfl, hw2⟩; obtain ⟨hb2, hsa2⟩ := HSW.out w1 w2 hw2; have HB2 := hid0 (Below.later HB1.out hb2); have HSA2 := hid0 hsa2; clear hb2 hsa2 hw2))
  have HFB : Hid (Bl w2.heap.size w2.heap.size (Lib.byteCells (joinU (formL (ps.take 0)))) (w2.alloc (.cells #[.pointer none, .slice none 0 0] 97))) := hid0 (by
    have h := Lib.fresh_isBuilder 97 5 w2
    simpa [formL, joinU, Lib.join, List.intercalate, Lib.byteCells] using h)
  have HFL : Hid (Below w2.heap.size w2 (w2.alloc (.cells #[.pointer none, .slice none 0 0] 97))) := hid0 ((Below.refl _ _).alloc (Nat.le_refl _) _)
  go_loopw [12] (fun i wr => ∃ k : Nat, k ≤ n ∧ i = .int .i64 (k : Int) ∧ Hid (Bl w2.heap.size w2.heap.size (Lib.byteCells (joinU (formL (ps.take k)))) wr) ∧ Hid (Below w2.heap.size w2 wr)) (fun i _ => n - (intOf i).toNat)
  case atStart => exact ⟨0, Nat.zero_le _, rfl, HFB, HFL⟩
  case round =>
    clear HFB HFL
    obtain ⟨k, hk, rfl, HBl, HBr⟩ := hrel
    have hbs := HBr.out.size
    have HLN : Hid ((joinU (formL (ps.take k))).length ≤ 257 * 65) := hid0 (by
      have h1 := joinU_bound 256 (formL (ps.take k)) (fun p hp => by have := formL_le (m := 64) (fun q hq => HPL.out q (List.mem_of_mem_take hq)) p hp; omega)
      rw [formL_len, List.length_take] at h1
      have : 257 * min k ps.length ≤ 257 * 65 := Nat.mul_le_mul_left _ (by omega)
      omega)
    by_cases hlt : k < n
    · have hkI : (k : Int) < (n : Int) := by omega
      have hkI0 : (0 : Int) ≤ (k : Int) := by omega
      have hkP : k < ps.length := by rw [← Hn.out]; exact hlt
      obtain ⟨p, hp⟩ : ∃ p, ps[k] = p := ⟨_, rfl⟩
      have hpl : p.length ≤ 64 := by rw [← hp]; exact HPL.out _ (List.getElem_mem hkP)
      obtain ⟨b1, o1, he, hlt1, hc⟩ := (HSA2.out.below HBr.out).at' k (by simpa using hkP)
      cases he
      rw [List.getElem_map, hp, Nat.zero_add] at hc
      have HNX : Hid (formL (ps.take (k + 1)) = formL (ps.take k) ++ [pfL (decide (k = 0)) p]) := hid0 (by rw [formL_take ps k hkP, hp])
      have hpf := pfL_len (decide (k = 0)) p
      have HPF : Hid (∀ W, Below w2.heap.size w2 W → Calls Tryz.prog 62 #[.string (strOf p), .bool (decide (k = 0))] W fun e w' => e = .returned (.string (strOf (pfL (decide (k = 0)) p))) ∧ Below W.heap.size W w') := hid0 (fun W hW => partFormL_any p (decide (k = 0)) hpl W (HT.out.below (Below.later HB2.out hW)))
      have HXZ : Hid ((strOf (pfL (decide (k = 0)) p)).size ≤ 256) := hid0 (by rw [strOf_size]; omega)
      have HXC := hid0 (strCells_strOf (pfL (decide (k = 0)) p))
      have HLB : Hid ((Lib.byteCells (joinU (formL (ps.take k)))).length ≤ 257 * 65) := hid0 (by rw [Lib.byteCells_length]; exact HLN.out)
      by_cases h0 : k = 0
      · subst h0
        have hd : decide (0 = 0) = true := rfl
        have HN2 : Hid (Lib.byteCells (joinU (formL (ps.take 0))) ++ Lib.strCells (strOf (pfL (decide (0 = 0)) p)) = Lib.byteCells (joinU (formL (ps.take (0 + 1))))) := hid0 (by
          rw [HXC.out, HNX.out]
          simp [formL, joinU, Lib.join, List.intercalate, Lib.byteCells])
        rw [hd] at HPF HXZ HN2
        clear hd
        obtain ⟨X, hX⟩ : ∃ X, X = strOf (pfL true p) := ⟨_, rfl⟩
        obtain ⟨bs, hbs'⟩ : ∃ bs, bs = Lib.byteCells (joinU (formL (ps.take 0))) := ⟨_, rfl⟩
        rw [← hX] at HPF HXZ HN2
        rw [← hbs'] at HBl HN2 HLB
        generalize strOf p = S at *
        clear HXC HNX HLN hp hX hbs'
        go_wp2_with (first
          | (go_at_call 62; refine (HPF.out _ HBr.out).mono ?_; rintro e w5 ⟨rfl, hb5⟩; have HB5 := hid0 (Below.later HBr.out hb5); have HBl5 := hid0 (bl_later HBl.out hb5); clear hb5)
          | (go_at_call 61; refine (writeString_any _ _ _ X _ HBl5.out (by have h1 := HLB.out; have h2 := HXZ.out; omega) HB5.out.size).mono ?_; rintro e w6 ⟨rfl, h1, h2, h3⟩; have HB6 := hid0 (HB5.out.trans h2); have HBl6 : Hid (Bl w2.heap.size w2.heap.size (Lib.byteCells (joinU (formL (ps.take (0 + 1))))) w6) := hid0 (.inr (by rw [← HN2.out]; exact h1)); clear h1 h2 h3))
        go_roundw
        case rel => exact ⟨1, by omega, by first | rfl | go_num, HBl6, HB6⟩
        case measure => simp [intOf]; omega
      · have hg : (0 : Int) < (k : Int) := by omega
        have hk0 : ((k : Int) == 0) = false := by simp; omega
        have hd : decide (k = 0) = false := by simpa using h0
        have HN2 : Hid (Lib.byteCells (joinU (formL (ps.take k))) ++ [.int .u8 95] ++ Lib.strCells (strOf (pfL (decide (k = 0)) p)) = Lib.byteCells (joinU (formL (ps.take (k + 1))))) := hid0 (by
          rw [HXC.out, HNX.out, joinU_snoc _ _ (formL_ne ps k (by omega) hkP), bytes_app]
          simp [Lib.byteCells])
        rw [hd] at HPF HXZ HN2
        clear hd
        obtain ⟨X, hX⟩ : ∃ X, X = strOf (pfL false p) := ⟨_, rfl⟩
        obtain ⟨bs, hbs'⟩ : ∃ bs, bs = Lib.byteCells (joinU (formL (ps.take k))) := ⟨_, rfl⟩
        rw [← hX] at HPF HXZ HN2
        rw [← hbs'] at HBl HN2 HLB
        generalize strOf p = S at *
        clear HXC HNX HLN hp hX hbs'
        go_wp2_with (first
          | (go_at_call 60; refine (writeByte_any _ _ _ 95 _ HBl.out (by have h1 := HLB.out; omega) HBr.out.size).mono ?_; rintro e w4 ⟨rfl, h1, h2, h3⟩; have HB4 := hid0 (HBr.out.trans h2); have HBl4 : Hid (Bl w2.heap.size w2.heap.size (bs ++ [.int .u8 95]) w4) := hid0 (.inr h1); clear h1 h2 h3)
          | (go_at_call 62; refine (HPF.out _ HB4.out).mono ?_; rintro e w5 ⟨rfl, hb5⟩; have HB5 := hid0 (Below.later HB4.out hb5); have HBl5 := hid0 (bl_later HBl4.out hb5); clear hb5)
          | (go_at_call 61; refine (writeString_any _ _ _ X _ HBl5.out (by have h1 := HLB.out; have h2 := HXZ.out; rw [List.length_append]; simp; omega) HB5.out.size).mono ?_; rintro e w6 ⟨rfl, h1, h2, h3⟩; have HB6 := hid0 (HB5.out.trans h2); have HBl6 : Hid (Bl w2.heap.size w2.heap.size (Lib.byteCells (joinU (formL (ps.take (k + 1))))) w6) := hid0 (.inr (by rw [← HN2.out]; exact h1)); clear h1 h2 h3))
        go_roundw
        case rel => exact ⟨k + 1, by omega, by go_num, HBl6, HB6⟩
        case measure => simp [intOf]; omega
    · have hkI : ¬ (k : Int) < (n : Int) := by omega
      have HS := hid0 (Any.Builder_String_any_k Tryz.lays169 ext169 w2.heap.size w2.heap.size (joinU (formL (ps.take k))) wr (Lib.IsBuilderF.of HBl.out) HBr.out.size)
      have HE : Hid (joinU (formL (ps.take k)) = joinU (formL ps)) := hid0 (by rw [List.take_of_length_le (by have := Hn.out; omega)])
      rw [HE.out] at HS
      have HS2 : Hid (Calls Tryz.prog 63 #[.pointer (some ⟨w2.heap.size, 0, none⟩)] wr fun e w' => e = .returned (.string Y) ∧ Below w2.heap.size wr w') := hid0 (by rw [HY.out]; exact HS.out.mono (fun e w' h => ⟨h.1, h.2.2.1⟩))
      clear HS HBl
      go_wp2_with (go_at_call 63; refine HS2.out.mono ?_; rintro e w7 ⟨rfl, hb7⟩)
      go_ret
      exact ⟨rfl, Below.later HB2.out (HBr.out.trans hb7)⟩
end Go.Proofs.YtlnejmmhhmmomaaGreatDoor
namespace Go.Proofs.YtlnejmmhhmmomaaGreatDoor
open Go.RowKit Go.Shelf Go.Lib
def canE (A : Nat → Addr) : Option (List UInt8) → Value
  | some c => .tuple #[.string (strOf c), .nilIface]
  | none => .tuple #[.string ⟨#[]⟩, .iface 185 (.pointer (some (A 1)))]
set_option maxRecDepth 10000 in
set_option maxHeartbeats 800000 in
theorem canon_any (A : Nat → Addr) (s : ByteArray) (w : World) (hm : Mx w) (hT : Tb w) (he : Sents w A) : Calls Tryz.prog 29 #[.string s] w fun e w' => e = .returned (canE A (tagF s.data.toList)) ∧ Below w.heap.size w w' := by
  have HTL : Hid (s.data.toList.length = s.size) := hid0 (by simp)
  by_cases h64 : (64 : Int) < (s.size : Int)
  · have hv : tagF s.data.toList = none := by
      unfold tagF
      rw [if_neg]
      rintro ⟨h1, _⟩
      have h4 := HTL.out
      omega
    rw [hv]
    unfold canE
    have x1 := he.c1
    clear hm hT he hv
    go_enter Tryz.func29, Tryz.ntmps29
    go_wp2
    go_quiet ((fail))
    go_wp2
    go_returns
    exact ⟨rfl, ⟨rfl, rfl, rfl, Nat.le_refl _, fun _ _ => rfl⟩⟩
  · have hle : s.data.toList.length ≤ 64 := by rw [HTL.out]; omega
    have hLF := locale_form s.data.toList hle
    obtain ⟨F, hF⟩ : ∃ F, F = strOf (joinU (formL (pieces s.data.toList))) := ⟨_, rfl⟩
    have HO : Hid (Calls Tryz.prog 43 #[.string s] w fun e w' => e = .returned (.string F) ∧ Below w.heap.size w w') := hid0 (by rw [hF]; exact oneFormL_any s (by omega) w hm hT)
    have HI : Hid (∀ W, Below w.heap.size w W → Calls Tryz.prog 44 #[.string F] W fun e w' => e = .returned (.bool (isTagB F)) ∧ Below W.heap.size W w') := hid0 (fun W hW => isTag_any A F W (hm.below hW) (he.below hW))
    have HE : Hid (∀ W, Below w.heap.size w W → W.cell? ⟨2, 0, none⟩ = some (.iface 185 (.pointer (some (A 1))))) := hid0 (fun W hW => (he.below hW).c1)
    cases hq : tagF s.data.toList with
    | none =>
      have hi : isTagB F = false := by
        unfold isTagB
        rw [hF, strOf_data]
        simpa using hLF.1 hq
      rw [hi] at HI
      unfold canE
      clear hm hT he hq hi hF hLF
      go_enter Tryz.func29, Tryz.ntmps29
      go_wp2_with (first
        | (go_at_call 43; refine HO.out.mono ?_; rintro e w1 ⟨rfl, hb1⟩; have HB1 := hid0 hb1; clear hb1)
        | (go_at_call 44; refine (HI.out _ HB1.out).mono ?_; rintro e w2 ⟨rfl, hb2⟩; have HB2 := hid0 (Below.later HB1.out hb2); have x1 := HE.out w2 (Below.later HB1.out hb2); clear hb2))
      go_quiet ((fail))
      go_wp2
      go_returns
      exact ⟨rfl, ⟨HB2.out.os, HB2.out.tape, HB2.out.output, HB2.out.size, HB2.out.block⟩⟩
    | some c =>
      obtain ⟨h1, h2⟩ := hLF.2 c hq
      have hi : isTagB F = true := by
        unfold isTagB
        rw [hF, strOf_data, h1, h2]
        simp
      have hc : strOf c = F := by rw [hF, h1]
      rw [hi] at HI
      unfold canE
      simp only
      rw [hc]
      clear hm hT he hq hi hF hLF hc h1 h2
      go_enter Tryz.func29, Tryz.ntmps29
      go_wp2_with (first
        | (go_at_call 43; refine HO.out.mono ?_; rintro e w1 ⟨rfl, hb1⟩; have HB1 := hid0 hb1; clear hb1)
        | (go_at_call 44; refine (HI.out _ HB1.out).mono ?_; rintro e w2 ⟨rfl, hb2⟩; have HB2 := hid0 (Below.later HB1.out hb2); clear hb2))
      go_returns
      exact ⟨rfl, HB2.out⟩
set_option maxRecDepth 10000 in
set_option maxHeartbeats 400000 in
theorem without_any (s : ByteArray) (hs : s.size ≤ 1000000) (h0 : Lib.lastIndexByte s 95 ≠ 0) (w : World) : Calls Tryz.prog 45 #[.string s] w fun e w' => e = .returned (.string (cutB s)) ∧ w' = w := by
  have HL : Hid (Calls Tryz.prog 64 #[.string s, .int .u8 95] w fun e w' => e = .returned (.int .i64 (Lib.lastIndexByte s 95)) ∧ w' = w) := hid0 (Any.strings_LastIndexByte Tryz.lays149 s 95 (by omega) w)
  have hr := lastIdx_lt s 95 s.size
  have hr' : -1 ≤ Lib.lastIndexByte s 95 ∧ Lib.lastIndexByte s 95 < s.size := hr
  clear hr
  by_cases hn : Lib.lastIndexByte s 95 < 0
  · have HV : Hid (cutB s = rootB) := hid0 (by rw [cutB, if_pos (by omega)])
    generalize Lib.lastIndexByte s 95 = u at *
    go_enter Tryz.func45, Tryz.ntmps45
    go_wp2_with (go_at_call 64; refine HL.out.mono ?_; rintro e w1 ⟨rfl, rfl⟩)
    go_ret
    exact ⟨by rw [HV.out]; rfl, rfl⟩
  · have HV : Hid (cutB s = s.extract 0 (Lib.lastIndexByte s 95).toNat) := hid0 (by rw [cutB, if_neg (by omega)])
    obtain ⟨u, hu⟩ : ∃ u : Nat, Lib.lastIndexByte s 95 = (u : Int) := ⟨(Lib.lastIndexByte s 95).toNat, by omega⟩
    rw [hu] at HL HV hr' hn h0
    clear hu
    have hu1 : (u : Int) ≤ (s.size : Int) := by omega
    have hu0 : (0 : Int) ≤ (u : Int) := by omega
    go_enter Tryz.func45, Tryz.ntmps45
    go_wp2_with (go_at_call 64; refine HL.out.mono ?_; rintro e w1 ⟨rfl, rfl⟩)
    go_ret
    exact ⟨by rw [HV.out]; rfl, rfl⟩
theorem tag_head {t c : List UInt8} (h : tagF t = some c) : Lib.lastIndexByte (strOf c) 95 ≠ 0 := by
  obtain ⟨_, hv, _, hc⟩ := tagF_le h
  intro h0
  rcases Lib.lastIndexByte_spec (strOf c) 95 with ⟨e, _⟩ | ⟨i, hi, e, hb, _⟩
  · omega
  · have hi0 : i = 0 := by omega
    subst hi0
    have h1 : (strOf c).data[0]! = (strOf c)[0]'hi := byte_bang (strOf c) 0 hi
    rw [h1] at hb
    have h2 : c[0]? = some ((strOf c)[0]'hi) := by
      have := bget (strOf c) 0 hi
      rw [strOf_data] at this
      exact this
    have h95 : ((strOf c)[0]'hi) = 95 := UInt8.toNat_inj.1 (by have : (95 : UInt8).toNat = 95 := rfl; omega)
    rw [h95] at h2
    simp only [validP, Bool.and_eq_true, decide_eq_true_eq] at hv
    cases hq : pieces t with
    | nil => exact absurd hq (pieces_ne t)
    | cons p r =>
      rw [hq] at hv hc
      simp only [List.headD_cons] at hv
      have hpl := hv.1.2
      cases p with
      | nil => simp at hpl
      | cons b p =>
        have hb1 : isL b = true := by have := hv.1.1.2; simp at this; exact this.1
        have hc0 : c[0]? = some (lowerB b) := by
          rw [hc]
          cases r with
          | nil => simp [canonP, joinU_one]
          | cons q r => simp [canonP, joinU_cons]
        rw [hc0] at h2
        have h3 := Option.some.inj h2
        have h4 := L_lo b
        rw [h3, hb1] at h4
        revert h4
        decide
noncomputable def cutE (A : Nat → Addr) : Option (List UInt8) → Value
  | some c => if c = rootL then .tuple #[.string ⟨#[]⟩, .iface 185 (.pointer (some (A 5)))] else .tuple #[.string (cutB (strOf c)), .nilIface]
  | none => .tuple #[.string ⟨#[]⟩, .iface 185 (.pointer (some (A 1)))]
end Go.Proofs.YtlnejmmhhmmomaaGreatDoor
namespace Go.Proofs.YtlnejmmhhmmomaaGreatDoor
open Go.RowKit Go.Shelf Go.Lib
set_option maxRecDepth 10000 in
set_option maxHeartbeats 400000 in
theorem same_loc2 (l p t : ByteArray) (v : Value) (g : Nat) (w : World) (hg : w.cell? ⟨g, 0, none⟩ = some (.string t)) :
    Calls Tryz.prog 35 #[.agg #[.string l, .string p, v], .pointer (some ⟨g, 0, none⟩)] w fun e w' => e = .returned (.bool (decide (l = t))) ∧ Below w.heap.size w w' := by
  have hgl := World.block_lt_of_cell? w _ hg
  have HB : Hid (Below w.heap.size w (w.alloc (.cells #[.string l, .string p, v] 40))) := hid0 ((Below.refl _ _).alloc (Nat.le_refl _) _)
  have y0 : (w.alloc (.cells #[.string l, .string p, v] 40)).cell? ⟨g, 0, none⟩ = some (.string t) := (HB.out.cell hgl).trans hg
  have hse := str_eq l t
  generalize decide (l = t) = d at *
  go_enter Tryz.func35, Tryz.ntmps35
  go_wp2
  go_ret
  exact ⟨by simp, HB.out⟩
/-- Where the section of a locale stands. -/
def IdxIs (L : List Sec) (t : ByteArray) (r : Int) : Prop := (∃ (k : Nat) (h : k < L.length), r = (k : Int) ∧ L[k].loc = t ∧ ∀ j (h : j < L.length), j < k → L[j].loc ≠ t) ∨ (r = -1 ∧ ∀ j (h : j < L.length), L[j].loc ≠ t)
theorem idx_least (L : List Sec) (t : ByteArray) : ∀ k (h : k < L.length), L[k].loc = t → ∃ r, IdxIs L t r
  | k, h, e => by
    by_cases q : ∃ j, ∃ h : j < L.length, j < k ∧ L[j].loc = t
    · obtain ⟨j, hj, hjk, ej⟩ := q
      exact idx_least L t j hj ej
    · exact ⟨(k : Int), .inl ⟨k, h, rfl, e, fun j hj hjk ej => q ⟨j, hj, hjk, ej⟩⟩⟩
termination_by k => k
theorem idx_ex (L : List Sec) (t : ByteArray) : ∃ r, IdxIs L t r := by
  by_cases q : ∃ j, ∃ h : j < L.length, L[j].loc = t
  · obtain ⟨j, hj, ej⟩ := q
    exact idx_least L t j hj ej
  · exact ⟨-1, .inr ⟨rfl, fun j hj ej => q ⟨j, hj, ej⟩⟩⟩
theorem idx_uniq {L : List Sec} {t : ByteArray} {r r' : Int} (h : IdxIs L t r) (h' : IdxIs L t r') : r = r' := by
  rcases h with ⟨k, hk, h1, h2, h3⟩ | ⟨h1, h2⟩ <;> rcases h' with ⟨k', hk', g1, g2, g3⟩ | ⟨g1, g2⟩
  · rcases Nat.lt_trichotomy k k' with q | q | q
    · exact absurd h2 (g3 k hk q)
    · rw [h1, g1, q]
    · exact absurd g2 (h3 k' hk' q)
  · exact absurd h2 (g2 k hk)
  · exact absurd g2 (h2 k' hk')
  · rw [h1, g1]
set_option maxRecDepth 10000 in
set_option maxHeartbeats 800000 in
theorem index_sec (L : List Sec) (a : Option Addr) (ca : Nat) (t : ByteArray) (g : Nat) (w : World) (hl : L.length ≤ 1000000) (ha : XA w a L) (hg : w.cell? ⟨g, 0, none⟩ = some (.string t)) :
    Calls Tryz.prog 34 #[.slice a L.length ca, .func (.func 35) #[] #[.pointer (some ⟨g, 0, none⟩)]] w fun e w' => (∃ r : Int, e = .returned (.int .i64 r) ∧ IdxIs L t r) ∧ Below w.heap.size w w' := by
  have hgl := World.block_lt_of_cell? w _ hg
  have HG : Hid (∀ W, Below w.heap.size w W → W.cell? ⟨g, 0, none⟩ = some (.string t)) := hid0 (fun W hW => (hW.cell (p := ⟨g, 0, none⟩) hgl).trans hg)
  have HA := hid0 ha
  have HB0 := hid0 (Below.refl w.heap.size w)
  clear ha hg hgl
  go_enter Tryz.func34, Tryz.ntmps34
  go_wp2
  go_loopw [8] (fun v wr => ∃ i : Nat, i ≤ L.length ∧ v = .int .i64 (i : Int) ∧ Hid (∀ k (h : k < L.length), k < i → L[k].loc ≠ t) ∧ Hid (Below w.heap.size w wr)) (fun v _ => L.length - (intOf v).toNat)
  case atStart => exact ⟨0, Nat.zero_le _, rfl, hid0 (fun k _ h => absurd h (Nat.not_lt_zero _)), HB0⟩
  case round =>
    obtain ⟨i, hi, rfl, HN, HB⟩ := hrel
    by_cases hlt : i < L.length
    · have hiI : (i : Int) < (L.length : Int) := by omega
      have hi0 : (0 : Int) ≤ (i : Int) := by omega
      obtain ⟨b, off, ae, ce, rfl, hbl, c0, c1, c2, _⟩ := (HA.out.later HB.out).at' i hlt
      have HS := hid0 (same_loc2 L[i].loc L[i].par t (.slice ae L[i].ed.length ce) g wr (HG.out _ HB.out))
      have HD : Hid (L[i].loc = t → IdxIs L t (i : Int)) := hid0 (fun h => .inl ⟨i, hlt, rfl, h, HN.out⟩)
      have HN2 : Hid (L[i].loc ≠ t → ∀ k (h : k < L.length), k < i + 1 → L[k].loc ≠ t) := hid0 (fun hne k h hk => by
        by_cases e : k = i
        · subst e; exact hne
        · exact HN.out k h (by omega))
      generalize L[i].loc = l at *
      generalize L[i].par = p at *
      generalize L[i].ed.length = n at *
      cases hd : decide (l = t) with
      | true =>
        rw [hd] at HS
        have HV := hid0 (HD.out (of_decide_eq_true hd))
        clear HD HN2 HN hd
        go_wp2_with (go_at_call 35; refine HS.out.mono ?_; rintro e w1 ⟨rfl, hb1⟩; have HB1 := hid0 (HB.out.trans (hb1.mono HB.out.size)); clear hb1)
        go_ret
        exact ⟨⟨_, rfl, HV.out⟩, HB1.out⟩
      | false =>
        rw [hd] at HS
        have HV := hid0 (HN2.out (of_decide_eq_false hd))
        clear HD HN2 HN hd
        go_wp2_with (go_at_call 35; refine HS.out.mono ?_; rintro e w1 ⟨rfl, hb1⟩; have HB1 := hid0 (HB.out.trans (hb1.mono HB.out.size)); clear hb1)
        go_roundw
        case rel => exact ⟨i + 1, by omega, by go_num, HV, HB1⟩
        case measure => simp [intOf]; omega
    · have hiI : ¬ (i : Int) < (L.length : Int) := by omega
      have HV : Hid (IdxIs L t (-1)) := hid0 (.inr ⟨rfl, fun k hk => HN.out k hk (by omega)⟩)
      clear HN HA
      go_wp2
      go_ret
      exact ⟨⟨-1, rfl, HV.out⟩, HB.out⟩
/-- The section of a locale. -/
def secOf (L : List Sec) (t : ByteArray) : Option Sec := L.find? fun s => decide (s.loc = t)
theorem secOf_at {L : List Sec} {t : ByteArray} {k : Nat} (h : k < L.length) (e : L[k].loc = t) (hn : ∀ j (h : j < L.length), j < k → L[j].loc ≠ t) : secOf L t = some L[k] := by
  unfold secOf
  rw [List.find?_eq_some_iff_getElem]
  exact ⟨decide_eq_true e, k, h, rfl, fun j hj => by simpa using hn j (by omega) hj⟩
theorem secOf_none {L : List Sec} {t : ByteArray} (hn : ∀ j (h : j < L.length), L[j].loc ≠ t) : secOf L t = none := by
  unfold secOf
  rw [List.find?_eq_none]
  intro s hs
  obtain ⟨j, hj, rfl⟩ := List.getElem_of_mem hs
  simpa using hn j hj
/-- What sectionOf answers, in a world. -/
def SecIs (w : World) (o : Option Sec) (v : Value) : Prop := match o with
  | none => v = .agg #[.string ⟨#[]⟩, .string ⟨#[]⟩, .slice none 0 0]
  | some s => ∃ ae ce, v = .agg #[.string s.loc, .string s.par, .slice ae s.ed.length ce] ∧ EA w ae s.ed
set_option maxRecDepth 10000 in
set_option maxHeartbeats 800000 in
theorem sectionOf_any (L : List Sec) (a : Option Addr) (c : Nat) (t : ByteArray) (w : World) (hl : L.length ≤ 1000000) (ha : XA w a L) :
    Calls Tryz.prog 17 #[.agg #[.slice a L.length c], .string t] w fun e w' => (∃ v, e = .returned v ∧ SecIs w (secOf L t) v) ∧ Below w.heap.size w w' := by
  obtain ⟨wa, hwa⟩ : ∃ wa, wa = w.alloc (.cells #[.slice a L.length c] 24) := ⟨_, rfl⟩
  obtain ⟨wb, hwb⟩ : ∃ wb, wb = wa.alloc (.cells #[.string t] 9) := ⟨_, rfl⟩
  obtain ⟨wc, hwc⟩ : ∃ wc, wc = wb.alloc (.cells #[.string ⟨#[]⟩, .string ⟨#[]⟩, .slice none 0 0] 40) := ⟨_, rfl⟩
  have sa : wa.heap.size = w.heap.size + 1 := by rw [hwa]; simp
  have sb : wb.heap.size = w.heap.size + 1 + 1 := by rw [hwb]; simp [sa]
  have bab : Below wa.heap.size wa wb := by rw [hwb]; exact (Below.refl _ _).alloc (Nat.le_refl _) _
  have bbc : Below wb.heap.size wb wc := by rw [hwc]; exact (Below.refl _ _).alloc (Nat.le_refl _) _
  have b0a : Below w.heap.size w wa := by rw [hwa]; exact (Below.refl _ _).alloc (Nat.le_refl _) _
  have b0c : Below w.heap.size w wc := Below.later (Below.later b0a bab) bbc
  have r0 : wc.heap[w.heap.size]? = some (.cells #[.slice a L.length c] 24 (0, 0)) := by
    rw [bbc.block _ (by omega), bab.block _ (by omega), hwa]; exact heap_alloc_new w _
  have r1 : wc.heap[w.heap.size + 1]? = some (.cells #[.string t] 9 (0, 0)) := by
    rw [bbc.block _ (by omega), hwb, ← sa]; exact heap_alloc_new wa _
  have r2 : wc.heap[w.heap.size + 1 + 1]? = some (.cells #[.string ⟨#[]⟩, .string ⟨#[]⟩, .slice none 0 0] 40 (0, 0)) := by
    rw [hwc, ← sb]; exact heap_alloc_new wb _
  obtain ⟨r, hr⟩ := idx_ex L t
  have HIx : Hid (Calls Tryz.prog 34 #[.slice a L.length c, .func (.func 35) #[] #[.pointer (some ⟨w.heap.size + 1, 0, none⟩)]] wc fun e w' => e = .returned (.int .i64 r) ∧ Below wc.heap.size wc w') := hid0 ((index_sec L a c t (w.heap.size + 1) wc hl (ha.later b0c) (by rw [cell_of_row _ _ _ _ _ _ r1]; rfl)).mono (fun e w' h => by
    obtain ⟨⟨r', h1, h2⟩, h3⟩ := h
    exact ⟨by rw [h1, idx_uniq h2 hr], h3⟩))
  have x0 : wc.cell? ⟨w.heap.size, 0, none⟩ = some (.slice a L.length c) := by rw [cell_of_row _ _ _ _ _ _ r0]; rfl
  have HP : Hid (∀ W, Below wc.heap.size wc W → W.cell? ⟨w.heap.size, 0, none⟩ = some (.slice a L.length c) ∧ W.heap[w.heap.size + 1 + 1]? = some (.cells #[.string ⟨#[]⟩, .string ⟨#[]⟩, .slice none 0 0] 40 (0, 0)) ∧ XA W a L ∧ Below w.heap.size w W) := hid0 (fun W hW => by
    have q0 := (hW.block _ (Array.getElem?_eq_some_iff.1 r0).1).trans r0
    exact ⟨by rw [cell_of_row _ _ _ _ _ _ q0]; rfl, (hW.block _ (Array.getElem?_eq_some_iff.1 r2).1).trans r2, (ha.later b0c).later hW, Below.later b0c hW⟩)
  have HA := hid0 ha
  have hf1 := hwa.symm
  have hf2 := hwb.symm
  have hf3 := hwc.symm
  clear ha hwa hwb hwc bab bbc b0a b0c r0 r1 r2
  rcases hr with ⟨k, hk, rfl, e, hn⟩ | ⟨rfl, hn⟩
  · have HV := hid0 (secOf_at hk e hn)
    have hk0 : (0 : Int) ≤ (k : Int) := by omega
    have hkI : (k : Int) < (L.length : Int) := by omega
    have hkn : ¬ (k : Int) < 0 := by omega
    obtain ⟨b, off, ae, ce, rfl, hbl, q0, q1, q2, hea⟩ := HA.out.at' k hk
    have HXC : Hid (∀ W, Below w.heap.size w W → W.cell? ⟨b, off + k * 3, none⟩ = some (.string L[k].loc) ∧ W.cell? ⟨b, off + k * 3 + 1, none⟩ = some (.string L[k].par) ∧ W.cell? ⟨b, off + k * 3 + 2, none⟩ = some (.slice ae L[k].ed.length ce)) := hid0 (fun W hW => ⟨(hW.cell (p := ⟨b, off + k * 3, none⟩) hbl).trans q0, (hW.cell (p := ⟨b, off + k * 3 + 1, none⟩) hbl).trans q1, (hW.cell (p := ⟨b, off + k * 3 + 2, none⟩) hbl).trans q2⟩)
    clear q0 q1 q2
    have HEA := hid0 hea
    clear HA hn e hea
    generalize L[k] = sk at *
    go_enter Tryz.func17, Tryz.ntmps17
    go_wp2_with (first
      | (go_at_call 34; refine HIx.out.mono ?_; rintro e w5 ⟨rfl, hb5⟩; obtain ⟨z0, zr, zx, zb⟩ := HP.out w5 hb5; have HZR := hid0 zr; have HZX := hid0 zx; have HZB := hid0 zb; obtain ⟨⟨d0, d1, d2⟩, g0, g1, g2⟩ := row3 zr; obtain ⟨k0, k1, k2⟩ := HXC.out w5 HZB.out; clear hb5 zr zx zb hf1 hf2 hf3)
      | fail)
    have HR6 := hid0 (set3 (.string sk.loc) (.string sk.par) (.slice ae sk.ed.length ce) HZR.out)
    have HB6 := hid0 (set3_below HZB.out (g := w.heap.size + 1 + 1) (by omega) (.string sk.loc) (.string sk.par) (.slice ae sk.ed.length ce))
    obtain ⟨⟨m0, m1, m2⟩, _⟩ := row3 HR6.out
    refine bodyPost_ret (by simp [results, Tryz.results17, go_sem, m0, m1, m2]; try rfl) rfl ?_
    exact ⟨⟨_, rfl, by rw [HV.out]; exact ⟨ae, ce, rfl, HEA.out⟩⟩, HB6.out⟩
  · have HV := hid0 (secOf_none hn)
    clear HA hn
    go_enter Tryz.func17, Tryz.ntmps17
    go_wp2_with (first
      | (go_at_call 34; refine HIx.out.mono ?_; rintro e w5 ⟨rfl, hb5⟩; obtain ⟨z0, zr, zx, zb⟩ := HP.out w5 hb5; have HZR := hid0 zr; have HZX := hid0 zx; have HZB := hid0 zb; obtain ⟨⟨d0, d1, d2⟩, g0, g1, g2⟩ := row3 zr; clear hb5 zr zx zb hf1 hf2 hf3)
      | fail)
    have HR6 := hid0 (set3 (.string ⟨#[]⟩) (.string ⟨#[]⟩) (.slice none 0 0) HZR.out)
    have HB6 := hid0 (set3_below HZB.out (g := w.heap.size + 1 + 1) (by omega) (.string ⟨#[]⟩) (.string ⟨#[]⟩) (.slice none 0 0))
    obtain ⟨⟨m0, m1, m2⟩, _⟩ := row3 HR6.out
    refine bodyPost_ret (by simp [results, Tryz.results17, go_sem, m0, m1, m2]; try rfl) rfl ?_
    exact ⟨⟨_, rfl, by rw [HV.out]; rfl⟩, HB6.out⟩
end Go.Proofs.YtlnejmmhhmmomaaGreatDoor
namespace Go.Proofs.YtlnejmmhhmmomaaGreatDoor
open Go.RowKit Go.Shelf Go.Lib
/-- The parent of a locale. -/
noncomputable def parL (L : List Sec) (t : ByteArray) : ByteArray := match secOf L t with
  | some s => if (s.par.toList == []) = true then cutB t else s.par
  | none => cutB t
set_option maxRecDepth 10000 in
set_option maxHeartbeats 800000 in
theorem parentOf_any (L : List Sec) (a : Option Addr) (c : Nat) (t : ByteArray) (w : World) (hl : L.length ≤ 1000000) (hs : t.size ≤ 1000000) (h0 : Lib.lastIndexByte t 95 ≠ 0) (ha : XA w a L) :
    Calls Tryz.prog 30 #[.agg #[.slice a L.length c], .string t] w fun e w' => e = .returned (.string (parL L t)) ∧ Below w.heap.size w w' := by
  obtain ⟨wa, hwa⟩ : ∃ wa, wa = w.alloc (.cells #[.slice a L.length c] 24) := ⟨_, rfl⟩
  have b0a : Below w.heap.size w wa := by rw [hwa]; exact (Below.refl _ _).alloc (Nat.le_refl _) _
  have r0 : wa.heap[w.heap.size]? = some (.cells #[.slice a L.length c] 24 (0, 0)) := by rw [hwa]; exact heap_alloc_new w _
  have x0 : wa.cell? ⟨w.heap.size, 0, none⟩ = some (.slice a L.length c) := by rw [cell_of_row _ _ _ _ _ _ r0]; rfl
  have HS := hid0 (sectionOf_any L a c t wa hl (ha.later b0a))
  have HW := hid0 (fun W => without_any t hs h0 W)
  have HB := hid0 b0a
  have hfd : ∀ (l p : ByteArray) (ae : Option Addr) (n ce : Nat) (w : World), (Instr.field 40 (.agg #[.string l, .string p, .slice ae n ce]) 1).run Tryz.prog w = .ok (.string p) w := fun _ _ _ _ _ _ => by kernel_rfl
  have hf1 := hwa.symm
  clear ha hwa b0a r0 hs h0
  obtain ⟨R, hR⟩ : ∃ R, R = parL L t := ⟨_, rfl⟩
  rw [← hR]
  unfold parL at hR
  cases hq : secOf L t with
  | none =>
    rw [hq] at hR HS
    simp only at hR
    have HR := hid0 hR
    have hem : ((⟨#[]⟩ : ByteArray).toList == []) = true := (empty_beq []).trans (by simp)
    clear hR hq
    go_enter Tryz.func30, Tryz.ntmps30
    go_wp2_with (first
      | (go_at_call 17; refine HS.out.mono ?_; rintro e w1 ⟨⟨v, rfl, hv⟩, hb1⟩; have hv2 : v = .agg #[.string ⟨#[]⟩, .string ⟨#[]⟩, .slice none 0 0] := hv; subst hv2; have HB1 := hid0 (Below.later HB.out hb1); clear hb1 hv)
      | (go_at_call 45; refine (HW.out _).mono ?_; rintro e w2 ⟨rfl, rfl⟩)
      | fail)
    go_ret
    exact ⟨by rw [HR.out]; rfl, HB1.out⟩
  | some s =>
    rw [hq] at hR HS
    simp only at hR
    obtain ⟨l, p, ed⟩ := s
    simp only at hR
    cases hp : (p.toList == []) with
    | true =>
      rw [hp] at hR
      simp only [if_true] at hR
      have HR := hid0 hR
      clear hR hq
      go_enter Tryz.func30, Tryz.ntmps30
      go_wp2_with (first
        | (go_at_call 17; refine HS.out.mono ?_; rintro e w1 ⟨⟨v, rfl, ae, ce, hv, _⟩, hb1⟩; subst hv; have HB1 := hid0 (Below.later HB.out hb1); clear hb1)
        | (go_at_call 45; refine (HW.out _).mono ?_; rintro e w2 ⟨rfl, rfl⟩)
        | fail)
      go_ret
      exact ⟨by rw [HR.out]; rfl, HB1.out⟩
    | false =>
      rw [hp] at hR
      simp only [Bool.false_eq_true, if_false] at hR
      have HR := hid0 hR
      clear hR hq
      go_enter Tryz.func30, Tryz.ntmps30
      go_wp2_with (first
        | (go_at_call 17; refine HS.out.mono ?_; rintro e w1 ⟨⟨v, rfl, ae, ce, hv, _⟩, hb1⟩; subst hv; have HB1 := hid0 (Below.later HB.out hb1); clear hb1)
        | fail)
      go_ret
      exact ⟨by rw [HR.out]; rfl, HB1.out⟩
end Go.Proofs.YtlnejmmhhmmomaaGreatDoor
namespace Go.Proofs.YtlnejmmhhmmomaaGreatDoor
open Go.RowKit Go.Shelf Go.Lib
/-- A locale that may be cut: 64 bytes at most, and its first is not _. -/
structure Gd (x : ByteArray) : Prop where
  size : x.size ≤ 64
  head : ((x.data[0]!).toNat : Int) ≠ 95
theorem Gd.last {x : ByteArray} (h : Gd x) : Lib.lastIndexByte x 95 ≠ 0 := by
  intro h0
  rcases Lib.lastIndexByte_spec x 95 with ⟨e, _⟩ | ⟨i, hi, e, hb, _⟩
  · omega
  · have hi0 : i = 0 := by omega
    subst hi0
    exact h.head hb
theorem gd_root : Gd rootB := ⟨by decide, by decide⟩
theorem gd_cut {x : ByteArray} (h : Gd x) : Gd (cutB x) := by
  unfold cutB
  split
  · exact gd_root
  · rename_i hn
    have h1 := lastIdx_lt x 95 x.size
    have h2 : Lib.lastIndexByte x 95 < x.size := h1.2
    obtain ⟨k, hk⟩ : ∃ k : Nat, Lib.lastIndexByte x 95 = (k : Int) := ⟨(Lib.lastIndexByte x 95).toNat, by omega⟩
    rw [hk] at hn h2 ⊢
    have hsz : (x.extract 0 k).size = k := by simp [ByteArray.size_extract]; omega
    have hs := h.size
    refine ⟨by simp only [Int.toNat_natCast]; omega, ?_⟩
    have e : ((x.extract 0 k).data[0]!) = x.data[0]! := by
      rw [byte_bang _ 0 (by omega), byte_bang x 0 (by omega)]
      simp [ByteArray.getElem_extract]
    simp only [Int.toNat_natCast, e]
    exact h.head
theorem tag_first {t c : List UInt8} (h : tagF t = some c) : (((strOf c).data[0]!).toNat : Int) ≠ 95 ∧ (strOf c).size ≤ 64 := by
  obtain ⟨_, hv, hle, hc⟩ := tagF_le h
  refine ⟨fun hb => ?_, by rw [strOf_size]; omega⟩
  simp only [validP, Bool.and_eq_true, decide_eq_true_eq] at hv
  cases hq : pieces t with
  | nil => exact absurd hq (pieces_ne t)
  | cons p r =>
    rw [hq] at hv hc
    simp only [List.headD_cons] at hv
    have hpl := hv.1.2
    cases p with
    | nil => simp at hpl
    | cons b p =>
      have hb1 : isL b = true := by have := hv.1.1.2; simp at this; exact this.1
      have hc0 : c[0]? = some (lowerB b) := by
        rw [hc]
        cases r with
        | nil => simp [canonP, joinU_one]
        | cons q r => simp [canonP, joinU_cons]
      have hi : 0 < (strOf c).size := by
        rw [strOf_size]
        cases c with
        | nil => simp at hc0
        | cons x c => simp
      have h2 : c[0]? = some ((strOf c)[0]'hi) := by
        have := bget (strOf c) 0 hi
        rw [strOf_data] at this
        exact this
      rw [byte_bang (strOf c) 0 hi] at hb
      have h95 : ((strOf c)[0]'hi) = 95 := UInt8.toNat_inj.1 (by have : (95 : UInt8).toNat = 95 := rfl; omega)
      rw [h95, hc0] at h2
      have h3 := Option.some.inj h2
      have h4 := L_lo b
      rw [h3, hb1] at h4
      revert h4
      decide
theorem gd_tag {t c : List UInt8} (h : tagF t = some c) : Gd (strOf c) := ⟨(tag_first h).2, (tag_first h).1⟩
theorem gd_isTag {s : ByteArray} (h : isTagB s = true) : Gd s := by
  have h1 := gd_tag (of_decide_eq_true h)
  have e : strOf s.data.toList = s := by simp [strOf]
  rwa [e] at h1
theorem str_beqF (a b : ByteArray) (h : ¬ a = b) : (a.toList == b.toList) = false := by
  rw [str_eq]; exact decide_eq_false h
set_option maxRecDepth 10000 in
set_option maxHeartbeats 800000 in
theorem indexS_any (L : List ByteArray) (a : Option Addr) (cap : Nat) (x : ByteArray) (w : World) (hl : L.length ≤ 1000000000000) (ha : SA w a L) :
    Calls Tryz.prog 46 #[.slice a L.length cap, .string x] w fun e w' => e = .returned (.int .i64 (Lib.idxOfS L x)) ∧ w' = w := by
  have HS := hid0 ha
  clear ha
  go_enter Tryz.func46, Tryz.ntmps46
  go_wp2
  go_loopw [8] (fun i wr => ∃ k : Nat, k ≤ L.length ∧ i = .int .i64 (k : Int) ∧ (∀ j, j < k → L.getD j ByteArray.empty ≠ x) ∧ wr = w) (fun i _ => L.length - (intOf i).toNat)
  case atStart => exact ⟨0, Nat.zero_le _, rfl, fun j hj => absurd hj (Nat.not_lt_zero _), rfl⟩
  case round =>
    obtain ⟨k, hk, rfl, hall, rfl⟩ := hrel
    have HA := hid0 hall
    clear hall
    by_cases hlt : k < L.length
    · obtain ⟨b, off, rfl, _, hc⟩ := HS.out.at' k hlt
      have hkI : (k : Int) < (L.length : Int) := by omega
      have hkI0 : (0 : Int) ≤ (k : Int) := by omega
      have hgd : L.getD k ByteArray.empty = L[k] := by simp [List.getD, hlt]
      by_cases he : L[k] = x
      · have HV : Hid (Lib.idxOfS L x = (k : Int)) := hid0 (by
          have := Lib.idxFromS_hit x L k 0 hlt (hgd.trans he) HA.out
          rw [Lib.idxOfS, this]; simp)
        rw [he] at hc
        clear HA hgd he HS
        go_wp2
        go_ret
        exact ⟨by rw [HV.out]; rfl, rfl⟩
      · have HN : Hid (∀ j, j < k + 1 → L.getD j ByteArray.empty ≠ x) := hid0 (fun j hj => by
          by_cases e : j = k
          · subst e; rw [hgd]; exact he
          · exact HA.out j (by omega))
        have hne := str_beqF _ _ (fun e => he e.symm)
        clear HA hgd he HS
        go_wp2
        go_roundw
        case rel => exact ⟨k + 1, hlt, by go_num, HN.out, trivial⟩
        case measure => simp [intOf]; omega
    · have hkI : ¬ (k : Int) < (L.length : Int) := by omega
      have HV : Hid (Lib.idxOfS L x = -1) := hid0 (by
        have hkn : k = L.length := by omega
        exact Lib.idxFromS_miss x L 0 (fun j hj => HA.out j (by omega)))
      clear HA HS
      go_wp2
      go_ret
      exact ⟨by rw [HV.out]; rfl, rfl⟩
set_option maxRecDepth 10000 in
set_option maxHeartbeats 800000 in
theorem containsS_any (L : List ByteArray) (a : Option Addr) (cap : Nat) (x : ByteArray) (w : World) (hl : L.length ≤ 1000000000000) (ha : SA w a L) :
    Calls Tryz.prog 31 #[.slice a L.length cap, .string x] w fun e w' => e = .returned (.bool (Lib.containsS L x)) ∧ w' = w := by
  have HI := hid0 (indexS_any L a cap x w hl ha)
  have HV : Hid (Lib.containsS L x = decide (0 ≤ Lib.idxOfS L x)) := hid0 rfl
  generalize Lib.idxOfS L x = q at *
  generalize Lib.containsS L x = r at *
  clear ha
  go_enter Tryz.func31, Tryz.ntmps31
  go_wp2_with (go_at_call 46; refine HI.out.mono ?_; rintro e w1 ⟨rfl, rfl⟩)
  go_ret
  exact ⟨by rw [HV.out]; simp, rfl⟩
end Go.Proofs.YtlnejmmhhmmomaaGreatDoor
namespace Go.Proofs.YtlnejmmhhmmomaaGreatDoor
open Go.RowKit Go.Shelf Go.Lib
/-- What Chain answers. -/
inductive CR
  | ok (l : List ByteArray)
  | bad (i : Nat)
noncomputable def chainGo (L : List Sec) : Nat → List ByteArray → ByteArray → CR
  | 0, _, _ => .bad 2
  | f + 1, ch, last => if (last.toList == [114, 111, 111, 116]) = true then .ok ch else if Lib.containsS ch (parL L last) = true then .bad 7 else if ch.length = 16 then .bad 2 else chainGo L f (ch ++ [parL L last]) (parL L last)
def entE (s : ByteArray) : Option Nat := entF s.data.toList
noncomputable def chainF (L : List Sec) (t : ByteArray) : CR := match chkE entE L with
  | some i => .bad i
  | none => match tagF t.data.toList with
    | none => .bad 1
    | some c => chainGo L 17 [strOf c] (strOf c)
def GoChain (A : Nat → Addr) (base : Nat) (w' : World) (r : CR) (e : Ending) : Prop := match r with
  | .ok l => ∃ v, e = .returned (.tuple #[v, .nilIface]) ∧ OwnS w' base v l
  | .bad i => e = .returned (.tuple #[.slice none 0 0, .iface 185 (.pointer (some (A i)))])
theorem firstN_inv (f : Nat → Option Nat) : ∀ (m i : Nat), firstN f i m = none → ∀ j, i ≤ j → j < i + m → f j = none
  | 0, _, _, j, h1, h2 => by omega
  | m + 1, i, h, j, h1, h2 => by
    rw [firstN] at h
    cases hx : f i with
    | some x => rw [hx] at h; cases h
    | none =>
      rw [hx] at h
      by_cases e : j = i
      · rw [e, hx]
      · exact firstN_inv f m (i + 1) h j (by omega) (by omega)
theorem par_ok {E : ByteArray → Option Nat} {L : List Sec} (h : chkE E L = none) : ∀ s ∈ L, (s.par.toList == []) = false → isTagB s.par = true := by
  intro s hs hp
  unfold chkE at h
  split at h
  · cases h
  · obtain ⟨k, hk, rfl⟩ := List.getElem_of_mem hs
    have h1 := firstN_inv _ _ 0 h k (Nat.zero_le _) (by omega)
    rw [fSec_at E L k hk] at h1
    unfold secE at h1
    split at h1
    · cases h1
    · split at h1
      · cases h1
      · split at h1
        · cases h1
        · rename_i hn
          cases hq : isTagB L[k].par with
          | true => rfl
          | false => exact absurd ⟨hp, hq⟩ hn
theorem gd_par {E : ByteArray → Option Nat} {L : List Sec} (h : chkE E L = none) {t : ByteArray} (ht : Gd t) : Gd (parL L t) := by
  unfold parL
  cases hq : secOf L t with
  | none => exact gd_cut ht
  | some s =>
    simp only
    split
    · exact gd_cut ht
    · rename_i hp
      exact gd_isTag (par_ok h s (List.mem_of_find?_eq_some hq) (by simpa using hp))
theorem OwnS.base' {w : World} {base base' : Nat} {v : Value} {l : List ByteArray} (h : OwnS w base v l) (hb : base' ≤ base) : OwnS w base' v l := by
  obtain ⟨h1, h2⟩ := h
  refine ⟨h1, ?_⟩
  rcases h2 with h2 | ⟨g, cap, cur, hv, hg, r⟩
  · exact .inl h2
  · exact .inr ⟨g, cap, cur, hv, Nat.le_trans hb hg, r⟩
theorem OwnS.later' {w w' : World} {base : Nat} {v : Value} {L : List ByteArray} (h : OwnS w base v L) (hb : Below w.heap.size w w') : OwnS w' base v L := by
  obtain ⟨h1, h2⟩ := h
  refine ⟨h1, ?_⟩
  rcases h2 with h2 | ⟨g, cap, cur, hv, hg, hh, r⟩
  · exact .inl h2
  · exact .inr ⟨g, cap, cur, hv, hg, (hb.block g (Array.getElem?_eq_some_iff.1 hh).1).trans hh, r⟩
def lenOf : Value → Nat
  | .slice _ n _ => n
  | _ => 0
set_option maxRecDepth 10000 in
set_option maxHeartbeats 3200000 in
theorem chain_any (A : Nat → Addr) (L : List Sec) (a : Option Addr) (c : Nat) (t : ByteArray) (w : World) (hc : L.length ≤ c) (hb : ∀ s ∈ L, s.ed.length ≤ 140737488355328) (hz : ∀ s ∈ L, ∀ e ∈ s.ed, e.2.size ≤ 140737488355328) (hm : Mx w) (hT : Tb w) (hQ : SeqAt w) (he : Sents w A) (ha : XA w a L) :
    Calls Tryz.prog 13 #[.agg #[.slice a L.length c], .string t] w fun e w' => GoChain A w.heap.size w' (chainF L t) e ∧ Below w.heap.size w w' := by
  obtain ⟨w0, hw0⟩ : ∃ w0, w0 = w.alloc (.cells #[.slice a L.length c] 24) := ⟨_, rfl⟩
  have hB0 : Below w.heap.size w w0 := by rw [hw0]; exact (Below.refl _ _).alloc (Nat.le_refl _) _
  have hX0 : w0.heap[w.heap.size]? = some (.cells #[.slice a L.length c] 24 (0, 0)) := by rw [hw0]; exact heap_alloc_new w _
  have hs0 : w0.heap.size = w.heap.size + 1 := by rw [hw0]; simp
  have HXW : Hid (∀ W, Below w0.heap.size w0 W → W.cell? ⟨w.heap.size, 0, none⟩ = some (.slice a L.length c) ∧ W.cell? ⟨7, 0, none⟩ = some (.iface 185 (.pointer (some (A 7)))) ∧ W.cell? ⟨0, 0, none⟩ = some (.iface 185 (.pointer (some (A 2))))) := hid0 (fun W hW => by
    have hr := (hW.block w.heap.size (by omega)).trans hX0
    exact ⟨by rw [cell_of_row _ _ _ _ _ _ hr]; rfl, ((he.below hB0).below hW).c7, ((he.below hB0).below hW).c2⟩)
  have HCk := hid0 (check_any entE A L a c w0 hc hb (hm.below hB0) (he.below hB0) (ha.later hB0) hz (fun x W hx hW => entry_any A x W hx ((hQ.later hB0).later hW) ((he.below hB0).below hW)))
  have HCa : Hid (∀ W, Below w0.heap.size w0 W → Calls Tryz.prog 29 #[.string t] W fun e w' => e = .returned (canE A (tagF t.data.toList)) ∧ Below W.heap.size W w') := hid0 (fun W hW => canon_any A t W ((hm.below hB0).below hW) ((hT.below hB0).below hW) ((he.below hB0).below hW))
  have HPo : Hid (L.length ≤ 500 → ∀ x W, Gd x → Below w0.heap.size w0 W → Calls Tryz.prog 30 #[.agg #[.slice a L.length c], .string x] W fun e w' => e = .returned (.string (parL L x)) ∧ Below W.heap.size W w') := hid0 (fun h5 x W hx hW => parentOf_any L a c x W (by omega) (by have := hx.size; omega) hx.last ((ha.later hB0).later hW))
  have HB0 := hid0 hB0
  obtain ⟨x0, x1, x2⟩ := HXW.out w0 (Below.refl _ _)
  have hfold := hw0.symm
  have hsz : w.heap.size ≤ w0.heap.size := by omega
  clear hw0 hB0 hX0 hs0 hm hT hQ he ha hb hz hc
  obtain ⟨R, hR⟩ : ∃ R, R = chainF L t := ⟨_, rfl⟩
  rw [← hR]
  unfold chainF at hR
  cases hk : chkE entE L with
  | some i =>
    rw [hk] at hR HCk
    simp only [errO] at hR HCk
    subst hR
    clear hk HPo HCa
    go_enter Tryz.func13, Tryz.ntmps13
    go_wp2_with (first
      | (go_at_call 28; refine HCk.out.mono ?_; rintro e w1 ⟨rfl, hb1⟩; have HB1 := hid0 (Below.later HB0.out hb1); clear hb1)
      | fail)
    go_returns
    exact ⟨rfl, HB1.out⟩
  | none =>
    have h5 : L.length ≤ 500 := by
      unfold chkE at hk
      split at hk
      · cases hk
      · omega
    have HP := hid0 (HPo.out h5)
    have HG := hid0 (fun (x : ByteArray) (hx : Gd x) => gd_par hk hx)
    rw [hk] at hR HCk
    simp only [errO] at hR HCk
    clear hk HPo
    cases hq : tagF t.data.toList with
    | none =>
      rw [hq] at hR HCa
      simp only [canE] at hR HCa
      subst hR
      clear hq HP HG
      go_enter Tryz.func13, Tryz.ntmps13
      go_wp2_with (first
        | (go_at_call 28; refine HCk.out.mono ?_; rintro e w1 ⟨rfl, hb1⟩; have HB1 := hid0 hb1; clear hb1)
        | (go_at_call 29; refine (HCa.out _ HB1.out).mono ?_; rintro e w2 ⟨rfl, hb2⟩; have HB2 := hid0 (Below.later HB0.out (Below.later HB1.out hb2)); clear hb2)
        | fail)
      go_returns
      exact ⟨rfl, HB2.out⟩
    | some x =>
      rw [hq] at hR HCa
      simp only [canE] at hR HCa
      have HGx := hid0 (gd_tag hq)
      have HR := hid0 hR
      obtain ⟨i0, hi, hz0, hz1, hz2⟩ := info_parts infoStr
      clear hq hR
      generalize strOf x = X at *
      go_enter Tryz.func13, Tryz.ntmps13
      go_wp2_with (first
        | (go_at_call 28; refine HCk.out.mono ?_; rintro e w1 ⟨rfl, hb1⟩; have HB1 := hid0 hb1; clear hb1)
        | (go_at_call 29; refine (HCa.out _ HB1.out).mono ?_; rintro e w2 ⟨rfl, hb2⟩; have HB2 := hid0 (Below.later HB1.out hb2); clear hb2)
        | fail)
      have HO0 : Hid (OwnS (w2.alloc (.cells #[.string X] 9)) w0.heap.size (.slice (some ⟨w2.heap.size, 0, none⟩) 1 1) [X]) := hid0 (by
        have h0 := World.ownsRow_lit (base := w0.heap.size) (e := 9) (size := 1) w2 #[.string X] 1 HB2.out.size (by unfold maxLen; omega) rfl
        simpa [OwnS, cellsS] using h0)
      have HB3 := hid0 (HB2.out.alloc HB2.out.size (.cells #[.string X] 9))
      go_loopw [7, 9] (fun t7 v wr => ∃ (f : Nat) (ch : List ByteArray) (y : ByteArray), t7 = .string y ∧ ch.length + f = 18 ∧ ch.length ≤ 16 ∧ Hid (R = chainGo L f ch y) ∧ Hid (Gd y) ∧ Hid (OwnS wr w0.heap.size v ch) ∧ Hid (Below w0.heap.size w0 wr)) (fun _ v _ => 17 - lenOf v)
      case atStart => exact ⟨17, [X], X, rfl, rfl, by simp, HR, HGx, HO0, HB3⟩
      case round =>
        clear HO0 HB3 HB1 HB2 HR HGx HCk HCa
        obtain ⟨f, ch, y, rfl, hf, h16, HRr, HGy, HO, HB⟩ := hrel
        obtain ⟨av, cap, rfl, hsa, _⟩ := HO.out.sa
        obtain ⟨f, rfl⟩ : ∃ g, f = g + 1 := ⟨f - 1, by omega⟩
        obtain ⟨z0, z1, z2⟩ := HXW.out wr HB.out
        have hstep := HRr.out
        rw [chainGo] at hstep
        clear HRr
        cases hy : (y.toList == [114, 111, 111, 116]) with
        | true =>
          rw [hy, if_pos rfl] at hstep
          have HV := hid0 hstep
          clear hstep
          go_wp2
          go_returns
          refine ⟨?_, Below.later HB0.out HB.out⟩
          rw [HV.out]
          exact ⟨_, rfl, HO.out.base' hsz⟩
        | false =>
          rw [hy, if_neg (by simp)] at hstep
          have HPx := hid0 (fun W hW => HP.out y W HGy.out hW)
          have HGn := hid0 (HG.out y HGy.out)
          generalize parL L y = nx at *
          have HCo := hid0 (fun W (hW : Below wr.heap.size wr W) => containsS_any ch av cap nx W (by omega) (hsa.below hW))
          clear hsa
          cases hcn : Lib.containsS ch nx with
          | true =>
            rw [hcn, if_pos rfl] at hstep
            rw [hcn] at HCo
            have HV := hid0 hstep
            clear hstep hcn
            go_wp2_with (first
                | (go_at_call 30; refine (HPx.out _ HB.out).mono ?_; rintro e w3 ⟨rfl, hb3⟩; have HW3 := hid0 hb3; have HB3 := hid0 (Below.later HB.out hb3); obtain ⟨u0, u1, u2⟩ := HXW.out w3 HB3.out; clear hb3)
                | (go_at_call 31; refine (HCo.out _ HW3.out).mono ?_; rintro e w4 ⟨rfl, hw4⟩; have hw5 := hw4.symm; subst hw5)
                | fail)
            go_region
            go_wp2
            go_returns
            exact ⟨by rw [HV.out]; rfl, Below.later HB0.out (by have := HB3.out; go_grown)⟩
          | false =>
            rw [hcn, if_neg (by simp)] at hstep
            rw [hcn] at HCo
            by_cases h6 : ch.length = 16
            · rw [if_pos h6] at hstep
              have h6I : (ch.length : Int) = 16 := by omega
              have HV := hid0 hstep
              clear hstep hcn h6
              go_wp2_with (first
                | (go_at_call 30; refine (HPx.out _ HB.out).mono ?_; rintro e w3 ⟨rfl, hb3⟩; have HW3 := hid0 hb3; have HB3 := hid0 (Below.later HB.out hb3); obtain ⟨u0, u1, u2⟩ := HXW.out w3 HB3.out; clear hb3)
                | (go_at_call 31; refine (HCo.out _ HW3.out).mono ?_; rintro e w4 ⟨rfl, hw4⟩; have hw5 := hw4.symm; subst hw5)
                | fail)
              go_region
              go_wp2
              go_returns
              exact ⟨by rw [HV.out]; rfl, Below.later HB0.out (by have := HB3.out; go_grown)⟩
            · rw [if_neg h6] at hstep
              have h6I : ¬ (ch.length : Int) = 16 := by omega
              have HV := hid0 hstep
              have HOW : Hid (∀ W, Below wr.heap.size wr W → OwnS W w0.heap.size (.slice av ch.length cap) ch) := hid0 (fun W hW => HO.out.later' hW)
              clear hstep hcn HO
              go_wp2_with (first
                | (go_at_call 30; refine (HPx.out _ HB.out).mono ?_; rintro e w3 ⟨rfl, hb3⟩; have HW3 := hid0 hb3; have HB3 := hid0 (Below.later HB.out hb3); obtain ⟨u0, u1, u2⟩ := HXW.out w3 HB3.out; clear hb3)
                | (go_at_call 31; refine (HCo.out _ HW3.out).mono ?_; rintro e w4 ⟨rfl, hw4⟩; have hw5 := hw4.symm; subst hw5)
                | (at_builtin; refine wpList_append_own _ rfl _ _ 28 rfl w0.heap.size 9 i0 (.string ⟨#[]⟩) 1 16 Tryz.underlying28 hi hz0 hz1 hz2 rfl (by decide) _ _ _ rfl (World.ownsRow.alloc (HOW.out _ HW3.out) _) ⟨_, 0, none⟩ 1 1 [.string nx] rfl rfl (cell_one_new _ _ _) ?c2b ?c3b ?c4b ?c5b ?_)
                | fail)
              case c2b => simp [Value.oneCell']
              case c3b => unfold maxLen; omega
              case c4b => omega
              case c5b => have := HB3.out.size; simp; omega
              intro v2 w4 hown' hgrow _
              obtain ⟨g1, g2⟩ := owns_snoc (base := w0.heap.size) (L := ch) (c := nx) (n := ch.length) rfl (HOW.out _ HW3.out) hown' hgrow HB3.out (Nat.le_refl _)
              have HO4 := hid0 g1
              have HB4 := hid0 g2
              obtain ⟨av2, cap2, rfl, _⟩ := g1.sa
              clear hown' hgrow g1 g2 HOW HB3 HW3
              go_wp2
              go_roundw
              case rel => exact ⟨f, ch ++ [nx], nx, rfl, by simp; omega, by simp; omega, HV, HGn, HO4, HB4⟩
              case measure => simp [lenOf]; omega
end Go.Proofs.YtlnejmmhhmmomaaGreatDoor
namespace Go.Proofs.YtlnejmmhhmmomaaGreatDoor
open Go.RowKit Go.Shelf Go.Lib
def markB : ByteArray := ⟨#[109, 97, 114, 107]⟩
def cellsE (l : List (Bool × ByteArray)) : List Value := l.flatMap fun r => [.bool r.1, .string r.2]
theorem cellsE_length (l : List (Bool × ByteArray)) : (cellsE l).length = l.length * 2 := by
  induction l with
  | nil => rfl
  | cons u l ih => rw [cellsE, List.flatMap_cons, List.length_append, List.length_cons]; rw [cellsE] at ih; rw [ih]; simp; omega
theorem cellsE_append (l m : List (Bool × ByteArray)) : cellsE (l ++ m) = cellsE l ++ cellsE m := by simp [cellsE]
theorem cellsE_at (l : List (Bool × ByteArray)) : ∀ (k : Nat) (h : k < l.length), (cellsE l)[k * 2]? = some (.bool l[k].1) ∧ (cellsE l)[k * 2 + 1]? = some (.string l[k].2) := by
  induction l with
  | nil => intro k h; simp at h
  | cons u l ih =>
    intro k h
    have e : cellsE (u :: l) = .bool u.1 :: .string u.2 :: cellsE l := rfl
    cases k with
    | zero => rw [e]; simp
    | succ k =>
      have := ih k (by simpa using h)
      rw [e, show (k + 1) * 2 = k * 2 + 1 + 1 by omega, show k * 2 + 1 + 1 + 1 = (k * 2 + 1) + 1 + 1 by omega]
      simpa using this
theorem infoEdit : (Tryz.prog.info? 42).map (fun i => (i.zero, i.size, i.bytes)) = some (some (.agg #[.bool false, .string ⟨#[]⟩]), 2, 24) := by kernel_rfl
theorem infoSec : (Tryz.prog.info? 40).map (fun i => (i.zero, i.size, i.bytes)) = some (some (.agg #[.string ⟨#[]⟩, .string ⟨#[]⟩, .slice none 0 0]), 3, 56) := by kernel_rfl
/-- Edits in a row of one's own. -/
def OwnE (w : World) (base : Nat) (v : Value) (n : Nat) (l : List (Bool × ByteArray)) : Prop := w.ownsRow base 42 2 v n (cellsE l)
def marksE (j : Nat) : List (Bool × ByteArray) := List.replicate j (false, markB)
theorem marksE_succ (j : Nat) : marksE (j + 1) = marksE j ++ [(false, markB)] := by unfold marksE; rw [List.replicate_succ']
/-- A section, and where its edits lie. -/
structure SecAt where
  s : Sec
  blk : Nat
  cap : Nat
def cellsX (S : List SecAt) : List Value := S.flatMap fun x => [.string x.s.loc, .string x.s.par, .slice (some ⟨x.blk, 0, none⟩) x.s.ed.length x.cap]
def markX : Nat → List Value
  | 0 => []
  | m + 1 => markX m ++ [.string markB, .string ⟨#[]⟩, .slice none 0 0]
theorem cellsX_length (S : List SecAt) : (cellsX S).length = S.length * 3 := by
  induction S with
  | nil => rfl
  | cons u l ih =>
    have e : cellsX (u :: l) = .string u.s.loc :: .string u.s.par :: .slice (some ⟨u.blk, 0, none⟩) u.s.ed.length u.cap :: cellsX l := rfl
    rw [e]; simp [ih]; omega
theorem cellsX_append (l m : List SecAt) : cellsX (l ++ m) = cellsX l ++ cellsX m := by simp [cellsX]
theorem cellsX_at (S : List SecAt) : ∀ (k : Nat) (h : k < S.length), (cellsX S)[k * 3]? = some (.string S[k].s.loc) ∧ (cellsX S)[k * 3 + 1]? = some (.string S[k].s.par) ∧ (cellsX S)[k * 3 + 2]? = some (.slice (some ⟨S[k].blk, 0, none⟩) S[k].s.ed.length S[k].cap) := by
  induction S with
  | nil => intro k h; simp at h
  | cons u l ih =>
    intro k h
    have e : cellsX (u :: l) = .string u.s.loc :: .string u.s.par :: .slice (some ⟨u.blk, 0, none⟩) u.s.ed.length u.cap :: cellsX l := rfl
    cases k with
    | zero => rw [e]; simp
    | succ k =>
      have := ih k (by simpa using h)
      rw [e, show (k + 1) * 3 = k * 3 + 1 + 1 + 1 by omega, show k * 3 + 1 + 1 + 1 + 1 = (k * 3 + 1) + 1 + 1 + 1 by omega, show k * 3 + 1 + 1 + 1 + 2 = (k * 3 + 2) + 1 + 1 + 1 by omega]
      simpa using this
theorem markX_length : ∀ m, (markX m).length = m * 3
  | 0 => rfl
  | m + 1 => by rw [markX, List.length_append, markX_length m]; simp; omega
theorem markX_at : ∀ (m k : Nat), k < m → (markX m)[k * 3]? = some (.string markB)
  | 0, _, h => absurd h (Nat.not_lt_zero _)
  | m + 1, k, h => by
    rw [markX]
    by_cases e : k < m
    · rw [List.getElem?_append_left (by rw [markX_length]; omega)]
      exact markX_at m k e
    · have : k = m := by omega
      subst this
      rw [List.getElem?_append_right (by rw [markX_length]; omega), markX_length, Nat.sub_self]
      rfl
theorem own_blk {W W' : World} {lo t s n : Nat} {v : Value} {xs : List Value} (h : W.ownsRow lo t s v n xs) (hb : ∀ k, v.ownBlock = some k → W'.heap[k]? = W.heap[k]?) : W'.ownsRow lo t s v n xs := by
  refine ⟨h.1, ?_⟩
  rcases h.2 with h2 | ⟨g, cap, cur0, hv, hg, hr, r⟩
  · exact .inl h2
  · exact .inr ⟨g, cap, cur0, hv, hg, (hb g (by rw [hv]; rfl)).trans hr, r⟩
theorem owns_lower {w : World} {base base' : Nat} {e : TypeId} {size : Nat} {v : Value} {n : Nat} {xs : List Value} (h : w.ownsRow base e size v n xs) (hb : base' ≤ base) : w.ownsRow base' e size v n xs :=
  ⟨h.1, h.2.imp id (fun ⟨g, cap, cur, h1, h2, h3⟩ => ⟨g, cap, cur, h1, Nat.le_trans hb h2, h3⟩)⟩
/-- Sections of one's own, m marks behind them. -/
structure Giv (w : World) (lo : Nat) (v : Value) (S : List SecAt) (m : Nat) : Prop where
  row : w.ownsRow lo 40 3 v (S.length + m) (cellsX S ++ markX m)
  ed : ∀ x ∈ S, OwnE w lo (.slice (some ⟨x.blk, 0, none⟩) (x.s.ed.length + 64) x.cap) (x.s.ed.length + 64) (x.s.ed ++ marksE 64)
  ne : ∀ x ∈ S, v.ownBlock ≠ some x.blk
  pw : S.Pairwise fun x y => x.blk ≠ y.blk
theorem Giv.keep {w w' : World} {lo : Nat} {v : Value} {S : List SecAt} {m : Nat} (h : Giv w lo v S m) (hb : ∀ k, lo ≤ k → k < w.heap.size → w'.heap[k]? = w.heap[k]?) : Giv w' lo v S m :=
  ⟨own_blk h.row (fun k hk => hb k (World.ownsRow.lt h.row k hk).1 (World.ownsRow.lt h.row k hk).2), fun x hx => own_blk (h.ed x hx) (fun k hk => hb k (World.ownsRow.lt (h.ed x hx) k hk).1 (World.ownsRow.lt (h.ed x hx) k hk).2), h.ne, h.pw⟩
/-- The sections' row has grown: in its place, or into a new row. -/
theorem Giv.grown {w wa w' : World} {lo : Nat} {v v' : Value} {S S' : List SecAt} {m m' : Nat} (h : Giv w lo v S m) (hwa : ∀ k, lo ≤ k → k < w.heap.size → wa.heap[k]? = w.heap[k]?) (hg : wa.grownBy w' v.ownBlock)
    (hrow : w'.ownsRow lo 40 3 v' (S'.length + m') (cellsX S' ++ markX m')) (hat : v'.ownBlock = v.ownBlock ∨ ∃ g, v'.ownBlock = some g ∧ wa.heap.size ≤ g)
    (hS : ∀ x ∈ S', x ∈ S ∨ (OwnE wa lo (.slice (some ⟨x.blk, 0, none⟩) (x.s.ed.length + 64) x.cap) (x.s.ed.length + 64) (x.s.ed ++ marksE 64) ∧ w.heap.size ≤ x.blk)) (hp : S' = S ∨ ∃ x, S' = S ++ [x] ∧ w.heap.size ≤ x.blk) : Giv w' lo v' S' m' := by
  have key : ∀ x ∈ S', OwnE wa lo (.slice (some ⟨x.blk, 0, none⟩) (x.s.ed.length + 64) x.cap) (x.s.ed.length + 64) (x.s.ed ++ marksE 64) ∧ v.ownBlock ≠ some x.blk := fun x hx => by
    rcases hS x hx with h1 | ⟨h1, h2⟩
    · have l := World.ownsRow.lt (h.ed x h1) x.blk rfl
      exact ⟨own_blk (h.ed x h1) (fun k hk => by cases hk; exact hwa x.blk l.1 l.2), h.ne x h1⟩
    · refine ⟨h1, fun e => ?_⟩
      have := (World.ownsRow.lt h.row x.blk e).2
      omega
  refine ⟨hrow, fun x hx => own_blk (key x hx).1 (fun k hk => by cases hk; exact hg.block x.blk (World.ownsRow.lt (key x hx).1 x.blk rfl).2 (fun e => (key x hx).2 e.symm)), fun x hx => ?_, ?_⟩
  rotate_left
  · rcases hp with rfl | ⟨x, rfl, hx⟩
    · exact h.pw
    · refine List.pairwise_append.2 ⟨h.pw, List.pairwise_singleton _ _, fun y hy z hz => ?_⟩
      rw [List.mem_singleton] at hz
      subst hz
      have := (World.ownsRow.lt (h.ed y hy) y.blk rfl).2
      omega
  rcases hat with e | ⟨g, e, hg'⟩
  · rw [e]; exact (key x hx).2
  · rw [e]
    intro e2
    have := (World.ownsRow.lt (key x hx).1 x.blk rfl).2
    cases e2
    omega
theorem Giv.ea {w : World} {lo : Nat} {v : Value} {S : List SecAt} {m : Nat} (h : Giv w lo v S m) (x : SecAt) (hx : x ∈ S) : EA w (some ⟨x.blk, 0, none⟩) (x.s.ed ++ marksE 64) := ⟨fun k hk => by
  have h0 := h.ed x hx
  have hl : (x.s.ed ++ marksE 64).length = x.s.ed.length + 64 := by rw [List.length_append, marksE, List.length_replicate]
  have c := cellsE_at _ k hk
  refine ⟨x.blk, 0, rfl, (World.ownsRow.lt h0 x.blk rfl).2, ?_, ?_⟩
  · rw [Nat.zero_add, World.ownsRow.cellAt h0 _ (by omega)]; exact c.1
  · rw [Nat.zero_add, World.ownsRow.cellAt h0 _ (by omega)]; exact c.2⟩
theorem EA.front {w : World} {a : Option Addr} {L M : List (Bool × ByteArray)} (h : EA w a (L ++ M)) : EA w a L := ⟨fun k hk => by
  obtain ⟨b, off, e, h1, h2, h3⟩ := h.at' k (by simp; omega)
  rw [List.getElem_append_left hk] at h2 h3
  exact ⟨b, off, e, h1, h2, h3⟩⟩
theorem Giv.xa {w : World} {lo g n cap m : Nat} {S : List SecAt} (h : Giv w lo (.slice (some ⟨g, 0, none⟩) n cap) S m) (hn : n = S.length + m) : XA w (some ⟨g, 0, none⟩) (S.map (·.s)) := ⟨fun k hk => by
  subst hn
  have hk2 : k < S.length := by simpa using hk
  obtain ⟨c0, c1, c2⟩ := cellsX_at S k hk2
  have e : (S.map (·.s))[k] = S[k].s := by simp
  have hl := cellsX_length S
  rw [e]
  refine ⟨g, 0, some ⟨S[k].blk, 0, none⟩, S[k].cap, rfl, (World.ownsRow.lt h.row g rfl).2, ?_, ?_, ?_, (h.ea S[k] (List.getElem_mem hk2)).front⟩
  · rw [Nat.zero_add, World.ownsRow.cellAt h.row _ (by omega), List.getElem?_append_left (by omega)]; exact c0
  · rw [Nat.zero_add, World.ownsRow.cellAt h.row _ (by omega), List.getElem?_append_left (by omega)]; exact c1
  · rw [Nat.zero_add, World.ownsRow.cellAt h.row _ (by omega), List.getElem?_append_left (by omega)]; exact c2⟩
end Go.Proofs.YtlnejmmhhmmomaaGreatDoor
namespace Go.Proofs.YtlnejmmhhmmomaaGreatDoor
open Go.RowKit Go.Shelf Go.Lib
set_option maxRecDepth 10000 in
set_option maxHeartbeats 800000 in
theorem sameS (l : List ByteArray) (a b : Option Addr) (ca cb : Nat) (w : World) (hl : l.length ≤ 1000000000) (ha : SA w a l) (hb : SA w b l) :
    Calls Tryz.prog 8 #[.slice a l.length ca, .slice b l.length cb] w fun e w' => e = .returned (.bool true) ∧ ∃ n, w' = w.drewN n := by
  have HA := hid0 ha
  have HB := hid0 hb
  clear ha hb
  go_enter Tryz.func8, Tryz.ntmps8
  go_wp2
  go_loopw [5] (fun i wr => ∃ k : Nat, k ≤ l.length ∧ i = .int .i64 (k : Int) ∧ ∃ n, wr = w.drewN n) (fun i _ => l.length - (intOf i).toNat)
  case atStart => exact ⟨0, Nat.zero_le _, rfl, 0, rfl⟩
  case round =>
    obtain ⟨k, hk, rfl, nd, rfl⟩ := hrel
    by_cases hlt : k < l.length
    · obtain ⟨b1, o1, rfl, _, d1⟩ := HA.out.at' k hlt
      obtain ⟨b2, o2, rfl, _, d2⟩ := HB.out.at' k hlt
      have hkI : (k : Int) < (l.length : Int) := by omega
      have hkI0 : (0 : Int) ≤ (k : Int) := by omega
      generalize l[k] = s at *
      have hself : (s.toList == s.toList) = true := by simp
      go_wp2
      go_quiet ((fail))
      go_wp2
      go_roundw
      case rel => exact ⟨k + 1, by omega, by go_num, _, rfl⟩
      case measure => simp [intOf]; omega
    · have hkI : ¬ (k : Int) < (l.length : Int) := by omega
      go_wp2
      go_ret
      exact ⟨rfl, nd, rfl⟩
set_option maxRecDepth 10000 in
set_option maxHeartbeats 400000 in
theorem edits_any (l : List (Bool × ByteArray)) (a b : Option Addr) (ca cb : Nat) (w : World) (hl : l.length ≤ 1000000000) (ha : EA w a l) (hb : EA w b l) :
    Calls Tryz.prog 22 #[.slice a l.length ca, .slice b l.length cb] w fun e w' => e = .returned (.bool true) ∧ ∃ q, w' = w.drewN q := by
  have HA := hid0 ha
  have HB := hid0 hb
  clear ha hb
  go_enter Tryz.func22, Tryz.ntmps22
  go_wp2
  go_loopw [5] (fun i wr => ∃ k q : Nat, k ≤ l.length ∧ i = .int .i64 (k : Int) ∧ wr = w.drewN q) (fun i _ => l.length - (intOf i).toNat)
  case atStart => exact ⟨0, 0, Nat.zero_le _, rfl, rfl⟩
  case round =>
    obtain ⟨k, q, hk, rfl, rfl⟩ := hrel
    by_cases hlt : k < l.length
    · obtain ⟨b1, o1, rfl, _, c0, c1⟩ := HA.out.at' k hlt
      obtain ⟨b2, o2, rfl, _, d0, d1⟩ := HB.out.at' k hlt
      generalize l[k] = u at *
      clear HA HB
      go_wp2
      go_quiet ((fail))
      go_wp2
      go_roundw
      case rel => exact ⟨k + 1, _, hlt, by go_num, rfl⟩
      case measure => simp [intOf]; omega
    · have hk2 : ¬ (k : Int) < (l.length : Int) := by omega
      clear HA HB
      go_wp2
      go_ret
      exact ⟨rfl, q, rfl⟩
theorem app_nilE (w : World) (ty : TypeId) : (Builtin.append_ #[38, 38] ty #[.slice none 0 0, .slice none 0 0]).run Tryz.prog w = .ok (.slice none 0 0) w := by
  go_simp
theorem news_E {w : World} {ad : Addr} {L : List (Bool × ByteArray)} (ha : EA w (some ad) L) : ∀ j u, (cellsE L)[j]? = some u → w.cell? (ad.add j) = some u := by
  intro j u hu
  have hj : j < L.length * 2 := by have := (List.getElem?_eq_some_iff.1 hu).1; rwa [cellsE_length] at this
  obtain ⟨b, off, e, _, h1, h2⟩ := ha.at' (j / 2) (by omega)
  cases e
  rw [Addr.add_mid]
  obtain ⟨q0, q1⟩ := cellsE_at L (j / 2) (by omega)
  have h3 : j % 2 = 0 ∨ j % 2 = 1 := by omega
  rcases h3 with h3 | h3
  · have ej : j = j / 2 * 2 := by omega
    rw [ej] at hu
    rw [q0] at hu
    rw [show off + j = off + j / 2 * 2 by omega, h1]
    exact hu
  · have ej : j = j / 2 * 2 + 1 := by omega
    rw [ej] at hu
    rw [q1] at hu
    rw [show off + j = off + j / 2 * 2 + 1 by omega, h2]
    exact hu
/-- At a step of a region that draws its order: append of edits handed in onto nothing. -/
theorem step_spreadE {ops : Array Oper} {op : Oper} {a : Act} {w : World} {K : Act → World → Prop} {Q : Exit → Act → World → Prop} {E : Prop} (hgd : op.guard = none) (s x : Operand) (ho : op.op = .call { callee := .builtin .append, args := #[s, x], argTypes := #[38, 38] })
    (aN : Option Addr) (L : List (Bool × ByteArray)) (cN base : Nat) (hs : a.eval s = .slice none 0 0) (hx : a.eval x = .slice aN L.length cN) (hnil : aN = none → cN = 0) (ha : EA w aN L) (hl : L.length ≤ 1000000000) (hb : base ≤ w.heap.size)
    (h : ∀ v' w', OwnE w' base v' L.length L → w.grownBy w' none → K (a.put op.dst v') w') : if Region.wanted op (yielded ops a.tmps) = true then Oper.wp Tryz.prog op a w K Q else E := by
  have hw : Region.wanted op (yielded ops a.tmps) = true := by simp [Region.wanted, hgd]
  rw [if_pos hw]
  obtain ⟨i0, hi, hz0, hz1, hz2⟩ := info_parts infoEdit
  cases aN with
  | none =>
    have hL : L = [] := by
      cases L with
      | nil => rfl
      | cons y r => obtain ⟨b, off, e, _⟩ := ha.at' 0 (by simp); cases e
    subst hL
    have hc := hnil rfl
    subst hc
    have hr := app_nilE w op.type
    unfold Oper.wp execOp
    simp only [ho, resolve, invoke, builtin, Sem.run_bind, Sem.run_pure, Result.andThen_ok, List.map_toArray, List.map_cons, List.map_nil, hs, hx, List.length_nil, hr]
    exact h _ _ (World.ownsRow_nil _ _ _ _) ⟨rfl, rfl, rfl, Nat.le_refl _, fun _ _ _ => rfl⟩
  | some ad =>
    refine wp_append_own w s x 38 ho base 42 i0 (.agg #[.bool false, .string ⟨#[]⟩]) 2 24 Tryz.underlying38 hi hz0 hz1 hz2 rfl (by decide) (.slice none 0 0) 0 [] hs (World.ownsRow_nil _ _ _ _) ad L.length cN (cellsE L) hx (cellsE_length L) (news_E ha) (fun u hu => by simp only [cellsE, List.mem_flatMap, List.mem_cons, List.not_mem_nil, or_false] at hu; obtain ⟨y, _, rfl | rfl⟩ := hu <;> rfl) (by unfold maxLen; omega) (by omega) hb (fun v' w' h1 h2 _ => h v' w' (by rw [Nat.zero_add] at h1; exact h1) h2)
end Go.Proofs.YtlnejmmhhmmomaaGreatDoor
namespace Go.Proofs.YtlnejmmhhmmomaaGreatDoor
open Go.RowKit Go.Shelf Go.Lib
/-- Sections in memory; a list of edits that is none has no room. -/
structure XB (w : World) (a : Option Addr) (L : List Sec) : Prop where
  at' : ∀ k (h : k < L.length), ∃ b off ae ce, a = some ⟨b, off, none⟩ ∧ b < w.heap.size ∧ w.cell? ⟨b, off + k * 3, none⟩ = some (.string L[k].loc) ∧ w.cell? ⟨b, off + k * 3 + 1, none⟩ = some (.string L[k].par) ∧ w.cell? ⟨b, off + k * 3 + 2, none⟩ = some (.slice ae L[k].ed.length ce) ∧ EA w ae L[k].ed ∧ (ae = none → ce = 0)
theorem XB.xa {w : World} {a : Option Addr} {L : List Sec} (h : XB w a L) : XA w a L := ⟨fun k hk => by
  obtain ⟨b, off, ae, ce, h1, h2, h3, h4, h5, h6, _⟩ := h.at' k hk
  exact ⟨b, off, ae, ce, h1, h2, h3, h4, h5, h6⟩⟩
theorem XB.later {w w' : World} {a : Option Addr} {L : List Sec} (h : XB w a L) (hb : Below w.heap.size w w') : XB w' a L := ⟨fun k hk => by
  obtain ⟨b, off, ae, ce, rfl, hl, h0, h1, h2, h3, h4⟩ := h.at' k hk
  exact ⟨b, off, ae, ce, rfl, Nat.lt_of_lt_of_le hl hb.size, (hb.cell (p := ⟨b, off + k * 3, none⟩) hl).trans h0, (hb.cell (p := ⟨b, off + k * 3 + 1, none⟩) hl).trans h1, (hb.cell (p := ⟨b, off + k * 3 + 2, none⟩) hl).trans h2, h3.later hb, h4⟩⟩
/-- The bundle handed in, the one that is answered, the one that is made. -/
structure OS (W : World) (X : Nat) (sv v : Value) : Prop where
  box : W.heap[X]? = some (.cells #[sv] 24 (0, 0))
  res : W.heap[X + 1]? = some (.cells #[.slice none 0 0] 24 (0, 0))
  c : W.heap[X + 1 + 1]? = some (.cells #[v] 24 (0, 0))
theorem OS.cells {W : World} {X : Nat} {sv v : Value} (h : OS W X sv v) : W.cell? ⟨X, 0, none⟩ = some sv ∧ W.cell? ⟨X + 1 + 1, 0, none⟩ = some v ∧ W.frozen? ⟨X + 1 + 1, 0, none⟩ = false ∧ W.cell? ⟨X + 1, 0, none⟩ = some (.slice none 0 0) ∧ W.frozen? ⟨X + 1, 0, none⟩ = false :=
  ⟨by rw [cell_of_row _ _ _ _ _ _ h.box]; rfl, by rw [cell_of_row _ _ _ _ _ _ h.c]; rfl, by simp [World.frozen?, h.c], by rw [cell_of_row _ _ _ _ _ _ h.res]; rfl, by simp [World.frozen?, h.res]⟩
theorem OS.keep {W W' : World} {X : Nat} {sv v : Value} (h : OS W X sv v) (hk : ∀ k, k < X + 3 → W'.heap[k]? = W.heap[k]?) : OS W' X sv v :=
  ⟨(hk X (by omega)).trans h.box, (hk (X + 1) (by omega)).trans h.res, (hk (X + 1 + 1) (by omega)).trans h.c⟩
theorem OS.set {W : World} {X : Nat} {sv v : Value} (h : OS W X sv v) (u : Value) : OS (W.setCell ⟨X + 1 + 1, 0, none⟩ u) X sv u :=
  ⟨(Below.heap_setCell W _ u X (by simp; omega)).trans h.box, (Below.heap_setCell W _ u (X + 1) (by simp)).trans h.res, heap_setCell_same W _ 0 _ _ u h.c⟩
theorem cell_al {w : World} {p : Addr} {v : Value} (h : w.cell? p = some v) (o : Obj) : (w.alloc o).cell? p = some v := (((Below.refl w.heap.size w).alloc (Nat.le_refl _) o).cell (World.block_lt_of_cell? w p h)).trans h
theorem own_slice {w : World} {lo t s n : Nat} {v : Value} {xs : List Value} (h : w.ownsRow lo t s v n xs) : ∃ a cap, v = .slice a n cap := by
  rcases h.2 with ⟨rfl, rfl⟩ | ⟨g, cap, cur, rfl, _⟩
  · exact ⟨none, 0, rfl⟩
  · exact ⟨_, cap, rfl⟩
theorem below_grown {w w' : World} (h : w.grownBy w' none) : Below w.heap.size w w' := (Below.refl _ _).grown h (Nat.le_refl _) (fun k hk => by cases hk)
theorem below_grownD {w w' : World} (h : w.drew.grownBy w' none) : Below w.heap.size w w' := by
  have := below_grown h
  exact ⟨this.os, this.tape, this.output, this.size, this.block⟩
theorem use_key {G T : Prop} (main : Hid T → G) (cont : T) : G := main cont
theorem own_form {w : World} {base : Nat} {e : TypeId} {size : Nat} {v : Value} {n : Nat} {xs : List Value} (h : w.ownsRow base e size v n xs) (hn : 0 < n) : ∃ g cap, v = .slice (some ⟨g, 0, none⟩) n cap ∧ base ≤ g ∧ g < w.heap.size ∧ n ≤ cap := by
  have h0 := h
  rcases h.2 with ⟨_, h1⟩ | ⟨g, cap, cur, rfl, hb, hr, hc, _⟩
  · omega
  · exact ⟨g, cap, rfl, hb, (World.ownsRow.lt h0 g rfl).2, hc⟩
theorem cell2_new (w : World) (a b : Value) (t : TypeId) : ∀ j u, [a, b][j]? = some u → (w.alloc (.cells #[a, b] t)).cell? ((⟨w.heap.size, 0, none⟩ : Addr).add j) = some u := by
  intro j u h
  rw [Addr.add_lit, cell_of_row _ w.heap.size _ _ _ _ (heap_alloc_new w _), Nat.zero_add]
  simpa using h
theorem lt_of_row {W : World} {k : Nat} {o : Obj} (h : W.heap[k]? = some o) : k < W.heap.size := (Array.getElem?_eq_some_iff.1 h).1
theorem grown_low {w w' : World} {o : Obj} {lo t s n : Nat} {v : Value} {xs : List Value} (ho : w.ownsRow lo t s v n xs) (hg : (w.alloc o).grownBy w' v.ownBlock) (k : Nat) (hk : k < lo) (hw : k < w.heap.size) : w'.heap[k]? = w.heap[k]? :=
  (hg.block k (by simp; omega) (fun e => by have := (World.ownsRow.lt ho k e.symm).1; omega)).trans (Below.heap_alloc w o k hw)
theorem grown_below {B : Nat} {w wr w' : World} {o : Obj} {lo t s n : Nat} {v : Value} {xs : List Value} (hb : Below B w wr) (ho : wr.ownsRow lo t s v n xs) (hg : (wr.alloc o).grownBy w' v.ownBlock) (hB : B ≤ lo) (hw : B ≤ w.heap.size) : Below B w w' :=
  ⟨hg.os.trans hb.os, hg.tape.trans hb.tape, hg.output.trans hb.output, Nat.le_trans hb.size (Nat.le_trans (by simp) hg.size), fun k hk => (grown_low ho hg k (by omega) (by have := hb.size; omega)).trans (hb.block k hk)⟩
/-- A section's own variable. -/
theorem sec_cells {W : World} {B : Nat} {x y z : Value} (h : W.heap[B]? = some (.cells #[x, y, z] 40 (0, 0))) : W.cell? ⟨B, 0, none⟩ = some x ∧ W.cell? ⟨B, 1, none⟩ = some y ∧ W.cell? ⟨B, 2, none⟩ = some z ∧ W.frozen? ⟨B, 2, none⟩ = false :=
  ⟨by rw [cell_of_row _ _ _ _ _ _ h]; rfl, by rw [cell_of_row _ _ _ _ _ _ h]; rfl, by rw [cell_of_row _ _ _ _ _ _ h]; rfl, by simp [World.frozen?, h]⟩
/-- What own leaves. -/
def Owned (L : List Sec) (w : World) (e : Ending) (w' : World) : Prop :=
  ∃ g cap S, e = .returned (.agg #[.slice (some ⟨g, 0, none⟩) L.length cap]) ∧ L.length + 64 ≤ cap ∧ S.map (·.s) = L ∧ Giv w' w.heap.size (.slice (some ⟨g, 0, none⟩) (L.length + 64) cap) S 64 ∧ Below w.heap.size w w'
set_option maxRecDepth 10000 in
set_option maxHeartbeats 3200000 in
theorem own_any (L : List Sec) (a : Option Addr) (c : Nat) (w : World) (hl : L.length ≤ 1000000) (hb : ∀ s ∈ L, s.ed.length ≤ 1000000000) (ha : XB w a L) :
    Calls Tryz.prog 5 #[.agg #[.slice a L.length c]] w fun e w' => Owned L w e w' := by
  obtain ⟨i0, hi, hz0, hz1, hz2⟩ := info_parts infoEdit
  obtain ⟨j0, hj, hy0, hy1, hy2⟩ := info_parts infoSec
  obtain ⟨w0, hw0⟩ : ∃ w0, w0 = ((w.alloc (.cells #[.slice a L.length c] 24)).alloc (.cells #[.slice none 0 0] 24)).alloc (.cells #[.slice none 0 0] 24) := ⟨_, rfl⟩
  obtain ⟨X, hX⟩ : ∃ X, X = w.heap.size := ⟨_, rfl⟩
  have hs0 : w0.heap.size = X + 3 := by rw [hw0]; simp [hX]
  have hB0 : Below w.heap.size w w0 := by rw [hw0]; exact (((Below.refl _ _).alloc (Nat.le_refl _) _).alloc (by simp) _).alloc (by simp; omega) _
  have hK0 : OS w0 X (.slice a L.length c) (.slice none 0 0) := by
    obtain ⟨wa, hwa⟩ : ∃ wa, wa = w.alloc (.cells #[.slice a L.length c] 24) := ⟨_, rfl⟩
    obtain ⟨wb, hwb⟩ : ∃ wb, wb = wa.alloc (.cells #[.slice none 0 0] 24) := ⟨_, rfl⟩
    have sa : wa.heap.size = X + 1 := by rw [hwa]; simp [hX]
    have sb : wb.heap.size = X + 2 := by rw [hwb]; simp [sa]
    have r1 : wa.heap[X]? = some (.cells #[.slice a L.length c] 24 (0, 0)) := by rw [hwa, hX]; exact heap_alloc_new w _
    have r2 : wb.heap[X + 1]? = some (.cells #[.slice none 0 0] 24 (0, 0)) := by rw [hwb, ← sa]; exact heap_alloc_new wa _
    rw [hw0, ← hwa, ← hwb]
    refine ⟨?_, ?_, ?_⟩
    · rw [Below.heap_alloc wb _ X (by omega), hwb, Below.heap_alloc wa _ X (by omega)]; exact r1
    · rw [Below.heap_alloc wb _ (X + 1) (by omega)]; exact r2
    · rw [show X + 1 + 1 = wb.heap.size by omega]; exact heap_alloc_new wb _
  have HK0 := hid0 hK0
  have HB0 := hid0 hB0
  have HS0 := hid0 hs0
  have HA := hid0 ha
  have HBD := hid0 hb
  have HF := hid0 hw0.symm
  have hG0 : Hid (Giv w0 (X + 3) (.slice none 0 0) [] 0) := hid0 ⟨World.ownsRow_nil _ _ _ _, (fun x hx => by cases hx), (fun x hx => by cases hx), .nil⟩
  subst hX
  clear ha hb hB0 hw0 hK0 hs0
  go_enter Tryz.func5, Tryz.ntmps5
  go_wp2
  rw [HF.out]
  clear HF
  go_loopw [4] (fun i wr => ∃ (k : Nat) (v : Value) (S : List SecAt), k ≤ L.length ∧ i = .int .i64 (k : Int) ∧ Hid (OS wr w.heap.size (.slice a L.length c) v) ∧ Hid (S.map (·.s) = L.take k) ∧ Hid (Giv wr (w.heap.size + 3) v S 0) ∧ Hid (Below w.heap.size w wr) ∧ Hid (w.heap.size + 3 ≤ wr.heap.size)) (fun i _ => L.length - (intOf i).toNat)
  case atStart => exact ⟨0, _, [], Nat.zero_le _, rfl, HK0, hid0 rfl, hG0, HB0, hid0 (by rw [HS0.out]; exact Nat.le_refl _)⟩
  case round =>
    clear HK0 hG0 HB0 HS0 w0
    obtain ⟨k, v, S, hk, rfl, HK, HSm, HG, HB, HZ⟩ := hrel
    obtain ⟨wo, hwo⟩ : ∃ wo, wo = wr := ⟨_, rfl⟩
    subst hwo
    by_cases hlt : k < L.length
    · obtain ⟨b, off, ae, ce, rfl, hbl, c0, c1, c2, hea, hnl⟩ := (HA.out.later HB.out).at' k hlt
      obtain ⟨x0, x1, x2, x3, x4⟩ := HK.out.cells
      have hkI : (k : Int) < (L.length : Int) := by omega
      have hkI0 : (0 : Int) ≤ (k : Int) := by omega
      have HEA := hid0 hea
      have HNL := hid0 hnl
      have hed := HBD.out L[k] (List.getElem_mem hlt)
      have HSk : Hid (L.take (k + 1) = L.take k ++ [L[k]]) := hid0 (by rw [List.take_add_one, List.getElem?_eq_getElem hlt]; rfl)
      generalize L[k] = sc at *
      obtain ⟨lo, pa, ed⟩ := sc
      simp only at c0 c1 c2 hed HEA
      clear hea hnl hbl
      have d0 := cell_al c0 (.cells #[.string ⟨#[]⟩, .string ⟨#[]⟩, .slice none 0 0] 40)
      have d1 := cell_al c1 (.cells #[.string ⟨#[]⟩, .string ⟨#[]⟩, .slice none 0 0] 40)
      have d2 := cell_al x0 (.cells #[.string ⟨#[]⟩, .string ⟨#[]⟩, .slice none 0 0] 40)
      go_wp2
      go_region
      obtain ⟨wA, hwA⟩ : ∃ wA, wA = (wo.alloc (.cells #[.string lo, .string pa, .slice none 0 0] 40)).drew := ⟨_, rfl⟩
      have hbA : Below wo.heap.size wo wA := by rw [hwA]; exact ((Below.refl _ _).alloc (Nat.le_refl _) _).drew
      have hrA : wA.heap[wo.heap.size]? = some (.cells #[.string lo, .string pa, .slice none 0 0] 40 (0, 0)) := by rw [hwA]; exact heap_alloc_new wo _
      have hsA : wA.heap.size = wo.heap.size + 1 := by rw [hwA]; simp
      have e0 : wA.cell? ⟨w.heap.size, 0, none⟩ = some (.slice (some ⟨b, off, none⟩) L.length c) := (hbA.cell (World.block_lt_of_cell? wo _ x0)).trans x0
      have e1 : wA.cell? ⟨b, off + k * 3 + 2, none⟩ = some (.slice ae ed.length ce) := (hbA.cell (World.block_lt_of_cell? wo _ c2)).trans c2
      obtain ⟨e2, e3, e4, e5⟩ := sec_cells hrA
      rw [← hwA]
      have HEA1 : Hid (EA wA.drew ae ed) := hid0 (HEA.out.later (hbA.drew))
      have HbA := hid0 hbA
      have HrA := hid0 hrA
      have HsA := hid0 hsA
      clear hwA d0 d1 d2 x0 x1 x2 x3 x4 c0 c1 hbA hrA hsA
      go_wp2
      apply use_key
      case main =>
        intro key
        go_region_law ((refine step_spreadE (by rfl) _ _ (by rfl) ae ed ce wA.heap.size (by rfl) (by rfl) HNL.out HEA1.out (by omega) (by simp) ?_; intro vE w1 hoE hgE; obtain ⟨aV, cV, rfl⟩ := own_slice hoE; have hb1 : Below wA.heap.size wA w1 := below_grownD hgE; have hr1 := (hb1.block wo.heap.size (by have := HsA.out; omega)).trans HrA.out; obtain ⟨f2, f3, f4, f5⟩ := sec_cells hr1; have HO1 := hid0 hoE; have HB1 := hid0 hb1; have HR1 := hid0 hr1; clear hoE hgE hb1 hr1))
        all_goals
          have HbX : Hid (Below wo.heap.size wo (w1.setCell ⟨wo.heap.size, 2, none⟩ (.slice aV ed.length cV))) := hid0 ((Below.later HbA.out HB1.out).setCell (Nat.le_refl _) _)
          have HrX : Hid ((w1.setCell ⟨wo.heap.size, 2, none⟩ (.slice aV ed.length cV)).heap[wo.heap.size]? = some (.cells #[.string lo, .string pa, .slice aV ed.length cV] 40 (0, 0))) := hid0 (heap_setCell_same w1 _ 2 _ _ _ HR1.out)
          have HoX : Hid (OwnE (w1.setCell ⟨wo.heap.size, 2, none⟩ (.slice aV ed.length cV)) (wo.heap.size + 1) (.slice aV ed.length cV) ed.length ed) := hid0 (by
            have hlt1 := HsA.out
            have h1 := own_blk (W' := w1.setCell ⟨wo.heap.size, 2, none⟩ (.slice aV ed.length cV)) HO1.out (fun q hq => by have h2 := (World.ownsRow.lt HO1.out q hq).1; exact Below.heap_setCell w1 _ _ q (by simp; omega))
            rw [hlt1] at h1
            exact h1)
          clear HO1 HB1 HR1 f2 f3 f4 f5
          generalize w1.setCell ⟨wo.heap.size, 2, none⟩ (.slice aV ed.length cV) = W1 at HbX HrX HoX ⊢
          clear w1
          revert aV cV W1
          exact key.out
      case cont =>
        intro aV cV W1 HbX HrX HoX
        clear HEA1 HbA HrA HsA e0 e1 e2 e3 e4 e5 wA
        go_wp2
        go_loopw [6] (fun i wi => ∃ (j : Nat) (aE : Option Addr) (cE : Nat), j ≤ 64 ∧ i = .int .i64 (j : Int) ∧ Hid (Below wo.heap.size wo wi) ∧ Hid (wi.heap[wo.heap.size]? = some (.cells #[.string lo, .string pa, .slice aE (ed.length + j) cE] 40 (0, 0))) ∧ Hid (OwnE wi (wo.heap.size + 1) (.slice aE (ed.length + j) cE) (ed.length + j) (ed ++ marksE j))) (fun i _ => 64 - (intOf i).toNat)
        case atStart => exact ⟨0, aV, cV, Nat.zero_le _, rfl, HbX, HrX, hid0 (by rw [show marksE 0 = [] from rfl, List.append_nil]; exact HoX.out)⟩
        case round =>
          clear HbX HrX HoX
          obtain ⟨j, aE, cE, hj64, rfl, HbI, HrI, HoI⟩ := hrel
          have hlI := lt_of_row HrI.out
          by_cases hlt2 : j < 64
          · have hjI : (j : Int) < 64 := by omega
            obtain ⟨e0, e1, e2, e3⟩ := sec_cells HrI.out
            go_wp2_with (at_builtin; go_loud ((
              refine wpList_append_own _ (by rfl) _ _ 38 (by rfl) (wo.heap.size + 1) 42 i0 (.agg #[.bool false, .string ⟨#[]⟩]) 2 24 Tryz.underlying38 hi hz0 hz1 hz2 rfl (by decide) (.slice aE (ed.length + j) cE) (ed.length + j) (cellsE (ed ++ marksE j)) (by rfl) (World.ownsRow.alloc HoI.out _) ⟨wr.heap.size, 0, none⟩ 1 1 [.bool false, .string ⟨#[109, 97, 114, 107]⟩] (by rfl) (by rfl) (cell2_new _ _ _ _) (fun u hu => by simp only [List.mem_cons, List.not_mem_nil, or_false] at hu; rcases hu with rfl | rfl <;> rfl) (by unfold maxLen; omega) (by omega) (by simp; omega) ?_
              intro v5 w5 hown5 hgrow5 hiff5
              clear hiff5
              obtain ⟨g5, cap5, rfl, hju1, hju2, hju3⟩ := own_form hown5 (Nat.succ_pos _)
              have hr5 := (grown_low HoI.out hgrow5 wo.heap.size (Nat.lt_succ_self _) hlI).trans HrI.out
              have hb5 := grown_below HbI.out HoI.out hgrow5 (Nat.le_succ _) (Nat.le_refl _)
              obtain ⟨f0, f1, f2, f3⟩ := sec_cells hr5
              have HR5 := hid0 hr5
              have HB5 := hid0 hb5
              have HO5 := hid0 hown5
              have HG5 : Hid (wo.heap.size + 1 ≤ g5) := hid0 hju1
              clear hown5 hgrow5 hr5 hb5 hju1 hju2 hju3 HbI HrI HoI e0 e1 e2 e3)))
            have HbN : Hid (Below wo.heap.size wo (w5.setCell ⟨wo.heap.size, 2, none⟩ (.slice (some ⟨g5, 0, none⟩) (ed.length + j + 1) cap5))) := hid0 (HB5.out.setCell (Nat.le_refl _) _)
            have HrN : Hid ((w5.setCell ⟨wo.heap.size, 2, none⟩ (.slice (some ⟨g5, 0, none⟩) (ed.length + j + 1) cap5)).heap[wo.heap.size]? = some (.cells #[.string lo, .string pa, .slice (some ⟨g5, 0, none⟩) (ed.length + (j + 1)) cap5] 40 (0, 0))) := hid0 (heap_setCell_same w5 _ 2 _ _ _ HR5.out)
            have HoN : Hid (OwnE (w5.setCell ⟨wo.heap.size, 2, none⟩ (.slice (some ⟨g5, 0, none⟩) (ed.length + j + 1) cap5)) (wo.heap.size + 1) (.slice (some ⟨g5, 0, none⟩) (ed.length + (j + 1)) cap5) (ed.length + (j + 1)) (ed ++ marksE (j + 1))) := hid0 (by
              have h1 := own_blk (W' := w5.setCell ⟨wo.heap.size, 2, none⟩ (.slice (some ⟨g5, 0, none⟩) (ed.length + j + 1) cap5)) HO5.out (fun q hq => by cases hq; have := HG5.out; exact Below.heap_setCell w5 _ _ g5 (by simp; omega))
              unfold OwnE
              rw [marksE_succ, ← List.append_assoc, cellsE_append]
              exact h1)
            clear HR5 HB5 HO5 HG5 f0 f1 f2 f3
            go_wp2
            go_roundw
            case rel => exact ⟨j + 1, some ⟨g5, 0, none⟩, cap5, by omega, by go_num, HbN, HrN, HoN⟩
            case measure => simp [intOf]; omega
          · have hjI : ¬ (j : Int) < 64 := by omega
            obtain rfl : j = 64 := by omega
            obtain ⟨gE, cE', hvE, hju1, hju2, hju3⟩ := own_form HoI.out (by omega)
            cases hvE
            obtain ⟨e0, e1, e2, e3⟩ := sec_cells HrI.out
            obtain ⟨x0, x1, x2, x3, x4⟩ := (HK.out.keep (fun q hq => HbI.out.block q (by have := HZ.out; omega))).cells
            have y2 : wr.cell? ⟨b, off + k * 3 + 2, none⟩ = some (.slice ae ed.length ce) := (HbI.out.cell (World.block_lt_of_cell? wo _ c2)).trans c2
            have q0 : (0 : Int) ≤ (ed.length : Int) := by omega
            have q1 : (ed.length : Int) ≤ (cE : Int) := by omega
            have HGE : Hid (wo.heap.size + 1 ≤ gE) := hid0 hju1
            clear hju1 hju2 hju3
            go_wp2
            go_region
            obtain ⟨wS, hwS⟩ : ∃ wS, wS = (wr.setCell ⟨wo.heap.size, 2, none⟩ (.slice (some ⟨gE, 0, none⟩) ed.length cE)).drew := ⟨_, rfl⟩
            have hbS : Below wo.heap.size wo wS := by rw [hwS]; exact (HbI.out.setCell (Nat.le_refl _) _).drew
            have hrS : wS.heap[wo.heap.size]? = some (.cells #[.string lo, .string pa, .slice (some ⟨gE, 0, none⟩) ed.length cE] 40 (0, 0)) := by rw [hwS]; exact heap_setCell_same wr _ 2 _ _ _ HrI.out
            have hoS : OwnE wS (w.heap.size + 3) (.slice (some ⟨gE, 0, none⟩) (ed.length + 64) cE) (ed.length + 64) (ed ++ marksE 64) := by
              have hz := HZ.out
              rw [hwS]
              exact owns_lower (own_blk HoI.out (fun q hq => by cases hq; have := HGE.out; exact Below.heap_setCell wr _ _ gE (by simp; omega))) (by omega)
            have hKS : OS wS w.heap.size (.slice (some ⟨b, off, none⟩) L.length c) v := HK.out.keep (fun q hq => hbS.block q (by have := HZ.out; omega))
            have hGS : Giv wS (w.heap.size + 3) v S 0 := HG.out.keep (fun q _ hq => hbS.block q hq)
            rw [← hwS]
            clear hwS HbI HrI HoI e0 e1 e2 e3 x0 x1 x2 x3 x4 y2
            obtain ⟨aS, cS, rfl⟩ := own_slice HG.out.row
            obtain ⟨x0, x1, x2, x3, x4⟩ := hKS.cells
            obtain ⟨e0, e1, e2, e3⟩ := sec_cells hrS
            have HbS := hid0 hbS
            have HoS := hid0 hoS
            have HKS := hid0 hKS
            have HGS := hid0 hGS
            have HSl : Hid (S.length = k) := hid0 (by have h := congrArg List.length HSm.out; rw [List.length_map, List.length_take] at h; omega)
            have hSl : S.length ≤ 1000000 := by have := HSl.out; omega
            clear hbS hrS hoS hKS hGS hlI
            go_wp2_with (at_builtin; go_loud ((
              refine wpList_append_own_at _ (by rfl) _ _ 22 (by rfl) (w.heap.size + 3) 40 j0 (.agg #[.string ⟨#[]⟩, .string ⟨#[]⟩, .slice none 0 0]) 3 56 Tryz.underlying22 hj hy0 hy1 hy2 rfl (by decide) (.slice aS (S.length + 0) cS) (S.length + 0) (cellsX S ++ markX 0) (by rfl) (World.ownsRow.alloc HGS.out.row _) ⟨wS.heap.size, 0, none⟩ 1 1 [.string lo, .string pa, .slice (some ⟨gE, 0, none⟩) ed.length cE] (by rfl) (by rfl) (cell3_new _ _ _ _ _) (fun u hu => by simp only [List.mem_cons, List.not_mem_nil, or_false] at hu; rcases hu with rfl | rfl | rfl <;> rfl) (by unfold maxLen; omega) (by omega) (by have h1 := HZ.out; have h2 := HbS.out.size; simp; omega) ?_
              intro v6 w6 hown6 hgrow6 hiff6 hat6
              clear hiff6
              obtain ⟨g6, cap6, rfl, hju1, hju2, hju3⟩ := own_form hown6 (Nat.succ_pos _)
              have hz := HZ.out
              have hs2 := HbS.out.size
              have hK6 : OS w6 w.heap.size (.slice (some ⟨b, off, none⟩) L.length c) (.slice aS (S.length + 0) cS) := HKS.out.keep (fun q hq => grown_low HGS.out.row hgrow6 q hq (by omega))
              obtain ⟨t0, t1, t2, t3, t4⟩ := hK6.cells
              have hB6 : Below w.heap.size w w6 := grown_below (Below.later HB.out HbS.out) HGS.out.row hgrow6 (by omega) (Nat.le_refl _)
              have hG6 : Giv w6 (w.heap.size + 3) (.slice (some ⟨g6, 0, none⟩) (S.length + 0 + 1) cap6) (S ++ [⟨⟨lo, pa, ed⟩, gE, cE⟩]) 0 := by
                refine Giv.grown (wa := wS.alloc (.cells #[.string lo, .string pa, .slice (some ⟨gE, 0, none⟩) ed.length cE] 40)) HG.out (fun q h1 h2 => (Below.heap_alloc wS _ q (by omega)).trans (HbS.out.block q h2)) hgrow6 ?_ ?_ ?_ (.inr ⟨_, rfl, by have := HGE.out; simp only; omega⟩)
                · rw [cellsX_append, show (S ++ [(⟨⟨lo, pa, ed⟩, gE, cE⟩ : SecAt)]).length + 0 = S.length + 0 + 1 by simp, show markX 0 = [] from rfl, List.append_nil]
                  have h := hown6
                  rw [show markX 0 = [] from rfl, List.append_nil] at h
                  exact h
                · rcases hat6 with h | h
                  · exact .inl h
                  · exact .inr ⟨_, h, Nat.le_refl _⟩
                · intro x hx
                  rcases List.mem_append.1 hx with h | h
                  · exact .inl h
                  · right
                    rw [List.mem_singleton] at h
                    subst h
                    exact ⟨World.ownsRow.alloc HoS.out _, by have := HGE.out; simp only; omega⟩
              have HK6 := hid0 hK6
              have HB6 := hid0 hB6
              have HG6 := hid0 hG6
              have HZ6 : Hid (w.heap.size + 3 ≤ w6.heap.size) := hid0 (by have := hgrow6.size; simp at this; omega)
              clear hown6 hgrow6 hat6 hju1 hju2 hju3 hz hs2 hK6 hB6 hG6 x0 x1 x2 x3 x4 e0 e1 e2 e3)))
            have HKN : Hid (OS (w6.setCell ⟨w.heap.size + 1 + 1, 0, none⟩ (.slice (some ⟨g6, 0, none⟩) (S.length + 0 + 1) cap6)) w.heap.size (.slice (some ⟨b, off, none⟩) L.length c) (.slice (some ⟨g6, 0, none⟩) (S.length + 0 + 1) cap6)) := hid0 (HK6.out.set _)
            have HBN : Hid (Below w.heap.size w (w6.setCell ⟨w.heap.size + 1 + 1, 0, none⟩ (.slice (some ⟨g6, 0, none⟩) (S.length + 0 + 1) cap6))) := hid0 (HB6.out.setCell (by simp; omega) _)
            have HGN : Hid (Giv (w6.setCell ⟨w.heap.size + 1 + 1, 0, none⟩ (.slice (some ⟨g6, 0, none⟩) (S.length + 0 + 1) cap6)) (w.heap.size + 3) (.slice (some ⟨g6, 0, none⟩) (S.length + 0 + 1) cap6) (S ++ [⟨⟨lo, pa, ed⟩, gE, cE⟩]) 0) := hid0 (HG6.out.keep (fun q h1 _ => Below.heap_setCell w6 _ _ q (by simp; omega)))
            have HZN : Hid (w.heap.size + 3 ≤ (w6.setCell ⟨w.heap.size + 1 + 1, 0, none⟩ (.slice (some ⟨g6, 0, none⟩) (S.length + 0 + 1) cap6)).heap.size) := hid0 (by have := HZ6.out; simp [World.setCell]; omega)
            have HSN : Hid ((S ++ [(⟨⟨lo, pa, ed⟩, gE, cE⟩ : SecAt)]).map (·.s) = L.take (k + 1)) := hid0 (by rw [List.map_append, HSm.out, HSk.out]; rfl)
            clear HK6 HB6 HG6 HZ6 t0 t1 t2 t3 t4
            go_wp2
            go_roundw
            case rel => exact ⟨k + 1, _, _, by omega, by go_num, HKN, HSN, HGN, HBN, HZN⟩
            case measure => simp [intOf]; omega
    · have hkI : ¬ (k : Int) < (L.length : Int) := by omega
      have hSL : S.map (·.s) = L := by have h := HSm.out; rw [List.take_of_length_le (by omega)] at h; exact h
      have hSl : S.length = L.length := by have h := congrArg List.length hSL; rw [List.length_map] at h; exact h
      have HSL := hid0 hSL
      have hSb : S.length ≤ 1000000 := by omega
      have HSl := hid0 hSl
      obtain ⟨x0, x1, x2, x3, x4⟩ := HK.out.cells
      clear hSL HSm hSl
      go_wp2
      go_loopw [7] (fun i wi => ∃ (j : Nat) (v' : Value), j ≤ 64 ∧ i = .int .i64 (j : Int) ∧ Hid (OS wi w.heap.size (.slice a L.length c) v') ∧ Hid (Giv wi (w.heap.size + 3) v' S j) ∧ Hid (Below w.heap.size w wi) ∧ Hid (w.heap.size + 3 ≤ wi.heap.size)) (fun i _ => 64 - (intOf i).toNat)
      case atStart => exact ⟨0, v, Nat.zero_le _, rfl, HK, HG, HB, HZ⟩
      case round =>
        clear HK HG HB HZ x0 x1 x2 x3 x4
        obtain ⟨j, v', hj64, rfl, HK, HG, HB, HZ⟩ := hrel
        obtain ⟨x0, x1, x2, x3, x4⟩ := HK.out.cells
        by_cases hlt2 : j < 64
        · have hjI : (j : Int) < 64 := by omega
          obtain ⟨aS, cS, rfl⟩ := own_slice HG.out.row
          go_wp2_with (at_builtin; go_loud ((
            refine wpList_append_own_at _ (by rfl) _ _ 22 (by rfl) (w.heap.size + 3) 40 j0 (.agg #[.string ⟨#[]⟩, .string ⟨#[]⟩, .slice none 0 0]) 3 56 Tryz.underlying22 hj hy0 hy1 hy2 rfl (by decide) (.slice aS (S.length + j) cS) (S.length + j) (cellsX S ++ markX j) (by rfl) (World.ownsRow.alloc HG.out.row _) ⟨wr.heap.size, 0, none⟩ 1 1 [.string ⟨#[109, 97, 114, 107]⟩, .string ⟨#[]⟩, .slice none 0 0] (by rfl) (by rfl) (cell3_new _ _ _ _ _) (fun u hu => by simp only [List.mem_cons, List.not_mem_nil, or_false] at hu; rcases hu with rfl | rfl | rfl <;> rfl) (by unfold maxLen; omega) (by omega) (by have h1 := HZ.out; simp; omega) ?_
            intro v6 w6 hown6 hgrow6 hiff6 hat6
            clear hiff6
            obtain ⟨g6, cap6, rfl, hju1, hju2, hju3⟩ := own_form hown6 (Nat.succ_pos _)
            have hz := HZ.out
            have hK6 : OS w6 w.heap.size (.slice a L.length c) (.slice aS (S.length + j) cS) := HK.out.keep (fun q hq => grown_low HG.out.row hgrow6 q hq (by omega))
            obtain ⟨t0, t1, t2, t3, t4⟩ := hK6.cells
            have hB6 : Below w.heap.size w w6 := grown_below HB.out HG.out.row hgrow6 (by omega) (Nat.le_refl _)
            have hG6 : Giv w6 (w.heap.size + 3) (.slice (some ⟨g6, 0, none⟩) (S.length + j + 1) cap6) S (j + 1) := by
              refine Giv.grown (wa := wr.alloc (.cells #[.string ⟨#[109, 97, 114, 107]⟩, .string ⟨#[]⟩, .slice none 0 0] 40)) HG.out (fun q _ h2 => Below.heap_alloc wr _ q h2) hgrow6 ?_ ?_ (fun x hx => .inl hx) (.inl rfl)
              · rw [markX, ← List.append_assoc]
                exact hown6
              · rcases hat6 with h | h
                · exact .inl h
                · exact .inr ⟨_, h, Nat.le_refl _⟩
            have HK6 := hid0 hK6
            have HB6 := hid0 hB6
            have HG6 := hid0 hG6
            have HZ6 : Hid (w.heap.size + 3 ≤ w6.heap.size) := hid0 (by have := hgrow6.size; simp at this; omega)
            clear hown6 hgrow6 hat6 hju1 hju2 hju3 hz hK6 hB6 hG6 x0 x1 x2 x3 x4)))
          have HKN : Hid (OS (w6.setCell ⟨w.heap.size + 1 + 1, 0, none⟩ (.slice (some ⟨g6, 0, none⟩) (S.length + j + 1) cap6)) w.heap.size (.slice a L.length c) (.slice (some ⟨g6, 0, none⟩) (S.length + j + 1) cap6)) := hid0 (HK6.out.set _)
          have HBN : Hid (Below w.heap.size w (w6.setCell ⟨w.heap.size + 1 + 1, 0, none⟩ (.slice (some ⟨g6, 0, none⟩) (S.length + j + 1) cap6))) := hid0 (HB6.out.setCell (by simp; omega) _)
          have HGN : Hid (Giv (w6.setCell ⟨w.heap.size + 1 + 1, 0, none⟩ (.slice (some ⟨g6, 0, none⟩) (S.length + j + 1) cap6)) (w.heap.size + 3) (.slice (some ⟨g6, 0, none⟩) (S.length + j + 1) cap6) S (j + 1)) := hid0 (HG6.out.keep (fun q h1 _ => Below.heap_setCell w6 _ _ q (by simp; omega)))
          have HZN : Hid (w.heap.size + 3 ≤ (w6.setCell ⟨w.heap.size + 1 + 1, 0, none⟩ (.slice (some ⟨g6, 0, none⟩) (S.length + j + 1) cap6)).heap.size) := hid0 (by have := HZ6.out; simp [World.setCell]; omega)
          clear HK6 HB6 HG6 HZ6 t0 t1 t2 t3 t4
          go_wp2
          go_roundw
          case rel => exact ⟨j + 1, _, by omega, by go_num, HKN, HGN, HBN, HZN⟩
          case measure => simp [intOf]; omega
        · have hjI : ¬ (j : Int) < 64 := by omega
          obtain rfl : j = 64 := by omega
          obtain ⟨g, cap, rfl, hju1, hju2, hju3⟩ := own_form HG.out.row (by omega)
          have hSl := HSl.out
          obtain ⟨w8, hw8⟩ : ∃ w8, w8 = wr.setCell ⟨w.heap.size + 1 + 1, 0, none⟩ (.slice (some ⟨g, 0, none⟩) L.length cap) := ⟨_, rfl⟩
          have hK8 := HK.out.set (.slice (some ⟨g, 0, none⟩) L.length cap)
          rw [← hw8] at hK8
          obtain ⟨y0, y1, y2, y3, y4⟩ := hK8.cells
          have q0 : (0 : Int) ≤ (L.length : Int) := by omega
          have q1 : (L.length : Int) ≤ (cap : Int) := by omega
          have HV : Hid (Owned L w (.returned (.agg #[.slice (some ⟨g, 0, none⟩) L.length cap])) (w8.setCell ⟨w.heap.size + 1, 0, none⟩ (.slice (some ⟨g, 0, none⟩) L.length cap))) := hid0 (by
            refine ⟨g, cap, S, rfl, by omega, HSL.out, ?_, ?_⟩
            · have h1 := (HG.out.keep (w' := w8) (fun q h1 _ => by rw [hw8]; exact Below.heap_setCell wr _ _ q (by simp; omega))).keep (w' := w8.setCell ⟨w.heap.size + 1, 0, none⟩ (.slice (some ⟨g, 0, none⟩) L.length cap)) (fun q h1 _ => Below.heap_setCell w8 _ _ q (by simp; omega))
              rw [hSl] at h1
              exact ⟨owns_lower h1.row (by omega), fun x hx => owns_lower (h1.ed x hx) (by omega), h1.ne, h1.pw⟩
            · rw [hw8]
              exact (HB.out.setCell (by simp; omega) _).setCell (by simp) _)
          have c9 : (w8.setCell ⟨w.heap.size + 1, 0, none⟩ (.slice (some ⟨g, 0, none⟩) L.length cap)).cell? ⟨w.heap.size + 1, 0, none⟩ = some (.slice (some ⟨g, 0, none⟩) L.length cap) := by
            rw [cell_of_row _ _ _ _ _ _ (heap_setCell_same w8 _ 0 _ _ _ hK8.res)]; rfl
          have hf8 := hw8.symm
          clear hSl hw8 hK8 hju1 hju2 hju3 HK HG HB HZ HSL
          go_wp2
          refine bodyPost_ret ?_ rfl HV.out
          simp [results, Tryz.results5, go_sem, c9]
end Go.Proofs.YtlnejmmhhmmomaaGreatDoor
namespace Go.Proofs.YtlnejmmhhmmomaaGreatDoor
open Go.RowKit Go.Shelf Go.Lib Go.Maps
/-- What the last edit of an entry says of it. -/
def lastE (eds : List (Bool × ByteArray)) (x : ByteArray) : Option Bool := eds.foldl (fun o e => if e.2 = x then some e.1 else o) none
theorem lastE_snoc (eds : List (Bool × ByteArray)) (e : Bool × ByteArray) (x : ByteArray) : lastE (eds ++ [e]) x = if e.2 = x then some e.1 else lastE eds x := by
  unfold lastE
  rw [List.foldl_append]
  rfl
def keyB (x : ByteArray) : Lit := .string x.data.toList
theorem keyB_inj {x y : ByteArray} (h : keyB x = keyB y) : x = y := by
  unfold keyB at h
  injection h with h
  exact ByteArray.ext (Array.toList_inj.1 h)
/-- How an outcome reads. -/
def outElem (v : Value) : Option (DataW Unit × List MemPlace) := match v with
  | .agg ⟨[.bool x]⟩ => some (.lit (.bool x), [])
  | _ => none
theorem outElem_mk (x : Bool) : outElem (.agg #[.bool x]) = some (.lit (.bool x), []) := rfl
theorem outElem_inv {v : Value} {y : DataW Unit × List MemPlace} (h : outElem v = some y) : ∃ c : Bool, v = .agg #[.bool c] ∧ y = (.lit (.bool c), []) := by
  unfold outElem at h
  split at h
  · rename_i x
    cases h
    exact ⟨x, rfl, rfl⟩
  · cases h
theorem lawK : Keyed Tryz.prog 9 := string_keyed Tryz.underlying9
/-- Does a datum say of every entry what the last edit says? -/
def Says (D : DataW Unit) (eds : List (Bool × ByteArray)) : Prop := ∀ x : ByteArray, Maps.has D (keyB x) = (lastE eds x).isSome ∧ ∀ b, lastE eds x = some b → ∀ z, D.atKey (keyB x) z = .lit (.bool b)
theorem says_nil : Says (.map []) [] := fun x => ⟨rfl, fun b h => by cases h⟩
theorem says_put {D : DataW Unit} {eds : List (Bool × ByteArray)} (h : Says D eds) (hD : IsMap D) (e : Bool × ByteArray) (hk : WideAt.IsKeyLit (keyB e.2)) : Says (D.put (keyB e.2) (.lit (.bool e.1))) (eds ++ [e]) := fun x => by
  rw [lastE_snoc]
  by_cases hx : e.2 = x
  · subst hx
    rw [if_pos rfl]
    exact ⟨by rw [has_put_same hD hk]; rfl, fun b hb z => by cases hb; exact atKey_put_same hD hk _ z⟩
  · rw [if_neg hx]
    have hne : keyB x ≠ keyB e.2 := fun he => hx (keyB_inj he).symm
    exact ⟨by rw [has_put_other hne]; exact (h x).1, fun b hb z => by rw [atKey_put_other hne]; exact (h x).2 b hb z⟩
/-- The block B is a map of at most n entries that says what the edits come to. -/
def MapIs (w : World) (B n : Nat) (eds : List (Bool × ByteArray)) : Prop := ∃ D, w.ownsMap Tryz.prog 9 outElem B n D ∧ Says D eds
end Go.Proofs.YtlnejmmhhmmomaaGreatDoor
namespace Go.Proofs.YtlnejmmhhmmomaaGreatDoor
open Go.RowKit Go.Shelf Go.Lib Go.Maps
theorem keyB_is (x : ByteArray) : WideAt.IsKeyLit (keyB x) := trivial
theorem EA.grownM {w w' : World} {a : Option Addr} {L eds : List (Bool × ByteArray)} {B n : Nat} (h : EA w a L) (hm : MapIs w B n eds) (hg : w.grownBy w' (some B)) : EA w' a L := ⟨fun k hk => by
  obtain ⟨b, off, e, hl, h0, h1⟩ := h.at' k hk
  obtain ⟨D, ⟨es, clock, hb, _⟩, _⟩ := hm
  have hne : some b ≠ some B := fun e => by
    cases e
    unfold World.cell? at h0
    rw [hb] at h0
    simp at h0
  have hb' := hg.block b hl hne
  exact ⟨b, off, e, Nat.lt_of_lt_of_le hl hg.size, (World.cell?_of_block (a := ⟨b, off + k * 2, none⟩) hb').trans h0, (World.cell?_of_block (a := ⟨b, off + k * 2 + 1, none⟩) hb').trans h1⟩⟩
set_option maxRecDepth 10000 in
set_option maxHeartbeats 800000 in
theorem take_any (ed eds : List (Bool × ByteArray)) (a : Option Addr) (ca B n : Nat) (w : World) (hl : ed.length ≤ 1000000000) (hn : n ≤ 1000000000000) (hz : ∀ e ∈ ed, e.2.size ≤ 140737488355328) (ha : EA w a ed) (hm : MapIs w B n eds) :
    Calls Tryz.prog 16 #[.map (some B), .slice a ed.length ca] w fun e w' => (∃ v, e = .returned v) ∧ MapIs w' B (n + ed.length) (eds ++ ed) ∧ w.grownBy w' (some B) := by
  have HA := hid0 (fun wr (hg : w.grownBy wr (some B)) => ha.grownM hm hg)
  have HM := hid0 hm
  have HZ := hid0 hz
  clear ha hm hz
  go_enter Tryz.func16, Tryz.ntmps16
  go_wp2
  go_loopw [8] (fun i wr => ∃ k : Nat, k ≤ ed.length ∧ i = .int .i64 (k : Int) ∧ Hid (MapIs wr B (n + k) (eds ++ ed.take k)) ∧ Hid (w.grownBy wr (some B))) (fun i _ => ed.length - (intOf i).toNat)
  case atStart => exact ⟨0, Nat.zero_le _, rfl, hid0 (by rw [List.take_zero, List.append_nil]; exact HM.out), hid0 ⟨rfl, rfl, rfl, Nat.le_refl _, fun _ _ _ => rfl⟩⟩
  case round =>
    obtain ⟨k, hk, rfl, HMk, HGk⟩ := hrel
    by_cases hlt : k < ed.length
    · obtain ⟨b, off, rfl, hbl, c0, c1⟩ := (HA.out wr HGk.out).at' k hlt
      have hkI : (k : Int) < (ed.length : Int) := by omega
      have hkI0 : (0 : Int) ≤ (k : Int) := by omega
      have hsz := HZ.out ed[k] (List.getElem_mem hlt)
      have HTk : Hid (ed.take (k + 1) = ed.take k ++ [ed[k]]) := hid0 (by rw [List.take_add_one, List.getElem?_eq_getElem hlt]; rfl)
      generalize ed[k] = e at *
      obtain ⟨eb, es⟩ := e
      simp only at c0 c1 hsz
      obtain ⟨D, hD, hsay⟩ := HMk.out
      have HD := hid0 hD
      have HSy := hid0 hsay
      clear hbl hD hsay
      go_wp2_with (first
        | (at_mapUpdate; go_loud ((
            refine wpList_mapUpdate_own _ rfl _ _ _ 48 rfl 9 69 lawK Tryz.underlying48 outElem B (n + k) D rfl (HD.out.alloc _) (by unfold maxLen; omega) (.string es) (.agg #[.bool eb]) (keyB es) rfl rfl (Go.WideMaps.keyOf_string_mk Tryz.underlying9 (by unfold maxLen; omega)) (.lit (.bool eb)) [] (outElem_mk eb) ?_
            intro w1 hown1 hgrow1
            have HO1 := hid0 hown1
            have HG1 : Hid (w.grownBy w1 (some B)) := hid0 ((HGk.out.trans (World.grownBy_alloc wr _ _)).trans hgrow1)
            clear hown1 hgrow1)))
        | fail)
      have HMN : Hid (MapIs w1 B (n + (k + 1)) (eds ++ ed.take (k + 1))) := hid0 ⟨_, HO1.out, by rw [HTk.out, ← List.append_assoc]; exact says_put HSy.out HD.out.isMap (eb, es) (keyB_is es)⟩
      clear HO1 HD HSy HMk
      go_wp2
      go_roundw
      case rel => exact ⟨k + 1, hlt, by go_num, HMN, HG1⟩
      case measure => simp [intOf]; omega
    · have hkI : ¬ (k : Int) < (ed.length : Int) := by omega
      have HE : Hid (MapIs wr B (n + ed.length) (eds ++ ed)) := hid0 (by
        have h := HMk.out
        rw [List.take_of_length_le (by omega), show k = ed.length by omega] at h
        exact h)
      go_wp2
      go_returns
      exact ⟨⟨_, rfl⟩, HE.out, HGk.out⟩
end Go.Proofs.YtlnejmmhhmmomaaGreatDoor
namespace Go.Proofs.YtlnejmmhhmmomaaGreatDoor
open Go.RowKit Go.Shelf Go.Lib Go.Maps Go.Sort
/-- The sort's contract. -/
def SortS : Prop := ∀ (blk off cap : Nat) (ss : List (List UInt8)) (w : World), Holds encStr w blk off ss.toArray → blk < w.heap.size → ss.length < 4611686018427387904 →
  Calls Tryz.prog 36 #[.slice (some ⟨blk, off, none⟩) ss.length cap] w fun e w' => e = .returned (.tuple #[]) ∧ ∃ n os, w' = grow (putRow encStr (Sort.ahead w n) blk off (ss.mergeSort fun x y => decide (x ≤ y)).toArray) os
/-- What is collected of the entries that have come: those that are there. -/
def Coll (D : DataW Unit) (left : Lit → Bool) (ss : List (List UInt8)) : Prop := ss.Nodup ∧ ∀ x, x ∈ ss ↔ (Maps.has D (.string x) = true ∧ left (.string x) = false ∧ D.atKey (.string x) .nil = .lit (.bool true))
theorem same_str (x y : List UInt8) : (Lit.string x).sameKey (.string y) = decide (x = y) := by
  by_cases h : x = y
  · subst h
    rw [WideAt.sameKey_self (a := .string x) trivial]
    simp
  · rw [Maps.sameKey_ne (fun e => h (by injection e))]
    simp [h]
theorem coll_start (D : DataW Unit) : Coll D (Maps.has D) [] := ⟨List.nodup_nil, fun x => by cases Maps.has D (.string x) <;> simp⟩
theorem coll_yes {D : DataW Unit} {left : Lit → Bool} {ss : List (List UInt8)} (h : Coll D left ss) {x : List UInt8} (hlk : left (.string x) = true) (hat : ∀ z, D.atKey (.string x) z = .lit (.bool true)) : Coll D (fun z => left z && !z.sameKey (.string x)) (ss ++ [x]) := by
  refine ⟨List.nodup_append.2 ⟨h.1, by simp, fun a ha b hb => ?_⟩, fun y => ?_⟩
  · rw [List.mem_singleton] at hb
    subst hb
    intro e
    subst e
    have := ((h.2 a).1 ha).2.1
    rw [hlk] at this
    cases this
  · rw [List.mem_append, List.mem_singleton, h.2 y]
    simp only [same_str]
    by_cases e : y = x
    · subst e
      simp [Maps.has_true_of_atKey hat, hat]
    · simp [e]
theorem coll_no {D : DataW Unit} {left : Lit → Bool} {ss : List (List UInt8)} (h : Coll D left ss) {x : List UInt8} (hlk : left (.string x) = true) (hat : ∀ z, D.atKey (.string x) z = .lit (.bool false)) : Coll D (fun z => left z && !z.sameKey (.string x)) ss := by
  refine ⟨h.1, fun y => ?_⟩
  rw [h.2 y]
  simp only [same_str]
  by_cases e : y = x
  · subst e
    simp [hlk, hat]
  · simp [e]
theorem mapSize_le {w : World} {B n : Nat} {D : DataW Unit} (h : w.ownsMap Tryz.prog 9 outElem B n D) : Maps.size D ≤ n := by
  obtain ⟨es, c, h1, F, hle, rfl⟩ := h
  rw [Maps.size_eq, length_sorted, List.length_map]
  simpa using hle
/-- A rising list of texts. -/
def Rising (l : List ByteArray) : Prop := l.Pairwise fun x y => x.data.toList < y.data.toList
def bytesOf (l : List UInt8) : ByteArray := ⟨l.toArray⟩
theorem bytesOf_data (l : List UInt8) : (bytesOf l).data.toList = l := by simp [bytesOf]
theorem rising_sort (ss : List (List UInt8)) (h : ss.Nodup) : Rising ((ss.mergeSort fun x y => decide (x ≤ y)).map bytesOf) := by
  unfold Rising
  rw [List.pairwise_map]
  have h1 : (ss.mergeSort fun x y => decide (x ≤ y)).Pairwise fun x y => x ≤ y := by
    have := List.pairwise_mergeSort (le := fun x y : List UInt8 => decide (x ≤ y)) (fun a b c hab hbc => by simp only [decide_eq_true_eq] at *; exact List.le_trans hab hbc) (fun a b => by simp only [Bool.or_eq_true, decide_eq_true_eq]; exact List.le_total a b) ss
    exact this.imp (fun h => by simpa using h)
  have h2 : (ss.mergeSort fun x y => decide (x ≤ y)).Nodup := (List.mergeSort_perm ss _).nodup_iff.2 h
  refine (h1.and h2).imp (fun {x y} ⟨hle, hne⟩ => ?_)
  rw [bytesOf_data, bytesOf_data]
  exact Std.lt_of_le_of_ne hle hne
theorem mem_sort (ss : List (List UInt8)) (x : ByteArray) : x ∈ (ss.mergeSort fun x y => decide (x ≤ y)).map bytesOf ↔ x.data.toList ∈ ss := by
  rw [List.mem_map]
  constructor
  · rintro ⟨l, hl, rfl⟩
    rw [bytesOf_data]
    exact (List.mergeSort_perm ss _).mem_iff.1 hl
  · intro h
    exact ⟨x.data.toList, (List.mergeSort_perm ss _).mem_iff.2 h, ByteArray.ext (by simp [bytesOf])⟩
set_option maxRecDepth 10000 in
set_option maxHeartbeats 800000 in
theorem sort_nil (w : World) : Calls Tryz.prog 36 #[.slice none 0 0] w fun e w' => e = .returned (.tuple #[]) ∧ Below w.heap.size w w' := by
  go_enter Tryz.func36, Tryz.ntmps36
  go_wp2
  go_rounds 1
  go_rounds 1
  go_returns
  exact ⟨rfl, Below.refl _ _⟩
set_option maxRecDepth 10000 in
set_option maxHeartbeats 1600000 in
theorem entries_any (hS : SortS) (eds : List (Bool × ByteArray)) (B n : Nat) (w : World) (hn : n ≤ 1000000000000) (hBw : B < w.heap.size) (hm : MapIs w B n eds) :
    Calls Tryz.prog 18 #[.map (some B)] w fun e w' => (∃ v l, e = .returned v ∧ OwnS w' w.heap.size v l ∧ Rising l ∧ ∀ x, x ∈ l ↔ lastE eds x = some true) ∧ Below w.heap.size w w' := by
  obtain ⟨i0, hi, hz0, hz1, hz2⟩ := info_parts infoStr
  obtain ⟨D, hown, hsay⟩ := hm
  have hsz := mapSize_le hown
  have HSy := hid0 hsay
  have HST := hid0 hS
  clear hsay hS
  go_enter Tryz.func18, Tryz.ntmps18
  go_wp2_with (first
    | (at_range; refine wpList_range_own _ rfl _ 48 rfl 9 69 lawK Tryz.underlying48 _ B n _ rfl hown ?_; intro w0 hrg0 hg0 hs0)
    | fail)
  go_frame
  have hB0 : Below w.heap.size w w0 := below_grown hg0
  go_loopw [3] (fun v wr => ∃ (left : Lit → Bool) (cnt : Nat) (ss : List (List UInt8)), wr.ranges Tryz.prog 9 outElem B w.heap.size n D left cnt ∧ ss.length + cnt ≤ n ∧ wr.ownsRow w.heap.size 9 1 v ss.length (ss.map encStr) ∧ Coll D left ss ∧ Below w.heap.size w wr) (fun _ wr => wr.rangeLeft B w.heap.size)
  case atStart => exact ⟨_, _, [], hrg0, by simpa using hsz, World.ownsRow_nil _ _ _ _, coll_start D, hB0⟩
  case round =>
    obtain ⟨left, cnt, ss, hrg, hcs, hrow, hC, hnx⟩ := hrel
    go_wp2_with (first
      | (at_next; refine wpList_next_ranges _ rfl _ rfl 9 lawK outElem encStr (fun c : Nat => .agg #[.bool (c == 0)]) (fun key kl hk => by obtain ⟨x, hx, _⟩ := Maps.keyOf_str Tryz.underlying9 hk; exact ⟨x, hx⟩) (fun v y hv => by obtain ⟨c, rfl, _⟩ := outElem_inv hv; exact ⟨if c then 0 else 1, by cases c <;> rfl⟩) B w.heap.size n _ _ _ rfl hrg ?_ ?_)
      | fail)
    · intro hc0 hl0
      have HC := hid0 hC
      have HL0 := hid0 hl0
      rcases hrow.2 with ⟨rfl, hnil⟩ | ⟨g, cap, cur, rfl, hbase, hb, h1, h2, h3, h4⟩
      · have hss : ss = [] := List.length_eq_zero_iff.1 hnil
        subst hss
        have HNx := hid0 hnx
        have HN := hid0 (sort_nil wr)
        have HV : Hid (∀ x, x ∈ ([] : List ByteArray) ↔ lastE eds x = some true) := hid0 (fun x => by
          refine ⟨fun h => (by cases h), fun h => ?_⟩
          have h1 := (HC.out.2 x.data.toList).2 ⟨by rw [show Lit.string x.data.toList = keyB x from rfl, (HSy.out x).1, h]; rfl, HL0.out _, (HSy.out x).2 true h _⟩
          cases h1)
        clear hrow hrg hnx hC hl0 hc0 hcs hrg0 hown hg0 hs0 hB0
        go_wp2_with (go_at_call 36; refine HN.out.mono ?_; rintro e w5 ⟨rfl, hb5⟩; have HB5 := hid0 (Below.later HNx.out hb5); clear hb5)
        go_ret
        exact ⟨⟨.slice none 0 0, [], rfl, World.ownsRow_nil _ _ _ _, List.Pairwise.nil, HV.out⟩, HB5.out⟩
      · have hH : Holds encStr wr g 0 ss.toArray := holds_of_block hb (by simpa using h4)
        have hgl : g < wr.heap.size := (Array.getElem?_eq_some_iff.1 hb).1
        have HN := hid0 (HST.out g 0 cap ss wr hH hgl (by omega))
        have HO : Hid (∀ n' os, OwnS (grow (putRow encStr (Sort.ahead wr n') g 0 (ss.mergeSort fun x y => decide (x ≤ y)).toArray) os) w.heap.size (.slice (some ⟨g, 0, none⟩) ss.length cap) ((ss.mergeSort fun x y => decide (x ≤ y)).map bytesOf)) := hid0 (fun n' os => by
          have h := ownsRow_sorted (n := n') (os := os) (ss := ss) (ts := ss.mergeSort fun x y => decide (x ≤ y)) (by simp) hbase hb h1 h2 h3
          unfold OwnS
          rw [List.length_map, List.length_mergeSort, show cellsS ((ss.mergeSort fun x y => decide (x ≤ y)).map bytesOf) = (ss.mergeSort fun x y => decide (x ≤ y)).map encStr by simp [cellsS, bytesOf, Function.comp_def]]
          exact h)
        have HBE : Hid (∀ n' os, Below w.heap.size w (grow (putRow encStr (Sort.ahead wr n') g 0 (ss.mergeSort fun x y => decide (x ≤ y)).toArray) os)) := hid0 (fun n' os => hnx.grown (grownBy_sorted _) hnx.size (fun j hj => by cases hj; exact hbase))
        have HR := hid0 (rising_sort ss HC.out.1)
        have HV : Hid (∀ x, x ∈ (ss.mergeSort fun x y => decide (x ≤ y)).map bytesOf ↔ lastE eds x = some true) := hid0 (fun x => by
          rw [mem_sort, HC.out.2]
          rw [show Lit.string x.data.toList = keyB x from rfl, (HSy.out x).1]
          constructor
          · rintro ⟨h1, _, h3⟩
            cases hq : lastE eds x with
            | none => rw [hq] at h1; cases h1
            | some b =>
              rw [(HSy.out x).2 b hq] at h3
              cases b
              · cases h3
              · rfl
          · intro h
            rw [h]
            exact ⟨rfl, HL0.out _, (HSy.out x).2 true h _⟩)
        clear hrow hrg hnx hC hl0 hc0 hcs hrg0 hown hg0 hs0 hB0 hH hb h1 h2 h3 h4
        go_wp2_with (go_at_call 36; refine HN.out.mono ?_; rintro e w5 ⟨rfl, nn, os, rfl⟩)
        go_ret
        exact ⟨⟨_, _, rfl, HO.out nn os, HR.out, HV.out⟩, HBE.out nn os⟩
    · intro x c kl yd yp w2 cnt2 hkey hlk hv hat hrg2 hlt hg2 hs2 hen
      obtain ⟨x', ex, rfl, hxl⟩ := Maps.keyOf_str Tryz.underlying9 hkey
      obtain rfl : x = x' := encStr_inj ex
      have hrow2 := hrow.kept hg2 (Or.inr (row_ne_iter hrow hrg).symm)
      have hbne : some B ≠ ((Value.slice none 0 0).ownBlock) := by simp [Value.ownBlock]
      have hyd : yd = .lit (.bool (c == 0)) := by
        obtain ⟨c', e1, e2⟩ := outElem_inv hv
        injection e1 with e1
        have e3 : Value.bool (c == 0) = .bool c' := by
          have := congrArg (fun a : Array Value => a[0]?) e1
          simpa using this
        injection e3 with e3
        injection e2 with e2 _
        rw [e2, e3]
      rw [hyd] at hat
      have hnx2 : Below w.heap.size w w2 := hnx.grown hg2 hnx.size (fun j hj => by cases hj; exact Nat.le_refl _)
      have hw2 := hg2.size
      have hnw := hnx.size
      clear hs2 ex hkey hv hyd hbne
      cases hc : (c == 0) with
      | true =>
        rw [hc] at hat hen
        have hrow3 := hrow2.alloc (.cells #[.bool true] 69)
        have hn1 : ∀ j u, [encStr x][j]? = some u → ((w2.alloc (.cells #[.bool true] 69)).alloc (.cells #[encStr x] 9)).cell? ((⟨w2.heap.size + 1, 0, none⟩ : Addr).add j) = some u := by
          have h := cell_one_new (w2.alloc (.cells #[.bool true] 69)) (encStr x) 9
          rw [show (w2.alloc (.cells #[.bool true] 69)).heap.size = w2.heap.size + 1 by simp] at h
          exact h
        have HN1 := hid0 hn1
        have hrow4 := hrow3.alloc (.cells #[encStr x] 9)
        have HR4 := hid0 hrow4
        clear hn1 hrow4
        go_wp2_with (first
          | (at_builtin; go_loud ((
              refine wpList_append_own _ rfl _ _ 28 rfl w.heap.size 9 i0 (.string ⟨#[]⟩) 1 16 Tryz.underlying28 hi hz0 hz1 hz2 rfl (by decide) u3 ss.length (ss.map encStr) rfl HR4.out ⟨w2.heap.size + 1, 0, none⟩ 1 1 [encStr x] rfl rfl HN1.out (by simp [Value.oneCell', encStr]) (by unfold maxLen; omega) (by omega) (by simp; omega) ?_
              intro v' w3 hown' hg3 hnil3
              go_frame)))
          | fail)
        have hrg3 := ((hrg2.alloc (.cells #[.bool true] 69)).alloc (.cells #[encStr x] 9)).kept hg3 (row_ne_low HR4.out hBw) (row_ne_iter HR4.out ((hrg2.alloc _).alloc _))
        refine ⟨⟨_, cnt2, ss ++ [x], hrg3, by simp; omega, by simpa using hown', coll_yes hC hlk hat, ?_⟩, by rw [hrg3.left_eq, hrg.left_eq]; exact hlt⟩
        exact ((hnx2.alloc (by omega) _).alloc (by simp; omega) _).grown hg3 (by simp; omega) (fun j hj => (World.ownsRow.lt HR4.out j hj).1)
      | false =>
        rw [hc] at hat hen
        go_wp2
        exact ⟨⟨_, cnt2, ss, hrg2.alloc _, by omega, hrow2.alloc _, coll_no hC hlk hat, hnx2.alloc (by omega) _⟩, by rw [(hrg2.alloc _).left_eq, hrg.left_eq]; exact hlt⟩
end Go.Proofs.YtlnejmmhhmmomaaGreatDoor
namespace Go.Proofs
open Go.Shelf
def Tryz.lays190_ren : Go.Shelf.Ren := ⟨fun | 190 => 36 | 125 => 48 | 258 => 47 | 128 => 74 | 129 => 75 | 302 => 65 | 303 => 66 | 304 => 67 | 305 => 68 | 306 => 69 | 307 => 70 | 308 => 71 | 309 => 72 | 310 => 73 | 333 => 92 | 329 => 93 | 330 => 94 | 334 => 95 | 335 => 96 | 336 => 97 | 344 => 122 | n => n, fun | 31 => 28 | 9 => 9 | 3 => 3 | 46 => 84 | 0 => 0 | 51 => 114 | 53 => 116 | 4 => 4 | 183 => 106 | 182 => 105 | 131 => 111 | 5 => 5 | 218 => 126 | 222 => 130 | 228 => 150 | 229 => 117 | n => n, fun | n => n⟩
theorem Tryz.lays190 : Go.Proofs.Lays.n190 Tryz.prog Tryz.lays190_ren := {
  mixed := by kernel_rfl
  f125 := Tryz.func48.trans (congrArg some (by kernel_rfl))
  f128 := Tryz.func74.trans (congrArg some (by kernel_rfl))
  f129 := Tryz.func75.trans (congrArg some (by kernel_rfl))
  f190 := Tryz.func36.trans (congrArg some (by kernel_rfl))
  f258 := Tryz.func47.trans (congrArg some (by kernel_rfl))
  f302 := Tryz.func65.trans (congrArg some (by kernel_rfl))
  f303 := Tryz.func66.trans (congrArg some (by kernel_rfl))
  f304 := Tryz.func67.trans (congrArg some (by kernel_rfl))
  f305 := Tryz.func68.trans (congrArg some (by kernel_rfl))
  f306 := Tryz.func69.trans (congrArg some (by kernel_rfl))
  f307 := Tryz.func70.trans (congrArg some (by kernel_rfl))
  f308 := Tryz.func71.trans (congrArg some (by kernel_rfl))
  f309 := Tryz.func72.trans (congrArg some (by kernel_rfl))
  f310 := Tryz.func73.trans (congrArg some (by kernel_rfl))
  f329 := Tryz.func93.trans (congrArg some (by kernel_rfl))
  f330 := Tryz.func94.trans (congrArg some (by kernel_rfl))
  f333 := Tryz.func92.trans (congrArg some (by kernel_rfl))
  f334 := Tryz.func95.trans (congrArg some (by kernel_rfl))
  f335 := Tryz.func96.trans (congrArg some (by kernel_rfl))
  f336 := Tryz.func97.trans (congrArg some (by kernel_rfl))
  f344 := Tryz.func122.trans (congrArg some (by kernel_rfl))
  t0 := Tryz.underlying0
  a0 := Tryz.isAgg0
  z0 := Tryz.sizeOf0
  v0 := Tryz.zeroValue0
  t3 := Tryz.underlying3
  a3 := Tryz.isAgg3
  z3 := Tryz.sizeOf3
  v3 := Tryz.zeroValue3
  t4 := Tryz.underlying4
  a4 := Tryz.isAgg4
  z4 := Tryz.sizeOf4
  v4 := Tryz.zeroValue4
  t5 := Tryz.underlying5
  a5 := Tryz.isAgg5
  z5 := Tryz.sizeOf5
  v5 := Tryz.zeroValue5
  t9 := Tryz.underlying9
  a9 := Tryz.isAgg9
  z9 := Tryz.sizeOf9
  v9 := Tryz.zeroValue9
  t31 := Tryz.underlying28
  a31 := Tryz.isAgg28
  z31 := Tryz.sizeOf28
  v31 := Tryz.zeroValue28
  t46 := Tryz.underlying84
  a46 := Tryz.isAgg84
  z46 := Tryz.sizeOf84
  v46 := Tryz.zeroValue84
  t51 := Tryz.underlying114
  a51 := Tryz.isAgg114
  z51 := Tryz.sizeOf114
  v51 := Tryz.zeroValue114
  t53 := Tryz.underlying116
  a53 := Tryz.isAgg116
  z53 := Tryz.sizeOf116
  v53 := Tryz.zeroValue116
  t131 := Tryz.underlying111
  a131 := Tryz.isAgg111
  z131 := Tryz.sizeOf111
  v131 := Tryz.zeroValue111
  t182 := Tryz.underlying105
  a182 := Tryz.isAgg105
  z182 := Tryz.sizeOf105
  v182 := Tryz.zeroValue105
  t183 := Tryz.underlying106
  a183 := Tryz.isAgg106
  z183 := Tryz.sizeOf106
  v183 := Tryz.zeroValue106
  t218 := Tryz.underlying126
  a218 := Tryz.isAgg126
  z218 := Tryz.sizeOf126
  v218 := Tryz.zeroValue126
  t222 := Tryz.underlying130
  a222 := Tryz.isAgg130
  z222 := Tryz.sizeOf130
  v222 := Tryz.zeroValue130
  t228 := Tryz.underlying150
  a228 := Tryz.isAgg150
  z228 := Tryz.sizeOf150
  v228 := Tryz.zeroValue150
  t229 := Tryz.underlying117
  a229 := Tryz.isAgg117
  z229 := Tryz.sizeOf117
  v229 := Tryz.zeroValue117 }
end Go.Proofs
namespace Go.Proofs.YtlnejmmhhmmomaaGreatDoor
open Go.RowKit Go.Shelf Go.Lib Go.Maps Go.Sort
theorem sortS : SortS := fun blk off cap ss w hH hb hl => Any.slices_Sort_string Tryz.lays190 blk off cap ss w hH hb hl
/-- All rows of cells are as they were. -/
def KC (W W' : World) : Prop := (∀ (i : Nat) c t z, W.heap[i]? = some (.cells c t z) → W'.heap[i]? = some (.cells c t z)) ∧ W.heap.size ≤ W'.heap.size
theorem KC.refl (W : World) : KC W W := ⟨fun _ _ _ _ h => h, Nat.le_refl _⟩
theorem KC.trans {A B C : World} (h : KC A B) (k : KC B C) : KC A C := ⟨fun i c t z hi => k.1 i c t z (h.1 i c t z hi), Nat.le_trans h.2 k.2⟩
theorem KC.ofBelow {W W' : World} (h : Below W.heap.size W W') : KC W W' := ⟨fun i _ _ _ hi => (h.block i (Array.getElem?_eq_some_iff.1 hi).1).trans hi, h.size⟩
set_option maxRecDepth 100000 in
set_option maxHeartbeats 2000000 in
theorem back1_in (n : Nat) (hn : 1 ≤ n) (l Bn g cap B : Nat) (C : List ByteArray) (cur : Array Value) (hl : C.length ≤ 1000) (J Jx : List (Nat × ByteArray) → World → Prop) (_hJ : AbidesFrom B J)
    (hY : ∀ pre x W, J pre W → pre.length < C.length → YieldAt Fence.wide (n - 1) Tryz.prog l #[.int .i64 ((x.1 : Nat) : Int), .string x.2] W fun e W' =>
      (e = .returned (.bool true) ∧ J (pre ++ [x]) W' ∧ KC W W') ∨ (e = .returned (.bool false) ∧ Jx (pre ++ [x]) W'))
    (W : World) (hBn : W.heap[Bn]? = some (.cells #[.slice (some ⟨g, 0, none⟩) C.length cap] 28 (0, 0))) (hg : W.heap[g]? = some (.cells cur 9 (0, 0))) (hcur : ∀ k (h : k < C.length), cur[k]? = some (.string C[k])) (h0 : J [] W) :
    CallsIn Fence.wide n Tryz.prog 33 #[.func (.yield l) #[] #[], .pointer (some ⟨Bn, 0, none⟩)] W fun e W' => (∃ v, e = .returned v) ∧
      ((∃ ys : List (Nat × ByteArray), ys.map (·.2) = C.reverse ∧ J ys W') ∨ (∃ pre : List (Nat × ByteArray), True ∧ Jx pre W')) := by
  have hcell : W.cell? ⟨Bn, 0, none⟩ = some (.slice (some ⟨g, 0, none⟩) C.length cap) := by rw [cell_of_row W Bn 0 _ _ _ hBn]; rfl
  refine callsIn_of_wp Tryz.func33 rfl trivial ?_ rfl
  simp only [Tryz.ntmps33, List.size_toArray, List.length_cons, List.length_nil, Nat.reduceAdd, Nat.reduceSub, Array.replicate_succ, Array.replicate_zero, List.push_toArray, List.append_toArray, List.nil_append, List.cons_append]
  have hlI : (C.length : Int) ≤ 1000 := by omega
  have hw : IntKind.i64.wrap ((C.length : Int) - 1) = (C.length : Int) - 1 := by simp [IntKind.wrap, IntKind.bits, IntKind.signed]; omega
  gi_wp2
  have HYd := hid0 hY
  have H0 := hid0 h0
  have HBn := hid0 hBn
  have HG := hid0 hg
  have HC := hid0 hcur
  clear hY h0 hBn hg hcur hcell
  gi_loopw [3] (fun i wr => ∃ (k : Nat) (pre : List (Nat × ByteArray)), k ≤ C.length ∧ i = .int .i64 ((k : Int) - 1) ∧ Hid (pre.map (·.2) = (C.drop k).reverse) ∧ Hid (J pre wr) ∧ Hid (KC W wr)) (fun i _ => (intOf i + 1).toNat)
  case atStart => exact ⟨C.length, [], Nat.le_refl _, rfl, hid0 (by simp), H0, hid0 (KC.refl _)⟩
  case round =>
    clear H0
    obtain ⟨k, pre, hk, rfl, HP, HJ, HK⟩ := hrel
    cases k with
    | zero =>
      have hneg : ¬ (0 : Int) ≤ ((0 : Nat) : Int) - 1 := by omega
      gi_wp2
      go_end0
      exact ⟨⟨_, rfl⟩, .inl ⟨pre, by have h := HP.out; rw [List.drop_zero] at h; exact h, HJ.out⟩⟩
    | succ m =>
      have hm : (((m + 1 : Nat) : Int) - 1) = (m : Int) := by omega
      rw [hm]
      have hcell : wr.cell? ⟨Bn, 0, none⟩ = some (.slice (some ⟨g, 0, none⟩) C.length cap) := by rw [cell_of_row wr Bn 0 _ _ _ (HK.out.1 _ _ _ _ HBn.out)]; rfl
      have hel : wr.cell? ⟨g, m, none⟩ = some (.string C[m]) := by rw [cell_of_row wr g m _ _ _ (HK.out.1 _ _ _ _ HG.out)]; exact HC.out m (by omega)
      have hpl : pre.length < C.length := by have h := congrArg List.length HP.out; simp at h; omega
      obtain ⟨fn, tmps, assign, body, hy, hR⟩ := HYd.out pre (m, C[m]) wr HJ.out hpl
      have HR := hid0 hR
      have HP2 : Hid ((pre ++ [(m, C[m])]).map (·.2) = (C.drop m).reverse) := hid0 (by
        rw [List.map_append, HP.out, List.drop_eq_getElem_cons (by omega : m < C.length), List.reverse_cons]; rfl)
      have m0 : (0 : Int) ≤ (m : Int) := by omega
      have m1 : (m : Int) < (C.length : Int) := by omega
      generalize C[m] = x at *
      clear hR hm hpl HP HJ
      gi_wp2
      clear hy
      refine HR.out.mono ?_
      rintro e W3 (⟨rfl, hJ3, hk3⟩ | ⟨rfl, hJx3⟩)
      · have HJ3 := hid0 hJ3
        have HK3 := hid0 (HK.out.trans hk3)
        clear hJ3 hk3
        gi_wp2
        go_roundw
        case rel => exact ⟨m, pre ++ [(m, x)], by omega, by go_num, HP2, HJ3, HK3⟩
        case measure => simp [intOf]
      · gi_wp2
        refine bodyPost_ret (results_none rfl _ _ _) rfl ?_
        exact ⟨⟨_, rfl⟩, .inr ⟨pre ++ [(m, x)], trivial, hJx3⟩⟩
theorem back_stops (n : Nat) (hn : 1 ≤ n) (Bn g cap : Nat) (C : List ByteArray) (cur : Array Value) (hl : C.length ≤ 1000) (w : World) (hBn : w.heap[Bn]? = some (.cells #[.slice (some ⟨g, 0, none⟩) C.length cap] 28 (0, 0))) (hg : w.heap[g]? = some (.cells cur 9 (0, 0))) (hcur : ∀ k (h : k < C.length), cur[k]? = some (.string C[k])) :
    SeqStopsK Fence.wide n Tryz.prog 33 #[.pointer (some ⟨Bn, 0, none⟩)] (fun x : Nat × ByteArray => #[.int .i64 ((x.1 : Nat) : Int), .string x.2]) KC (fun ys => ys.map (·.2) = C.reverse) (fun _ => True) C.length w := fun l J Jx W hW hJ _ hY h0 =>
  back1_in n hn l Bn g cap W.heap.size C cur hl J Jx hJ hY W ((hW.block Bn (Array.getElem?_eq_some_iff.1 hBn).1).trans hBn) ((hW.block g (Array.getElem?_eq_some_iff.1 hg).1).trans hg) hcur h0
set_option maxRecDepth 100000 in
theorem back_in (n : Nat) (v : Value) (hv : ∃ a n c, v = .slice a n c) (w : World) : CallsIn Fence.wide n Tryz.prog 15 #[v] w fun e w' => e = .returned (.func (.func 33) #[] #[.pointer (some ⟨w.heap.size, 0, none⟩)]) ∧ w' = w.alloc (.cells #[v] 28) := by
  obtain ⟨a, n', c, rfl⟩ := hv
  refine callsIn_of_wp Tryz.func15 rfl trivial ?_ rfl
  simp only [Tryz.ntmps15, List.size_toArray, List.length_cons, List.length_nil, Nat.reduceAdd, Nat.reduceSub, Array.replicate_succ, Array.replicate_zero, List.push_toArray, List.append_toArray, List.nil_append, List.cons_append]
  gi_wp2
  go_ret
  exact ⟨rfl, rfl⟩
end Go.Proofs.YtlnejmmhhmmomaaGreatDoor
