/-
  PlEcW, MbEW.
-/
import Derived.Test.YtbbejfkgopcjoaaDoorNeac
import Derived.Test.YtbbejfkgopcjoaaDoorNead
import Derived.RangeFuncNested
import Derived.RangeFuncBound
import Derived.RangeFuncCalls
import Derived.RangeFuncLeaves
import Derived.RangeFuncBox
import Derived.Shelf.Abstract
import Derived.OwnWalkIn
import Derived.TacticsInMore
import Derived.LoopNIn
import Derived.LoopIn
import Derived.Shelf.RegionOpen
namespace Go.Proofs.YtbbejfkgopcjoaaDoor
open Go.RowKit Go.Shelf
theorem Only.putObj (w : World) (l : Nat) (o : Obj) (S : Nat → Prop) (hl : S l) : Only w (w.putObj l o) S :=
  ⟨rfl, rfl, rfl, by simp, fun k _ hs => World.putObj_heap_other (fun e => hs (e ▸ hl))⟩
theorem Only.ofNew {w w' : World} (h : Below w.heap.size w w') (S : Nat → Prop) : Only w w' S := Only.ofBelow h S (fun i h1 h2 => by omega)
/-- An activation in whose slots p and q a place is put. -/
def actE (a : Act) (p q x : Nat) : Act := { tmps := (a.tmps.setIfInBounds p (.int .i64 (x : Int))).setIfInBounds q (.int .i64 (x : Int)), defers := [] }
end Go.Proofs.YtbbejfkgopcjoaaDoor
namespace Go.Proofs.YtbbejfkgopcjoaaDoor
open Go.RowKit Go.Shelf
/-- What a loop's round must leave as it is: the records of loops, the boxes of words and of texts. -/
def kT : Obj → Bool
  | .loop _ => true
  | .deferred _ => true
  | .cells _ t _ => t == 130 || t == 9
  | _ => false
structure KpT (W W' : World) : Prop where
  size : W.heap.size ≤ W'.heap.size
  keep : ∀ (k : Nat) (o : Obj), W.heap[k]? = some o → kT o = true → W'.heap[k]? = some o
theorem KpT.refl (W : World) : KpT W W := ⟨Nat.le_refl _, fun _ _ h _ => h⟩
theorem KpT.trans {A B C : World} (h : KpT A B) (k : KpT B C) : KpT A C := ⟨Nat.le_trans h.size k.size, fun i o ho hk => k.keep i o (h.keep i o ho hk) hk⟩
theorem KpT.below {A B : World} (h : Below A.heap.size A B) : KpT A B := ⟨h.size, fun i _o ho _ => (h.block i (Array.getElem?_eq_some_iff.1 ho).1).trans ho⟩
attribute [local go_sem] Oper.semAt_some
set_option maxRecDepth 100000 in
set_option maxHeartbeats 2000000 in
theorem eachW_in (n : Nat) (hn : 1 ≤ n) (l i : Nat) (f : Nat → Bool) (hi : i < 4294967296) (J : List Nat → World → Prop) (w : World)
    (hJa : ∀ pre A B, J pre A → Below A.heap.size A B → J pre B)
    (hJs : ∀ pre A, J pre A → TabAt 11 Lib.deBruijn64tab A)
    (hY : ∀ pre x A, J pre A → 64 * i ≤ x → x < 64 * (i + 1) → f x = true → pre = plB f x → YieldAt Fence.wide (n - 1) Tryd.prog l #[.int .i64 (x : Int)] A fun e A' => e = .returned (.bool true) ∧ J (pre ++ [x]) A' ∧ KpT A A')
    (h0 : J (plB f (64 * i)) w) :
    CallsIn Fence.wide n Tryd.prog 68 #[.agg #[.int .i64 (i : Int), .int .u64 (wordOf f i : Int)], .func (.yield l) #[] #[]] w fun e w' => (∃ v, e = .returned v) ∧ J (plB f (64 * (i + 1))) w' := by
  obtain ⟨w0, hw0⟩ : ∃ w0, w0 = w.alloc (.cells #[.int .i64 (i : Int), .int .u64 (wordOf f i : Int)] 130) := ⟨_, rfl⟩
  have hb0 : Below w.heap.size w w0 := by rw [hw0]; exact (Below.refl _ _).alloc (Nat.le_refl _) _
  have hr0 : w0.heap[w.heap.size]? = some (.cells #[.int .i64 (i : Int), .int .u64 (wordOf f i : Int)] 130 (0, 0)) := by rw [hw0]; exact heap_alloc_new w _
  have HKp : Hid (∀ A, KpT w0 A → A.cell? ⟨w.heap.size, 0, none⟩ = some (.int .i64 (i : Int)) ∧ A.cell? ⟨w.heap.size, 1, none⟩ = some (.int .u64 (wordOf f i : Int))) := hid0 (fun A ho => by
    have hq : A.heap[w.heap.size]? = _ := ho.keep _ _ hr0 rfl
    exact ⟨by rw [cell_of_row _ _ _ _ _ _ hq]; rfl, by rw [cell_of_row _ _ _ _ _ _ hq]; rfl⟩)
  have HJ0 := hid0 (hJa _ _ _ h0 hb0)
  have HJa := hid0 hJa
  have HJs := hid0 hJs
  have HY := hid0 hY
  have HO0 : Hid (KpT w0 w0) := hid0 (KpT.refl _)
  obtain ⟨d0, d1⟩ := HKp.out w0 HO0.out
  have hiI : (i : Int) < 4294967296 := by omega
  have hfold := hw0.symm
  clear hJa hJs hY h0 hw0 hb0 hr0 hi
  refine callsIn_of_wp Tryd.func68 rfl trivial ?_ rfl
  simp only [Tryd.ntmps68, List.size_toArray, List.length_cons, List.length_nil, Nat.reduceAdd, Nat.reduceSub, Array.replicate_succ, Array.replicate_zero, List.push_toArray, List.append_toArray, List.nil_append, List.cons_append]
  gi_wp2
  gi_loopw [4] (fun x wr => ∃ c : Nat, c ≤ 64 ∧ x = .int .u64 (wordFrom f c i : Int) ∧ Hid (J (plB f (64 * i + c)) wr) ∧ Hid (KpT w0 wr)) (fun x _ => (intOf x).toNat)
  case atStart => exact ⟨0, Nat.zero_le _, by rw [wordFrom_zero], HJ0, HO0⟩
  case round =>
    clear d0 d1 hfold HJ0 HO0
    obtain ⟨c, hc, rfl, HJ, HO⟩ := hrel
    have hwl := wordFrom_lt f c i
    by_cases hw : wordFrom f c i = 0
    · have HE := hid0 (wordFrom_none hw hc)
      have HF : Hid (J (plB f (64 * (i + 1))) wr) := hid0 (by rw [HE.out]; exact HJ.out)
      rw [hw]
      gi_wp2
      go_end0
      exact ⟨⟨_, rfl⟩, HF.out⟩
    · obtain ⟨t, ht, hct, ht64, hft, hnx, hpl⟩ := wordFrom_some hw
      have HNx := hid0 hnx
      have HPl := hid0 hpl
      have HPc : Hid (plB f (64 * i + c) = plB f (64 * i + t)) := hid0 (by
        have h1 := plB_succ f (64 * i + t)
        rw [if_pos hft, show 64 * i + t + 1 = 64 * i + (t + 1) by omega, hpl] at h1
        exact List.append_cancel_right h1)
      have HFt := hid0 hft
      have HJd := hid0 (HJa.out _ _ _ HJ.out (Below.refl wr.heap.size wr).drew)
      have HT := hid0 (HJs.out _ _ HJd.out)
      have HC := hid0 (Any7.bits_TrailingZeros64 Tryd.lays7n29 (wordFrom f c i) hwl wr.drew (fun _ => HT.out))
      rw [ht] at HC
      have HW := hid0 hw
      obtain ⟨d0, _⟩ := HKp.out wr HO.out
      clear hnx hpl hft hw ht
      generalize hx : wordFrom f c i = x at *
      have hx0 : ¬ (x : Int) = 0 := by have := HW.out; omega
      have hxI : (x : Int) < 18446744073709551616 := by omega
      have htI : (t : Int) < 64 := by omega
      have hxI0 : (1 : Int) ≤ (x : Int) := by omega
      have HX := hid0 hwl
      have HE : Hid (((64 * i + t : Nat) : Int) = (i : Int) * 64 + (t : Int)) := hid0 (by omega)
      clear hwl hx hct
      have hx1 : ((x : Int) != 0) = true := by simpa using hx0
      have HX0 := hid0 hx0
      have HX1 := hid0 hxI0
      have HX2 := hid0 hxI
      clear hx0 hxI0 hxI
      have hw1 : IntKind.i64.wrap ((i : Int) * 64) = (i : Int) * 64 := by rw [IntKind.wrap_i64]; omega
      have hw2 : IntKind.i64.wrap ((i : Int) * 64 + (t : Int)) = (i : Int) * 64 + (t : Int) := by rw [IntKind.wrap_i64]; omega
      have hmx : Tryd.prog.follows .mixedOrders = true := by kernel_rfl
      have hf1 : Fence.wide.fn 90 := trivial
      gi_wp2
      gi_region_with_o (first
        | (gi_at_call 90; go_loud ((refine (callsIn_wide.2 HC.out).mono ?_; rintro e w2 ⟨rfl, rfl⟩; obtain ⟨fn, tmps, assign, body, hy, hR⟩ := HY.out _ (64 * i + t) _ HJd.out (by omega) (by omega) HFt.out HPc.out; rw [HE.out] at hy; have HRd := hid0 hR; clear hR)))
        | (have hq := HRd.out; refine hq.mono ?_; rintro e W3 ⟨rfl, hJ3, hO3⟩; have HJ3 : Hid (J (plB f (64 * i + (t + 1))) W3) := hid0 (by rw [HPl.out]; exact hJ3); have HO3 : Hid (KpT w0 W3) := hid0 (HO.out.trans (show KpT wr W3 from ⟨hO3.size, hO3.keep⟩)); clear hJ3 hO3 hy HRd hq)
        | fail)
      all_goals
        have hxI := HX2.out
        have hxI0 := HX1.out
        have hbits : bits .and .u64 (x : Int) ((x : Int) - 1) = (wordFrom f (t + 1) i : Int) := by
          rw [show (x : Int) - 1 = ((x - 1 : Nat) : Int) by omega, bits_and_u64_nat x _ HX.out (by have := HX.out; omega), HNx.out]
        have HLt : Hid (wordFrom f (t + 1) i < x) := hid0 (by have h1 := HNx.out; have h2 := HW.out; have h3 : x &&& (x - 1) ≤ x - 1 := Nat.and_le_right; omega)
        have HT64 := hid0 ht64
        clear HC HJ HO HT ht64 HJd hw1 hw2 hmx hf1 d0 hx1 htI
        simp only [List.getElem_toArray, List.getElem_cons_zero, List.getElem_cons_succ, Act.put, List.setIfInBounds_toArray, List.set_cons_zero, List.set_cons_succ]
        refine ‹∀ (a : Act) (w : World), _ → _› _ _ ?_
        gi_wp2
        go_roundw
        case rel => exact ⟨t + 1, by have := HT64.out; omega, by rfl, HJ3, HO3⟩
        case measure => have := HLt.out; simp [intOf]; omega
end Go.Proofs.YtbbejfkgopcjoaaDoor
