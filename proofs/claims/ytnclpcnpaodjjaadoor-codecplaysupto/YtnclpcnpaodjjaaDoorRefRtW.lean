/-
  The walks of caesuraref1's Reader: NewReader, Text.
-/
import Derived.Test.YtnclpcnpaodjjaaDoorRefRdW
namespace Go.Proofs.YtnclpcnpaodjjaaDoor
open Go.RowKit
set_option maxRecDepth 10000 in
theorem refNewR_any (l : List UInt8) (v : Value) (w : World) (ho : Own w 0 v l) (hl : l.length ≤ 140737488351232) :
    Calls Tryd.prog 8 #[v] w fun e w' => ∃ R v', e = .returned (.pointer (some ⟨R, 0, none⟩)) ∧ w.heap.size ≤ R ∧ (∀ k, v'.ownBlock = some k → w.heap.size ≤ k) ∧ RRd w' R v' l 0 ∧ Below w.heap.size w w' := by
  obtain ⟨i0, hi, hz0, hz1, hz2⟩ := info_parts infoU8
  have h0 := ho
  rcases ho.2 with ⟨rfl, hn⟩ | ⟨g, cap, cur, rfl, _⟩
  · have hl0 : l = [] := List.length_eq_zero_iff.1 hn
    subst hl0
    clear ho h0
    go_enter Tryd.func8, Tryd.ntmps8
    go_wp2
    go_ret
    exact ⟨w.heap.size, .slice none 0 0, rfl, Nat.le_refl _, fun k hk => by simp [Value.ownBlock] at hk, ⟨heap_alloc_new w _, World.ownsRow_nil _ _ _ _, Nat.zero_le _⟩, alloc_below _ _⟩
  · have HC := hid0 (cells_add h0)
    clear ho h0
    go_enter Tryd.func8, Tryd.ntmps8
    go_wp2_with (at_builtin; refine wpList_append_own _ rfl _ _ 26 rfl w.heap.size 5 i0 (.int .u8 0) 1 1 Tryd.underlying26 hi hz0 hz1 hz2 rfl (by decide) _ _ _ rfl (World.ownsRow_nil _ _ _ _) ⟨g, 0, none⟩ l.length cap (cellsOf l) rfl (by simp [cellsOf]) HC.out (cells_one _) (by unfold maxLen; omega) (by omega) (Nat.le_refl _) ?_; intro v1 w1 hown1 hgrow1 _; have hsl : ∃ a n c, v1 = .slice a n c := (by rcases hown1.2 with ⟨h, _⟩ | ⟨g', c', cur', h, _⟩; exact ⟨_, _, _, h⟩; exact ⟨_, _, _, h⟩); obtain ⟨a1, n1, c1, rfl⟩ := hsl; have HO1 := hid0 hown1; have HG1 : Hid (w.grownBy w1 none) := hgrow1; clear hown1 hgrow1)
    go_wp2
    go_ret
    have ho := HO1.out
    rw [Nat.zero_add, List.nil_append] at ho
    have ho' : Own w1 w.heap.size (.slice a1 n1 c1) l := ho
    have hb : Below w.heap.size w w1 := (Below.refl _ _).grown HG1.out (Nat.le_refl _) (fun k hk => by simp at hk)
    exact ⟨w1.heap.size, .slice a1 n1 c1, rfl, hb.size, fun k hk => ho'.block_ge hk, ⟨heap_alloc_new w1 _, (ho'.base_le (Nat.zero_le _)).later (alloc_below _ _), Nat.zero_le _⟩, hb.trans ((alloc_below w1 _).mono hb.size)⟩
/-- What the reference's Text answers; where it stands then. -/
def textVal (l : List UInt8) (most : Int) : NumR → Value
  | .ok n k => if most < (n : Int) then .tuple #[.string ⟨#[]⟩, .int .i64 3] else if l.length < k + n then .tuple #[.string ⟨#[]⟩, .int .i64 4] else .tuple #[.string ⟨((l.drop k).take n).toArray⟩, .int .i64 0]
  | .form => .tuple #[.string ⟨#[]⟩, .int .i64 10]
  | .short => .tuple #[.string ⟨#[]⟩, .int .i64 4]
def textAt (l : List UInt8) (most : Int) (p : Nat) : NumR → Nat
  | .ok n k => if most < (n : Int) then p else if l.length < k + n then p else p + (k + n)
  | _ => p
theorem ref_conv {w : World} {B g cap q : Nat} {l : List UInt8} (h : RRd w B (.slice (some ⟨g, 0, none⟩) l.length cap) l q) (p k j c : Nat) (hk : p + k + j ≤ l.length) (v1 v2 : Value) :
    (convert 26 9 (.slice (some ⟨g, p + k, none⟩) j c)).run Tryd.prog ((w.setCell ⟨B, 1, none⟩ v1).setCell ⟨B, 1, none⟩ v2) = .ok (.string ⟨(((l.drop p).drop k).take j).toArray⟩) ((w.setCell ⟨B, 1, none⟩ v1).setCell ⟨B, 1, none⟩ v2) := by
  apply toString_any
  have hne : ¬ g = B := fun e => h.ne (by simp [Value.ownBlock, e])
  refine .inr ⟨g, p + k, c, by simp; omega, fun i hi => ?_⟩
  have hi' : i < j := by simp at hi; omega
  have e1 : ((w.setCell ⟨B, 1, none⟩ v1).setCell ⟨B, 1, none⟩ v2).heap[g]? = w.heap[g]? := (heap_setCell_other _ ⟨B, 1, none⟩ g v2 hne).trans (heap_setCell_other w ⟨B, 1, none⟩ g v1 hne)
  rw [World.cell?_of_block (w := w) (w' := (w.setCell ⟨B, 1, none⟩ v1).setCell ⟨B, 1, none⟩ v2) (a := ⟨g, p + k + i, none⟩) e1]
  have := h.own.cell (p + k + i) (by omega)
  rw [Nat.zero_add] at this
  rw [this]
  simp [Nat.add_assoc]
set_option maxRecDepth 10000 in
set_option maxHeartbeats 800000 in
theorem refRText_any (B : Nat) (v : Value) (l : List UInt8) (p : Nat) (most : Int) (w : World) (h : RRd w B v l p) (hl : l.length ≤ 140737488351232) :
    Calls Tryd.prog 14 #[.pointer (some ⟨B, 0, none⟩), .int .i64 most] w fun e w' => e = .returned (textVal (l.drop p) most (num (l.drop p))) ∧ RRd w' B v l (textAt (l.drop p) most p (num (l.drop p))) ∧ Only w w' (fun i => i = B) := by
  obtain ⟨q0, q1, f⟩ := h.cells
  have f1 := f 1
  have hm := refRNum_any B v l p w h (by omega)
  have HR := hid0 h
  have hle := h.le
  cases hr : num (l.drop p) with
  | form =>
    simp only [hr, refVal, refAt] at hm
    clear h f
    go_enter Tryd.func14, Tryd.ntmps14
    go_wp2_with (go_at_call 16; refine hm.mono ?_; rintro e w1 ⟨rfl, hr1, ho1⟩; have HR1 := hid0 hr1; have HO1 := hid0 ho1; clear hr1 ho1)
    go_ret2
    exact ⟨rfl, HR1.out, HO1.out⟩
  | short =>
    simp only [hr, refVal, refAt] at hm
    clear h f
    go_enter Tryd.func14, Tryd.ntmps14
    go_wp2_with (go_at_call 16; refine hm.mono ?_; rintro e w1 ⟨rfl, hr1, ho1⟩; have HR1 := hid0 hr1; have HO1 := hid0 ho1; clear hr1 ho1)
    go_ret2
    exact ⟨rfl, HR1.out, HO1.out⟩
  | ok n k =>
    simp only [hr, refVal, refAt] at hm
    have hkl := numFrom_le 0 0 _ n k hr
    have hpk : p + k ≤ l.length := by have := hkl.2; simp at this; omega
    rcases h.own.2 with ⟨rfl, hn0⟩ | ⟨g, cap, cur, rfl, _, hh, hcapI, _⟩
    · have hl0 : l = [] := List.length_eq_zero_iff.1 hn0
      subst hl0
      simp [num, numFrom] at hr
    clear h f hkl hh
    by_cases hmo : most < (n : Int)
    · go_enter Tryd.func14, Tryd.ntmps14
      go_wp2_with (go_at_call 16; refine hm.mono ?_; rintro e w1 ⟨rfl, hr1, ho1⟩; obtain ⟨r0, r1, rf⟩ := hr1.cells; have rf1 := rf 1; have HR1 := hid0 hr1; have HO1 := hid0 ho1; clear hr1 ho1 rf)
      go_ret2
      exact ⟨by simp only [textVal, if_pos hmo]; rfl, by simp only [textAt, if_pos hmo]; exact HR1.out.set p (by omega), HO1.out.trans (Only.setCell _ B 1 _) (fun i hi => .inl hi)⟩
    · have HMo := hid0 hmo
      by_cases hsh : l.length < p + (k + n)
      · have HD := hid0 (show (l.drop p).length < k + n by simp; omega)
        have hshI : (l.length : Int) - ((p : Int) + (k : Int)) < (n : Int) := by omega
        go_enter Tryd.func14, Tryd.ntmps14
        go_wp2_with (go_at_call 16; refine hm.mono ?_; rintro e w1 ⟨rfl, hr1, ho1⟩; obtain ⟨r0, r1, rf⟩ := hr1.cells; have rf1 := rf 1; have HR1 := hid0 hr1; have HO1 := hid0 ho1; clear hr1 ho1 rf)
        go_ret2
        exact ⟨by simp only [textVal, if_neg (Int.not_lt.2 HMo.out), if_pos HD.out]; rfl, by simp only [textAt, if_neg (Int.not_lt.2 HMo.out), if_pos HD.out]; exact HR1.out.set p (by omega), HO1.out.trans (Only.setCell _ B 1 _) (fun i hi => .inl hi)⟩
      · have hd : ¬ (l.drop p).length < k + n := by simp; omega
        have hshI : ¬ (l.length : Int) - ((p : Int) + (k : Int)) < (n : Int) := by omega
        have hb1 : (p : Int) + (k : Int) + (n : Int) ≤ (l.length : Int) := by omega
        have HD := hid0 hd
        have HK : Hid (p + k + n ≤ l.length) := hid0 (by omega)
        clear hd
        by_cases hck : cap = p + k
        · have HN0 : Hid (n = 0) := hid0 (by omega)
          have hckI : (cap : Int) = (p : Int) + (k : Int) := by omega
          clear hck
          go_enter Tryd.func14, Tryd.ntmps14
          go_wp2_with (go_at_call 16; refine hm.mono ?_; rintro e w1 ⟨rfl, hr1, ho1⟩; obtain ⟨r0, r1, rf⟩ := hr1.cells; have rf1 := rf 1; have HR1 := hid0 hr1; have HO1 := hid0 ho1; have hcv : ∀ v1 v2, (convert 26 9 (.slice (some ⟨g, 0, none⟩) n (cap - (p + k)))).run Tryd.prog ((w1.setCell ⟨B, 1, none⟩ v1).setCell ⟨B, 1, none⟩ v2) = .ok (.string ⟨#[]⟩) ((w1.setCell ⟨B, 1, none⟩ v1).setCell ⟨B, 1, none⟩ v2) := (fun v1 v2 => by rw [HN0.out]; exact none_conv _ g 0 _ [] rfl); clear hr1 ho1 rf)
          go_ret2
          exact ⟨by simp only [textVal, if_neg (Int.not_lt.2 HMo.out), if_neg HD.out]; rw [HN0.out, List.take_zero]; rfl, by simp only [textAt, if_neg (Int.not_lt.2 HMo.out), if_neg HD.out]; exact (HR1.out.set p (by omega)).set' _ _ (by omega) (by omega), (HO1.out.trans (Only.setCell _ B 1 _) (fun i hi => .inl hi)).trans (Only.setCell _ B 1 _) (fun i hi => .inl hi)⟩
        · have hckI : ¬ (cap : Int) = (p : Int) + (k : Int) := by omega
          go_enter Tryd.func14, Tryd.ntmps14
          go_wp2_with (go_at_call 16; refine hm.mono ?_; rintro e w1 ⟨rfl, hr1, ho1⟩; obtain ⟨r0, r1, rf⟩ := hr1.cells; have rf1 := rf 1; have HR1 := hid0 hr1; have HO1 := hid0 ho1; have hcv := (fun v1 v2 => ref_conv hr1 p k n (cap - (p + k)) HK.out v1 v2); clear hr1 ho1 rf)
          go_ret2
          exact ⟨by simp only [textVal, if_neg (Int.not_lt.2 HMo.out), if_neg HD.out, List.drop_drop]; rfl, by simp only [textAt, if_neg (Int.not_lt.2 HMo.out), if_neg HD.out]; exact (HR1.out.set p (by omega)).set' _ _ (by omega) (by omega), (HO1.out.trans (Only.setCell _ B 1 _) (fun i hi => .inl hi)).trans (Only.setCell _ B 1 _) (fun i hi => .inl hi)⟩
end Go.Proofs.YtnclpcnpaodjjaaDoor
