/-
  The walk of caesuraref5's Classes.
-/
import Derived.Test.YtpimameogmkpcaaDoorPbR3W
import Derived.Test.YtpimameogmkpcaaDoorPbR5W
import Derived.Test.YtpimameogmkpcaaDoorPbMtW
namespace Go.Proofs.YtpimameogmkpcaaDoor
open Go.RowKit Go.Shelf
theorem owns_snocI {w wr w1 : World} {base : Nat} {v v' : Value} {L : List Int} {c : Int} {o : Obj} {n : Nat} (hn : n = L.length) (hown : OwnI wr base v L)
    (hown' : w1.ownsRow base 3 1 v' (n + 1) (L.map (Value.int .i64) ++ [.int .i64 c])) (hgrow : (wr.alloc o).grownBy w1 v.ownBlock) (hbel : Below base w wr) (hb : base ≤ w.heap.size) :
    OwnI w1 base v' (L ++ [c]) ∧ Below base w w1 := by
  subst hn
  have hsz := hbel.size
  refine ⟨?_, (hbel.alloc (by omega) o).grown hgrow (by simp; omega) (fun k hk => (World.ownsRow.lt hown k hk).1)⟩
  unfold OwnI
  rw [List.length_append, List.length_singleton, List.map_append]
  exact hown'
set_option maxRecDepth 10000 in
set_option maxHeartbeats 1600000 in
theorem refClasses_any (N : Int) (w : World) (lo U : Nat) (L : List ByteArray) (ss : List Sp) (vN vS : Value) (ps : List Int) (a : Option Addr) (cap : Nat) (hs : ss.length ≤ 65536) (hl : ps.length ≤ 1000000000) (hR : Rise N ss) (hN : N ≤ 254) (h : RTab w lo U L ss vN vS) (ha : UP w a ps) (hab : ∀ p, a = some p → p.block < w.heap.size) :
    Calls Tryd.prog 36 #[.pointer (some ⟨U, 0, none⟩), .slice a ps.length cap] w fun e w' => ∃ v, e = .returned v ∧ OwnI w' w.heap.size v (ps.map (cls ss)) ∧ Below w.heap.size w w' := by
  obtain ⟨i0, hi, hz0, hz1, hz2⟩ := info_parts infoInt
  have HR := hid0 hR
  have HT := hid0 h
  have HA := hid0 ha
  have HAB := hid0 hab
  clear hR h ha hab
  go_enter Tryd.func36, Tryd.ntmps36
  go_wp2
  go_loopw [5, 6] (fun v i wr => ∃ k : Nat, k ≤ ps.length ∧ i = .int .i64 (k : Int) ∧ Hid (OwnI wr w.heap.size v ((ps.take k).map (cls ss))) ∧ Hid (Below w.heap.size w wr)) (fun _ i _ => ps.length - (intOf i).toNat)
  case atStart => exact ⟨0, Nat.zero_le _, rfl, hid0 (World.ownsRow_nil _ _ _ _), hid0 (Below.refl _ _)⟩
  case round =>
    obtain ⟨k, hk, rfl, HO, HB⟩ := hrel
    have hbs := HB.out.size
    by_cases hlt : k < ps.length
    · obtain ⟨b, off, rfl, hbw, hc, _, _⟩ := HA.out.at' k hlt
      have hc' := (HB.out.cell (p := ⟨b, off + k * 3, none⟩) hbw).trans hc
      have hkI : (k : Int) < (ps.length : Int) := by omega
      have hkI0 : (0 : Int) ≤ (k : Int) := by omega
      have HCL : Hid (Calls Tryd.prog 22 #[.pointer (some ⟨U, 0, none⟩), .int .i64 ps[k]] wr fun e w' => e = .returned (.int .i64 (cls ss ps[k])) ∧ w' = wr) := hid0 (by
        have hT := HT.out.below HB.out
        obtain ⟨aS, cS, rfl, hpa, _, _⟩ := hT.spans.pa
        exact refClass_any N wr U ss aS cS ps[k] (by omega) HR.out hN (by rw [cell_of_row _ _ _ _ _ _ hT.row]; rfl) hpa)
      have HTK : Hid ((ps.take (k + 1)).map (cls ss) = (ps.take k).map (cls ss) ++ [cls ss ps[k]]) := hid0 (by rw [List.take_add_one, List.getElem?_eq_getElem hlt, List.map_append]; rfl)
      have htl : ((ps.take k).map (cls ss)).length = k := by rw [List.length_map, List.length_take]; omega
      have hOO : wr.ownsRow w.heap.size 3 1 u5 k (((ps.take k).map (cls ss)).map (Value.int .i64)) := by have h := HO.out; unfold OwnI at h; rw [htl] at h; exact h
      have HOO := hid0 hOO
      have HTL := hid0 htl
      generalize cls ss ps[k] = x at *
      generalize (ps.take k).map (cls ss) = X at *
      clear hc hOO htl
      go_wp2_with (first
        | (go_at_call 22; refine HCL.out.mono ?_; rintro e w3 ⟨rfl, rfl⟩)
        | (at_builtin; refine wpList_append_own _ rfl _ _ 26 rfl w.heap.size 3 i0 (.int .i64 0) 1 8 Tryd.underlying26 hi hz0 hz1 hz2 rfl (by decide) _ _ _ rfl (HOO.out.alloc _) ⟨w3.heap.size, 0, none⟩ 1 1 [.int .i64 x] rfl rfl (cell_one_new _ _ _) ?c2b ?c3b ?c4b ?c5b ?_))
      case c2b => simp [Value.oneCell']
      case c3b => unfold maxLen; omega
      case c4b => omega
      case c5b => simp; omega
      intro v2 w4 hown' hgrow _
      obtain ⟨g1, g2⟩ := owns_snocI (w := w) (base := w.heap.size) (L := X) (c := x) (n := k) HTL.out.symm (by unfold OwnI; rw [HTL.out]; exact HOO.out) hown' hgrow HB.out (Nat.le_refl _)
      have HO4 : Hid (OwnI w4 w.heap.size v2 ((ps.take (k + 1)).map (cls ss))) := hid0 (by rw [HTK.out]; exact g1)
      have HB4 := hid0 g2
      clear hown' hgrow g1 g2 HOO HO HB
      go_wp2
      go_roundw
      case rel => exact ⟨k + 1, by omega, by go_num, HO4, HB4⟩
      case measure => simp [intOf]; omega
    · have hkI : ¬ (k : Int) < (ps.length : Int) := by omega
      have HE : Hid (OwnI wr w.heap.size u5 (ps.map (cls ss))) := hid0 (by have h := HO.out; rw [List.take_of_length_le (by omega)] at h; exact h)
      go_wp2
      go_ret
      exact ⟨u5, rfl, HE.out, HB.out⟩
end Go.Proofs.YtpimameogmkpcaaDoor
