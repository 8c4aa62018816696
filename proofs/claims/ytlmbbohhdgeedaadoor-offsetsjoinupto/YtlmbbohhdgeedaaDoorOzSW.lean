/-
  The walk of caesuralaw26's points.
-/
import Derived.Test.YtlmbbohhdgeedaaDoorOzRM
import Derived.Test.YtlmbbohhdgeedaaDoorEncodeW
import Derived.Test.YtlmbbohhdgeedaaDoorOzCM
namespace Go.Proofs.YtlmbbohhdgeedaaDoor
open Go.RowKit
set_option maxRecDepth 10000 in
set_option maxHeartbeats 400000 in
theorem pickS_any (k : Int) (w : World) :
    Calls Tryd.prog 21 #[.int .i64 k, .int .i64 1112064] w fun e w' => e = .returned (.int .i64 (pickS k : Int)) ∧ w' = w := by
  have hm1 := Int.tmod_lt_of_pos k (b := (1112064 : Int)) (by omega)
  have hm2 : -1112064 < k.tmod 1112064 := by
    have := Int.tmod_lt_of_pos (-k) (b := (1112064 : Int)) (by omega)
    rw [Int.neg_tmod] at this
    omega
  by_cases hneg : k.tmod 1112064 < 0
  · have HE : Hid ((pickS k : Int) = k.tmod 1112064 + 1112064) := hid (by rw [pickS, if_pos hneg]; omega)
    go_enter Tryd.func21, Tryd.ntmps21
    go_wp2
    go_ret
    exact ⟨by rw [HE.out]; rfl, rfl⟩
  · have HE : Hid ((pickS k : Int) = k.tmod 1112064) := hid (by rw [pickS, if_neg hneg]; omega)
    go_enter Tryd.func21, Tryd.ntmps21
    go_wp2
    go_ret
    exact ⟨by rw [HE.out]; rfl, rfl⟩
theorem infoInt : (Tryd.prog.info? 3).map (fun i => (i.zero, i.size, i.bytes)) = some (some (.int .i64 0), 1, 8) := by kernel_rfl
def cellsN (l : List Int) : List Value := l.map (.int .i64)
def OwnN (w : World) (base : Nat) (v : Value) (l : List Int) : Prop := w.ownsRow base 3 1 v l.length (cellsN l)
theorem OwnN.pa {w : World} {base : Nat} {v : Value} {l : List Int} (h : OwnN w base v l) : ∃ a cap, v = .slice a l.length cap ∧ l.length ≤ cap ∧ PA w a l := by
  have h0 := h
  rcases h.2 with ⟨rfl, hn⟩ | ⟨g, cap, cur, rfl, _, _, hc, _⟩
  · have : l = [] := List.length_eq_zero_iff.1 hn
    subst this
    exact ⟨none, 0, rfl, Nat.le_refl _, ⟨fun k h => absurd h (Nat.not_lt_zero _)⟩⟩
  · refine ⟨_, cap, rfl, hc, ⟨fun k hk => ⟨g, 0, rfl, ?_⟩⟩⟩
    rw [Nat.zero_add, World.ownsRow.cellAt h0 _ (by omega)]
    simp [cellsN, hk]
theorem ownN_snoc {w wr w1 : World} {base : Nat} {v v' : Value} {l m : List Int} {x : Int} {o : Obj} (hown : OwnN wr base v l)
    (hown' : w1.ownsRow base 3 1 v' (l.length + 1) (cellsN l ++ [.int .i64 x])) (hgrow : (wr.alloc o).grownBy w1 v.ownBlock) (hm : m = l ++ [x]) (hbel : Below base w wr) (hb : base ≤ w.heap.size) :
    OwnN w1 base v' m ∧ Below base w w1 := by
  subst hm
  have hsz := hbel.size
  refine ⟨?_, (hbel.alloc (by omega) o).grown hgrow (by simp; omega) (fun k hk => (World.ownsRow.lt hown k hk).1)⟩
  have e2 : cellsN (l ++ [x]) = cellsN l ++ [.int .i64 x] := by simp [cellsN]
  unfold OwnN
  rw [List.length_append, e2]
  exact hown'
theorem cell1_new (w : World) (a : Value) (t : TypeId) : ∀ j u, [a][j]? = some u → (w.alloc (.cells #[a] t)).cell? ((⟨w.heap.size, 0, none⟩ : Addr).add j) = some u := by
  intro j u h
  rw [Addr.add_lit, cell_of_row _ w.heap.size _ _ _ _ (heap_alloc_new w _), Nat.zero_add]
  simpa using h
set_option maxRecDepth 10000 in
set_option maxHeartbeats 800000 in
theorem points_any (zs : List Int) (a : Option Addr) (cap : Nat) (hl : zs.length ≤ 4000000) (w : World) (hA : PA w a zs) :
    Calls Tryd.prog 17 #[.slice a zs.length cap] w fun e w' => ∃ a' cap', e = .returned (.slice a' zs.length cap') ∧ zs.length ≤ cap' ∧ PA w' a' (zs.map ptF) ∧ Below w.heap.size w w' := by
  obtain ⟨i0, hi, hz0, hz1, hz2⟩ := info_parts infoInt
  have HA := hid hA
  clear hA
  go_enter Tryd.func17, Tryd.ntmps17
  go_wp2
  go_loopw [3, 4] (fun v i wr => ∃ k : Nat, k ≤ zs.length ∧ i = .int .i64 (k : Int) ∧ Hid (OwnN wr w.heap.size v ((zs.take k).map ptF)) ∧ Hid (Below w.heap.size w wr)) (fun _ i _ => zs.length - (intOf i).toNat)
  case atStart => exact ⟨0, Nat.zero_le _, rfl, hid (World.ownsRow_nil _ _ _ _), hid (Below.refl _ _)⟩
  case round =>
    obtain ⟨k, hk, rfl, HO, HB⟩ := hrel
    have hsz := HB.out.size
    obtain ⟨av, cv, rfl, _, _⟩ := HO.out.pa
    have hkl : ((zs.take k).map ptF).length = k := by simp; omega
    rw [hkl] at HO
    by_cases hlt : k < zs.length
    · obtain ⟨b, off, rfl, hc⟩ := HA.out.at' k hlt
      have hck := (HB.out.cell (p := ⟨b, off + k, none⟩) (World.block_lt_of_cell? w _ hc)).trans hc
      have HP := hid (pickS_any zs[k])
      have hpl := pickS_lt zs[k]
      have HT : Hid ((zs.take (k + 1)).map ptF = (zs.take k).map ptF ++ [ptF zs[k]]) := hid (by rw [List.take_succ_eq_append_getElem hlt, List.map_append]; rfl)
      have hpt : ptF zs[k] = if 55296 ≤ pickS zs[k] then (pickS zs[k] : Int) + 2048 else (pickS zs[k] : Int) := rfl
      have HOw : Hid (wr.ownsRow w.heap.size 3 1 (.slice av k cv) k (cellsN ((zs.take k).map ptF))) := hid (by have h := HO.out; unfold OwnN at h; rw [hkl] at h; exact h)
      generalize zs[k] = z at *
      generalize ptF z = q at *
      generalize pickS z = r at *
      have HSn : Hid (∀ o w1 v', w1.ownsRow w.heap.size 3 1 v' (k + 1) (cellsN ((zs.take k).map ptF) ++ [.int .i64 q]) → (wr.alloc o).grownBy w1 (Value.slice av k cv).ownBlock → OwnN w1 w.heap.size v' ((zs.take (k + 1)).map ptF) ∧ Below w.heap.size w w1) := hid (fun o w1 v' h1 h2 => ownN_snoc HO.out (by rw [hkl]; exact h1) h2 HT.out HB.out (Nat.le_refl _))
      have hkI : (k : Int) < (zs.length : Int) := by omega
      have hplI : (r : Int) < 1112064 := by omega
      have hp0 : (0 : Int) ≤ (r : Int) := by omega
      clear hc hkl hpl
      by_cases hr : 55296 ≤ r
      · rw [if_pos hr] at hpt
        subst hpt
        have hrI : (55296 : Int) ≤ (r : Int) := by omega
        clear hr
        go_wp2_with (first
          | (go_at_call 21; refine (HP.out _).mono ?_; rintro e w1 ⟨rfl, rfl⟩)
          | (at_builtin; refine wpList_append_own _ rfl _ _ 39 rfl w.heap.size 3 i0 (.int .i64 0) 1 8 Tryd.underlying39 hi hz0 hz1 hz2 rfl (by decide) _ _ _ rfl (HOw.out.alloc _) ⟨_, 0, none⟩ 1 1 [.int .i64 ((r : Int) + 2048)] rfl rfl (cell1_new _ _ _) (by simp [Value.oneCell']) (by unfold maxLen; omega) (by omega) (by simp; omega) ?_; intro v' w2 hown' hgrow _; obtain ⟨H1, H2⟩ := HSn.out _ _ _ hown' hgrow; have HO2 := hid H1; have HB2 := hid H2; clear hown' hgrow H1 H2)
          | fail)
        go_roundw
        case rel => exact ⟨k + 1, hlt, by go_num, HO2, HB2⟩
        case measure => simp [intOf]; omega
      · rw [if_neg hr] at hpt
        subst hpt
        have hrI : (r : Int) < 55296 := by omega
        have hrD : decide ((55296 : Int) ≤ (r : Int)) = false := decide_eq_false (by omega)
        clear hr
        go_wp2_with (first
          | (go_at_call 21; refine (HP.out _).mono ?_; rintro e w1 ⟨rfl, rfl⟩)
          | (at_builtin; refine wpList_append_own _ rfl _ _ 39 rfl w.heap.size 3 i0 (.int .i64 0) 1 8 Tryd.underlying39 hi hz0 hz1 hz2 rfl (by decide) _ _ _ rfl (HOw.out.alloc _) ⟨_, 0, none⟩ 1 1 [.int .i64 (r : Int)] rfl rfl (cell1_new _ _ _) (by simp [Value.oneCell']) (by unfold maxLen; omega) (by omega) (by simp; omega) ?_; intro v' w2 hown' hgrow _; obtain ⟨H1, H2⟩ := HSn.out _ _ _ hown' hgrow; have HO2 := hid H1; have HB2 := hid H2; clear hown' hgrow H1 H2)
          | fail)
        go_roundw
        case rel => exact ⟨k + 1, hlt, by go_num, HO2, HB2⟩
        case measure => simp [intOf]; omega
    · have hke : k = zs.length := by omega
      have hkI : ¬ (k : Int) < (zs.length : Int) := by omega
      go_wp2
      go_ret
      obtain ⟨a2, c2, h2, h3, h4⟩ := HO.out.pa
      rw [hkl] at h2 h3
      obtain ⟨rfl, _, rfl⟩ := Value.slice.inj h2
      rw [hke, List.take_length] at h4
      exact ⟨_, _, rfl, by omega, h4, HB.out⟩
end Go.Proofs.YtlmbbohhdgeedaaDoor
