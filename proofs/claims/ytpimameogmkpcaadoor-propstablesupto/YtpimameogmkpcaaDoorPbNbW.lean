/-
  The walk of Table.number.
-/
import Derived.Test.YtpimameogmkpcaaDoorPbKyW
import Derived.Deep.RegionHeld3
import Derived.Deep.RegionHeldLaw
import Derived.Deep.RegionLaw
import Derived.Deep.AppendLies
namespace Go.Proofs.YtpimameogmkpcaaDoor
open Go.RowKit Go.Maps Go.ChangeShapes
def flatB (L : List (List Int)) : List Value := L.flatMap fun b => b.map (Value.int .u8)
/-- A list of blocks in memory of its own. -/
def OwnB (w : World) (lo : Nat) (v : Value) (L : List (List Int)) : Prop := w.ownsRow lo 70 128 v L.length (flatB L)
def nextL (L : List (List Int)) (b : List Int) : List (List Int) := if L.contains b then L else L ++ [b]
theorem nextL_old {L : List (List Int)} {b : List Int} (h : b ∈ L) : nextL L b = L := if_pos (List.contains_iff_mem.2 h)
theorem nextL_new {L : List (List Int)} {b : List Int} (h : ¬ b ∈ L) : nextL L b = L ++ [b] := if_neg (fun e => h (List.contains_iff_mem.1 e))
theorem flatB_snoc (L : List (List Int)) (b : List Int) : flatB (L ++ [b]) = flatB L ++ b.map (Value.int .u8) := by simp [flatB]
theorem built70 {b : List Int} (hb : b.length = 128) (w : World) : (Instr.buildSlice 65 1 #[(0, .agg (cellsB b))]).run Tryd.prog w = .ok (.slice (some ⟨w.heap.size, 0, none⟩) 1 1) (w.alloc (.cells (cellsB b) 70)) := by
  have hz := zero70
  cases hq : Tryd.prog.info? 70 with
  | none => rw [hq] at hz; cases hz
  | some ie =>
    rw [hq] at hz
    simp only [Option.map_some, Option.some.injEq, Prod.mk.injEq] at hz
    obtain ⟨hz1, hz2⟩ := hz
    have hf := Great.fill_whole (s := 128) (by decide) [Value.agg (cellsB b)] ((Array.range (1 * ie.size)).map (((Value.agg (Array.replicate 128 (.int .u8 0))).cells)[· % ((Value.agg (Array.replicate 128 (.int .u8 0))).cells).size]!)) (fun v hv => by rw [List.mem_singleton.1 hv]; show (cellsB b).size = 128; rw [cellsB_size, hb]) (by rw [hz2]; simp)
    refine run_buildSlice w _ 70 1 _ (cellsB b) ie _ Tryd.underlying65 hq hz1 (by rw [hz2]; decide) (by rw [hz2]; decide) ?_
    rw [hz2] at hf ⊢
    refine Eq.trans ?_ (hf.trans ?_)
    · rfl
    · simp [Value.cells]
theorem fold70 {b : List Int} (hb : b.length = 128) (cs0 : Array Value) (h : cs0.size = 128) : List.foldl (fun (cs : Array Value) (x : Value × Nat) => cs.setIfInBounds x.snd x.fst) cs0 (List.map (Value.int .u8) b).zipIdx = cellsB b := by
  obtain ⟨h1, h2⟩ := Great.foldl_set 0 (List.map (Value.int .u8) b) 0 cs0
  simp only [Nat.zero_add] at h1 h2
  apply Array.ext_getElem?
  intro k
  rw [h2 k]
  by_cases hk : k < 128
  · rw [if_pos ⟨Nat.zero_le _, by simpa [hb] using hk, by omega⟩]
    simp [cellsB]
  · rw [if_neg (by omega), Array.getElem?_eq_none (by omega), Array.getElem?_eq_none (by rw [cellsB_size]; omega)]
theorem range_grown {w w' : World} {row : Option Nat} {b o : Nat} {cs : List Value} (h : w.rangeAt b o cs) (hg : w.grownBy w' row) (hne : row ≠ some b) : w'.rangeAt b o cs := fun j v hv => hg.cell (h j v hv) (fun e => hne e.symm)
theorem cell_alloc {w : World} {p : Addr} {v : Value} (h : w.cell? p = some v) (o : Obj) : (w.alloc o).cell? p = some v := ((Only.alloc w o (fun _ => False)).cell (World.block_lt_of_cell? w p h) id).trans h
theorem frozen_alloc {w : World} {p : Addr} (h : w.frozen? p = false) (hp : p.block < w.heap.size) (o : Obj) : (w.alloc o).frozen? p = false := (World.frozen?_of_block (Below.heap_alloc w o p.block hp)).trans h
theorem range_setCell {w : World} {b o : Nat} {cs : List Value} (h : w.rangeAt b o cs) (p : Addr) (u : Value) (hp : ¬ b = p.block) : (w.setCell p u).rangeAt b o cs := fun j v hv => (World.cell?_of_block (a := ⟨b, o + j, none⟩) (Below.heap_setCell w p u b hp)).trans (h j v hv)
theorem Only.ofGrown {w w' : World} {row : Option Nat} (h : w.grownBy w' row) : Only w w' (fun k => row = some k) := ⟨h.os, h.tape, h.output, h.size, fun k hk hn => h.block k hk (fun e => hn e.symm)⟩
theorem set_self {c : Array Value} {i : Nat} {v : Value} (h : c[i]? = some v) : c.setIfInBounds i v = c := by
  apply Array.ext_getElem?
  intro j
  rw [Array.getElem?_setIfInBounds]
  have hi := (Array.getElem?_eq_some_iff.1 h).1
  split
  · rename_i e
    subst e
    simp [hi]
    exact (Array.getElem?_eq_some_iff.1 h).2.symm
  · rfl
theorem info70 : ∃ i, Tryd.prog.info? 70 = some i ∧ i.zero = some (.agg (Array.replicate 128 (.int .u8 0))) ∧ i.size = 128 ∧ i.bytes = 128 := by
  have h : (Tryd.prog.info? 70).map (fun i => (i.zero, i.size, i.bytes)) = some (some (.agg (Array.replicate 128 (.int .u8 0))), 128, 128) := by kernel_rfl
  cases hq : Tryd.prog.info? 70 with
  | none => rw [hq] at h; cases h
  | some i =>
    rw [hq] at h
    simp only [Option.map_some, Option.some.injEq, Prod.mk.injEq] at h
    exact ⟨i, rfl, h.1, h.2.1, h.2.2⟩
/-- What number leaves: the block's place, and the block behind the others, if it is new. -/
def Numbered (b : List Int) (L : List (List Int)) (T B lo : Nat) (c : Array Value) (vB : Value) (w : World) (e : Ending) (w' : World) : Prop :=
  ∃ vB', e = .returned (.int .i64 ((nextL L b).idxOf b : Int)) ∧ Known w' B (nextL L b) ∧ w'.heap[T]? = some (.cells (c.setIfInBounds 8705 vB') 67 (0, 0)) ∧ OwnB w' lo vB' (nextL L b) ∧ (∀ k, vB'.ownBlock = some k → vB.ownBlock = some k ∨ w.heap.size ≤ k) ∧ Only w w' (fun k => k = T ∨ k = B ∨ vB.ownBlock = some k)
set_option maxRecDepth 10000 in
set_option maxHeartbeats 800000 in
theorem number_any (b : List Int) (hb : IsB b) (L : List (List Int)) (T B lo : Nat) (c : Array Value) (vB : Value) (w : World) (hT : w.heap[T]? = some (.cells c 67 (0, 0))) (hcs : c.size = 8706) (hcB : c[8705]? = some vB)
    (hO : OwnB w lo vB L) (hK : Known w B L) (hTl : T < lo) (hBl : B < lo) (hTB : T ≠ B) (hlo : lo ≤ w.heap.size) (hLl : L.length ≤ 10000) :
    Calls Tryd.prog 44 #[.pointer (some ⟨T, 0, none⟩), .map (some B), .agg (cellsB b)] w fun e w' => Numbered b L T B lo c vB w e w' := by
  obtain ⟨nD, D, hown, hn, hall⟩ := hK
  have HOW := hid0 hown
  have HALL := hid0 hall
  have HT := hid0 hT
  have HO := hid0 hO
  have HCB := hid0 hcB
  have HCS := hid0 hcs
  have HB := hid0 hb
  have hz : ∀ w, (zeroValue 3).run Tryd.prog w = .ok (.int .i64 0) w := fun w => by kernel_rfl
  have HZ := hid0 hz
  have HR0 : Hid ((w.alloc (.cells (cellsB b) 70)).rangeAt w.heap.size 0 (b.map (Value.int .u8))) := hid0 (fun j v hv => by
    rw [cell_of_row _ _ _ _ _ _ (heap_alloc_new w _), Nat.zero_add]
    simpa [cellsB] using hv)
  have HI : Hid ((Tryd.prog.info? 70).map (·.size) = some (b.map (Value.int .u8)).length) := hid0 (by rw [List.length_map, hb.len]; exact size70)
  obtain ⟨aB, capB, rfl⟩ : ∃ a cap, vB = .slice a L.length cap := by
    rcases hO.2 with ⟨rfl, hn⟩ | ⟨g, cap, cur, rfl, _⟩
    · exact ⟨none, 0, by rw [hn]⟩
    · exact ⟨_, cap, rfl⟩
  have hTw : T < w.heap.size := by omega
  have hBw : B < w.heap.size := by omega
  by_cases hm : b ∈ L
  · have hhas : Maps.has D (keyB b) = true := by rw [(hall b hb).1]; exact List.contains_iff_mem.2 hm
    have HE : Hid (∀ c' : Int, D.atKey (keyB b) (.lit (.int .i64 0)) = .lit (.int .i64 c') → Numbered b L T B lo c (.slice aB L.length capB) w (.returned (.int .i64 c')) (w.alloc (.cells (cellsB b) 70))) := hid0 (fun c' hat => by
      have h1 := (hall b hb).2 hm
      rw [hat] at h1
      simp only [DataW.lit.injEq, Lit.int.injEq, true_and] at h1
      refine ⟨.slice aB L.length capB, by rw [nextL_old hm, h1], ?_, ?_, ?_, fun k hk => .inl hk, Only.alloc _ _ _⟩
      · rw [nextL_old hm]
        exact Known.block ⟨nD, D, hown, hn, hall⟩ (Below.heap_alloc w _ B hBw)
      · rw [Below.heap_alloc w _ T hTw, hT]
        congr 2
        exact (set_self hcB).symm
      · rw [nextL_old hm]
        exact World.ownsRow.alloc hO _)
    clear hown hall hT hO hcB hcs hb hz
    go_enter Tryd.func44, Tryd.ntmps44
    go_wp2_with (first
      | (at_lookup; refine wpList_lookup_own_ok_int _ rfl _ _ 83 rfl 70 3 .i64 law70 Tryd.underlying83 Tryd.underlying3 (HZ.out _) B nD D rfl (World.ownsMap.alloc HOW.out _) (.agg (cellsB b)) (keyB b) rfl (key_of HB.out) ?_; intro c' hat hwc)
      | (refine wpList_load_mid rfl 70 _ rfl w.heap.size 0 rfl (b.map (Value.int .u8)) (.array 128 5) HR0.out Tryd.underlying70 rfl HI.out ?_))
    go_ret
    exact HE.out _ hat
  · have hhas : Maps.has D (keyB b) = false := by
      rw [(hall b hb).1]
      cases hc : L.contains b with
      | false => rfl
      | true => exact absurd (List.contains_iff_mem.1 hc) hm
    obtain ⟨i0, hi0, hz0, hz1, hz2⟩ := info70
    have hc0 : w.cell? ⟨T, 8705, none⟩ = some (.slice aB L.length capB) := by rw [cell_of_row _ _ _ _ _ _ hT]; exact hcB
    have hwf : (Lit.int .i64 (L.length : Int)).wf = true := by simp [Lit.wf, IntKind.min, IntKind.max, IntKind.bits, IntKind.signed]; omega
    have HWF := hid0 hwf
    have hBn : nD < maxLen := by unfold maxLen; omega
    have HBN := hid0 hBn
    have HN := hid0 hn
    have hTs : ¬ T = w.heap.size := by omega
    have hBs : ¬ B = w.heap.size := by omega
    clear hown hall hT hO hcB hcs hb hz hn hwf hBn
    go_enter Tryd.func44, Tryd.ntmps44
    go_wp2_with (first
      | (at_lookup; refine wpList_lookup_own_ok_int _ rfl _ _ 83 rfl 70 3 .i64 law70 Tryd.underlying83 Tryd.underlying3 (HZ.out _) B nD D rfl (World.ownsMap.alloc HOW.out _) (.agg (cellsB b)) (keyB b) rfl (key_of HB.out) ?_; intro c' hat hwc)
      | (at_mapUpdate; refine wpList_mapUpdate_own _ rfl _ _ _ 83 rfl 70 3 law70 Tryd.underlying83 _ B nD D rfl (World.ownsMap.alloc HOW.out _) HBN.out (.agg (cellsB b)) (.int .i64 (L.length : Int)) (keyB b) rfl rfl (key_of HB.out) _ [] (plainElem_int Tryd.underlying3 HWF.out) ?_; intro w1 hown1 hgrow1)
      | (refine wpList_load_mid rfl 70 _ rfl w.heap.size 0 rfl (b.map (Value.int .u8)) (.array 128 5) HR0.out Tryd.underlying70 rfl HI.out ?_))
    have hT1 : w1.heap[T]? = w.heap[T]? := (hgrow1.block T (by simp; omega) (by simpa using hTB)).trans (Below.heap_alloc w _ T hTw)
    have hX1 : w1.heap[w.heap.size]? = some (.cells (cellsB b) 70 (0, 0)) := (hgrow1.block w.heap.size (by simp) (by simp; omega)).trans (heap_alloc_new w _)
    have hc1 : w1.cell? ⟨T, 8705, none⟩ = some (.slice aB L.length capB) := (World.cell?_of_block (a := ⟨T, 8705, none⟩) hT1).trans hc0
    have hf1 : w1.frozen? ⟨T, 8705, none⟩ = false := by simp [World.frozen?, hT1, HT.out]
    have hr1 : w1.rangeAt w.heap.size 0 (b.map (Value.int .u8)) := fun j v hv => by
      rw [cell_of_row _ _ _ _ _ _ hX1, Nat.zero_add]
      simpa [cellsB] using hv
    have hO1 : w1.ownsRow lo 70 128 (.slice aB L.length capB) L.length (flatB L) := World.ownsRow.kept (World.ownsRow.alloc HO.out _) hgrow1 (.inr (fun e => by have := (World.ownsRow.lt HO.out B e).1; omega))
    have HO1 := hid0 hO1
    have hs1 : w.heap.size + 1 ≤ w1.heap.size := by have := hgrow1.size; simpa using this
    have hlT : (Value.slice aB L.length capB).ownBlock ≠ some T := fun e => by have := (World.ownsRow.lt HO.out T e).1; omega
    have hlX : (Value.slice aB L.length capB).ownBlock ≠ some w.heap.size := fun e => by have := (World.ownsRow.lt HO.out w.heap.size e).2; omega
    have HLT := hid0 hlT
    have HLX := hid0 hlX
    have HC1 := hid0 hc1
    have HF1 := hid0 hf1
    have hTw1 : T < w1.heap.size := by omega
    have HTW1 := hid0 hTw1
    have HXT : Hid (¬ w.heap.size = T) := hid0 (by omega)
    have HS1 := hid0 (And.intro hr1 (And.intro hc1 hf1))
    have HS2 : Hid (∀ o : Obj, (w1.alloc o).rangeAt w.heap.size 0 (b.map (Value.int .u8)) ∧ (w1.alloc o).cell? ⟨T, 8705, none⟩ = some (.slice aB L.length capB) ∧ (w1.alloc o).frozen? ⟨T, 8705, none⟩ = false) := hid0 (fun o => ⟨World.rangeAt_alloc hr1 _, cell_alloc hc1 _, frozen_alloc hf1 hTw1 _⟩)
    have HS4 : Hid (∀ w3, (w1.alloc (.cells (cellsB b) 70)).grownBy w3 (Value.slice aB L.length capB).ownBlock → w3.rangeAt w.heap.size 0 (b.map (Value.int .u8)) ∧ w3.cell? ⟨T, 8705, none⟩ = some (.slice aB L.length capB) ∧ w3.frozen? ⟨T, 8705, none⟩ = false) := hid0 (fun w3 hg => by
      obtain ⟨s1, s2, s3⟩ := HS2.out (.cells (cellsB b) 70)
      have hlt : T < (w1.alloc (.cells (cellsB b) 70)).heap.size := by simp; omega
      exact ⟨range_grown s1 hg HLX.out, hg.cell s2 (fun e => HLT.out e.symm), (World.frozen?_of_block (a := ⟨T, 8705, none⟩) (hg.block T hlt (fun e => HLT.out e.symm))).trans s3⟩)
    have hu70 := Tryd.underlying70
    have hi70 : (Tryd.prog.info? 70).map (·.size) = some (b.map (Value.int .u8)).length := HI.out
    have hl70 : (b.map (Value.int .u8)).length = 128 := by rw [List.length_map, HB.out.len]
    have h170 : ∀ v ∈ b.map (Value.int .u8), v.oneCell' = true := fun v hv => by obtain ⟨x, _, rfl⟩ := List.mem_map.1 hv; rfl
    have hfold := fold70 HB.out.len
    have HT1 := hid0 hT1
    have HG1 := hid0 hgrow1
    have HW1 := hid0 hown1
    have HW1I : Hid (Maps.IsMap D) := hid0 (World.ownsMap.isMap HOW.out)
    have HX1 := hid0 hX1
    have H170 := hid0 h170
    have hLn : L.length + 1 ≤ 20000 := by omega
    clear hT1 hgrow1 hown1 hX1 hO1 hlT hlX hc0 hat hwc
    have HR1D : Hid (w1.drew.rangeAt w.heap.size 0 (b.map (Value.int .u8))) := hid0 HS1.out.1
    have HEND : Hid (∀ g3 cap3 w3, w3.ownsRow lo 70 128 (.slice (some ⟨g3, 0, none⟩) (L.length + 1) cap3) (L.length + 1) (flatB L ++ b.map (Value.int .u8)) → (w1.alloc (.cells (cellsB b) 70)).grownBy w3 (Value.slice aB L.length capB).ownBlock → ((Value.slice aB L.length capB).ownBlock = some g3 ∨ g3 = w1.heap.size + 1) →
        Numbered b L T B lo c (.slice aB L.length capB) w (.returned (.int .i64 (L.length : Int))) (w3.setCell ⟨T, 8705, none⟩ (.slice (some ⟨g3, 0, none⟩) (L.length + 1) cap3))) := hid0 (fun g3 cap3 w3 q1 q2 q3 => by
      have hg3 : lo ≤ g3 := (World.ownsRow.lt q1 g3 rfl).1
      have hBo : (Value.slice aB L.length capB).ownBlock ≠ some B := fun e => by have := (World.ownsRow.lt HO.out B e).1; omega
      have eB : (w3.setCell ⟨T, 8705, none⟩ (.slice (some ⟨g3, 0, none⟩) (L.length + 1) cap3)).heap[B]? = w1.heap[B]? :=
        (Below.heap_setCell w3 ⟨T, 8705, none⟩ _ B (fun e => hTB e.symm)).trans ((q2.block B (by simp; omega) (fun e => hBo e.symm)).trans (Below.heap_alloc w1 _ B (by omega)))
      have eT : w3.heap[T]? = some (.cells c 67 (0, 0)) := ((q2.block T (by simp; omega) (fun e => HLT.out e.symm)).trans (Below.heap_alloc w1 _ T (by omega))).trans (HT1.out.trans HT.out)
      refine ⟨.slice (some ⟨g3, 0, none⟩) (L.length + 1) cap3, ?_, ?_, ?_, ?_, ?_, ?_⟩
      · rw [nextL_new hm, idx_new L b hm]
      · rw [nextL_new hm]
        refine Known.block (w := w1) ⟨nD + 1, _, HW1.out, by have := HN.out; simp; omega, known_put HW1I.out HB.out hm HALL.out⟩ eB
      · exact heap_setCell_same w3 T 8705 _ _ _ eT
      · rw [nextL_new hm]
        have e1 := ownsRow_setCell_other q1 (a := ⟨T, 8705, none⟩) (by show some g3 ≠ some T; simp; omega) (.slice (some ⟨g3, 0, none⟩) (L.length + 1) cap3)
        unfold OwnB
        rw [flatB_snoc, List.length_append]
        exact e1
      · intro k hk
        have hk' : g3 = k := by simpa [Value.ownBlock] using hk
        subst hk'
        rcases q3 with q3 | q3
        · exact .inl q3
        · exact .inr (by omega)
      · have o1 : Only w (w.alloc (.cells (cellsB b) 70)) (fun k => k = T ∨ k = B ∨ (Value.slice aB L.length capB).ownBlock = some k) := Only.alloc _ _ _
        have o2 := o1.trans (Only.ofGrown HG1.out) (fun i hi => by simp at hi; exact .inl (.inr (.inl hi.symm)))
        have o3 := o2.trans (Only.alloc w1 (.cells (cellsB b) 70) (fun _ => False)) (fun i hi => hi.elim)
        have o4 := o3.trans (Only.ofGrown q2) (fun i hi => .inl (.inr (.inr hi)))
        exact o4.trans (Only.setCell w3 T 8705 _) (fun i hi => .inl (.inl hi)))
    refine wp_region_any (by kernel_rfl) ?_
    change wpAny _ _ _ _ _ _ _ (World.drew _)
    refine wpAny_take (i := 0) (v := .pointer (some ⟨T, 0, none⟩)) rfl (by kernel_rfl) (by kernel_rfl) (by kernel_rfl) (fun _ _ _ h => h) (Or.inl ⟨by rfl, fun w => by go_simp⟩) ?_
    refine wpAny_take (i := 1) (v := .pointer (some ⟨T, 0, none⟩)) rfl (by kernel_rfl) (by kernel_rfl) (by kernel_rfl) (fun _ _ _ h => h) (Or.inl ⟨by rfl, fun w => by go_simp⟩) ?_
    refine wpAny_take (i := 2) (v := .pointer (some ⟨T, 0, none⟩)) rfl (by kernel_rfl) (by kernel_rfl) (by kernel_rfl) (fun _ _ _ h => h) (Or.inl ⟨by rfl, fun w => by go_simp⟩) ?_
    refine wpAny_take (i := 3) (v := .pointer (some ⟨T, 8705, none⟩)) rfl (by kernel_rfl) (by kernel_rfl) (by kernel_rfl) (fun _ _ _ h => h) (Or.inl ⟨by rfl, fun w => by go_simp⟩) ?_
    refine wpAny_ready (rs := [4, 5]) (by kernel_rfl) (by simp) ?_
    refine AllReady.cons rfl (fun K hK => ?_) ?_
    · go_simp
      refine hK _ _ ?_
      clear hK K
      refine wpAny_ready (rs := [5]) (by kernel_rfl) (by simp) ?_
      refine AllReady.cons rfl (fun K hK => ?_) AllReady.nil
      rw [if_pos (by rfl)]
      refine wp_load_mid 70 _ rfl w.heap.size 0 rfl (b.map (Value.int .u8)) (.array 128 5) HR1D.out Tryd.underlying70 rfl HI.out ?_
      refine hK _ _ ?_
      clear hK K
      refine wpAny_ready (rs := [6]) (by kernel_rfl) (by simp) ?_
      refine AllReady.cons rfl (fun K hK => ?_) AllReady.nil
      go_simp
      refine hK _ _ ?_
      clear hK K
      refine wpAny_ready (rs := [7]) (by kernel_rfl) (by simp) ?_
      refine AllReady.cons rfl (fun K hK => ?_) AllReady.nil
      refine step_append_lies _ (by rfl) _ _ _ (by rfl) lo 70 i0 (.agg (Array.replicate 128 (.int .u8 0))) 128 128 Tryd.underlying65 hi0 hz0 hz1 hz2 (by rfl) (by decide) (.slice aB L.length capB) L.length (flatB L) (by rfl) (World.ownsRow.alloc (w := w1) HO1.out _) ⟨w1.heap.size, 0, none⟩ 1 1 (b.map (Value.int .u8)) (by rfl) (by rw [hl70]) (World.news_of_block (cs := cellsB b) (t := 70) (fr := (0, 0)) (heap_alloc_new w1 _)) H170.out (by omega) (by unfold maxLen; omega) (by omega) (by simp; omega) (w1.heap.size + 1) (by simp) ?_
      intro g3 cap3 w3 hown3 hgrow3 hat3 hlt3
      have HE := hid0 (HEND.out g3 cap3 w3 hown3 ⟨hgrow3.os, hgrow3.tape, hgrow3.output, hgrow3.size, hgrow3.block⟩ hat3)
      obtain ⟨_, s2, s3⟩ := HS4.out w3 ⟨hgrow3.os, hgrow3.tape, hgrow3.output, hgrow3.size, hgrow3.block⟩
      clear hown3 hgrow3 hat3
      try go_simp
      refine hK _ _ ?_
      clear hK K
      refine wpAny_take (i := 8) (v := .pointer (some ⟨T, 0, none⟩)) rfl (by kernel_rfl) (by kernel_rfl) (by kernel_rfl) (fun _ _ _ h => h) (Or.inl ⟨by rfl, fun w => by go_simp⟩) ?_
      refine wpAny_take (i := 9) (v := .pointer (some ⟨T, 8705, none⟩)) rfl (by kernel_rfl) (by kernel_rfl) (by kernel_rfl) (fun _ _ _ h => h) (Or.inl ⟨by rfl, fun w => by go_simp⟩) ?_
      refine wpAny_ready (rs := [10]) (by kernel_rfl) (by simp) ?_
      refine AllReady.cons rfl (fun K hK => ?_) AllReady.nil
      go_simp
      refine hK _ _ ?_
      clear hK K
      refine wpAny_done (by kernel_rfl) ?_ _
      go_wp2
      go_ret
      exact HE.out
    · refine AllReady.cons rfl (fun K hK => ?_) AllReady.nil
      rw [if_pos (by rfl)]
      refine wp_load_mid 70 _ rfl w.heap.size 0 rfl (b.map (Value.int .u8)) (.array 128 5) HR1D.out Tryd.underlying70 rfl HI.out ?_
      refine hK _ _ ?_
      clear hK K
      refine wpAny_ready (rs := [4, 6]) (by kernel_rfl) (by simp) ?_
      refine AllReady.cons rfl (fun K hK => ?_) ?_
      · go_simp
        refine hK _ _ ?_
        clear hK K
        refine wpAny_ready (rs := [6]) (by kernel_rfl) (by simp) ?_
        refine AllReady.cons rfl (fun K hK => ?_) AllReady.nil
        go_simp
        refine hK _ _ ?_
        clear hK K
        refine wpAny_ready (rs := [7]) (by kernel_rfl) (by simp) ?_
        refine AllReady.cons rfl (fun K hK => ?_) AllReady.nil
        refine step_append_lies _ (by rfl) _ _ _ (by rfl) lo 70 i0 (.agg (Array.replicate 128 (.int .u8 0))) 128 128 Tryd.underlying65 hi0 hz0 hz1 hz2 (by rfl) (by decide) (.slice aB L.length capB) L.length (flatB L) (by rfl) (World.ownsRow.alloc (w := w1) HO1.out _) ⟨w1.heap.size, 0, none⟩ 1 1 (b.map (Value.int .u8)) (by rfl) (by rw [hl70]) (World.news_of_block (cs := cellsB b) (t := 70) (fr := (0, 0)) (heap_alloc_new w1 _)) H170.out (by omega) (by unfold maxLen; omega) (by omega) (by simp; omega) (w1.heap.size + 1) (by simp) ?_
        intro g3 cap3 w3 hown3 hgrow3 hat3 hlt3
        have HE := hid0 (HEND.out g3 cap3 w3 hown3 ⟨hgrow3.os, hgrow3.tape, hgrow3.output, hgrow3.size, hgrow3.block⟩ hat3)
        obtain ⟨_, s2, s3⟩ := HS4.out w3 ⟨hgrow3.os, hgrow3.tape, hgrow3.output, hgrow3.size, hgrow3.block⟩
        clear hown3 hgrow3 hat3
        try go_simp
        refine hK _ _ ?_
        clear hK K
        refine wpAny_take (i := 8) (v := .pointer (some ⟨T, 0, none⟩)) rfl (by kernel_rfl) (by kernel_rfl) (by kernel_rfl) (fun _ _ _ h => h) (Or.inl ⟨by rfl, fun w => by go_simp⟩) ?_
        refine wpAny_take (i := 9) (v := .pointer (some ⟨T, 8705, none⟩)) rfl (by kernel_rfl) (by kernel_rfl) (by kernel_rfl) (fun _ _ _ h => h) (Or.inl ⟨by rfl, fun w => by go_simp⟩) ?_
        refine wpAny_ready (rs := [10]) (by kernel_rfl) (by simp) ?_
        refine AllReady.cons rfl (fun K hK => ?_) AllReady.nil
        go_simp
        refine hK _ _ ?_
        clear hK K
        refine wpAny_done (by kernel_rfl) ?_ _
        go_wp2
        go_ret
        exact HE.out
      · refine AllReady.cons rfl (fun K hK => ?_) AllReady.nil
        go_simp
        refine hK _ _ ?_
        clear hK K
        refine wpAny_ready (rs := [4]) (by kernel_rfl) (by simp) ?_
        refine AllReady.cons rfl (fun K hK => ?_) AllReady.nil
        go_simp
        refine hK _ _ ?_
        clear hK K
        refine wpAny_ready (rs := [7]) (by kernel_rfl) (by simp) ?_
        refine AllReady.cons rfl (fun K hK => ?_) AllReady.nil
        refine step_append_lies _ (by rfl) _ _ _ (by rfl) lo 70 i0 (.agg (Array.replicate 128 (.int .u8 0))) 128 128 Tryd.underlying65 hi0 hz0 hz1 hz2 (by rfl) (by decide) (.slice aB L.length capB) L.length (flatB L) (by rfl) (World.ownsRow.alloc (w := w1) HO1.out _) ⟨w1.heap.size, 0, none⟩ 1 1 (b.map (Value.int .u8)) (by rfl) (by rw [hl70]) (World.news_of_block (cs := cellsB b) (t := 70) (fr := (0, 0)) (heap_alloc_new w1 _)) H170.out (by omega) (by unfold maxLen; omega) (by omega) (by simp; omega) (w1.heap.size + 1) (by simp) ?_
        intro g3 cap3 w3 hown3 hgrow3 hat3 hlt3
        have HE := hid0 (HEND.out g3 cap3 w3 hown3 ⟨hgrow3.os, hgrow3.tape, hgrow3.output, hgrow3.size, hgrow3.block⟩ hat3)
        obtain ⟨_, s2, s3⟩ := HS4.out w3 ⟨hgrow3.os, hgrow3.tape, hgrow3.output, hgrow3.size, hgrow3.block⟩
        clear hown3 hgrow3 hat3
        try go_simp
        refine hK _ _ ?_
        clear hK K
        refine wpAny_take (i := 8) (v := .pointer (some ⟨T, 0, none⟩)) rfl (by kernel_rfl) (by kernel_rfl) (by kernel_rfl) (fun _ _ _ h => h) (Or.inl ⟨by rfl, fun w => by go_simp⟩) ?_
        refine wpAny_take (i := 9) (v := .pointer (some ⟨T, 8705, none⟩)) rfl (by kernel_rfl) (by kernel_rfl) (by kernel_rfl) (fun _ _ _ h => h) (Or.inl ⟨by rfl, fun w => by go_simp⟩) ?_
        refine wpAny_ready (rs := [10]) (by kernel_rfl) (by simp) ?_
        refine AllReady.cons rfl (fun K hK => ?_) AllReady.nil
        go_simp
        refine hK _ _ ?_
        clear hK K
        refine wpAny_done (by kernel_rfl) ?_ _
        go_wp2
        go_ret
        exact HE.out
end Go.Proofs.YtpimameogmkpcaaDoor
