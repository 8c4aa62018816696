/-
  The walk of ranges.edges, over what the sort does.
-/
import Derived.Test.YthdmhelgmejicaaGreatDoorPassW
import Derived.Laws.MakeOwn
namespace Go.Proofs.YthdmhelgmejicaaGreatDoor
open Go.RowKit
theorem infoEdge : (Tryz.prog.info? 181).map (fun i => (i.zero, i.size, i.bytes)) = some (some (.agg #[.int .i64 0, .int .i64 0]), 2, 16) := by kernel_rfl
def OwnE (w : World) (base : Nat) (v : Value) (l : List (Int × Int)) : Prop := w.ownsRow base 181 2 v l.length (cellsR l)
theorem ownE_snoc {w wr w1 : World} {base : Nat} {v v' : Value} {l : List (Int × Int)} {r s : Int × Int} {o : Obj} {n : Nat} (hn : n = l.length) (hown : OwnE wr base v l)
    (hown' : w1.ownsRow base 181 2 v' (n + 2) (cellsR l ++ [.int .i64 r.1, .int .i64 r.2, .int .i64 s.1, .int .i64 s.2])) (hgrow : (wr.alloc o).grownBy w1 v.ownBlock) (hbel : Below base w wr) (hb : base ≤ w.heap.size) :
    OwnE w1 base v' (l ++ [r, s]) ∧ Below base w w1 := by
  subst hn
  have hsz := hbel.size
  refine ⟨?_, (hbel.alloc (by omega) o).grown hgrow (by simp; omega) (fun k hk => (World.ownsRow.lt hown k hk).1)⟩
  have e2 : cellsR (l ++ [r, s]) = cellsR l ++ [.int .i64 r.1, .int .i64 r.2, .int .i64 s.1, .int .i64 s.2] := by rw [cellsR_append]; rfl
  unfold OwnE
  rw [List.length_append, e2]
  exact hown'
theorem OwnE.some {w : World} {base : Nat} {v : Value} {l : List (Int × Int)} (h : OwnE w base v l) (hl : 0 < l.length) : ∃ g c, v = .slice (some ⟨g, 0, none⟩) l.length c ∧ base ≤ g ∧ l.length ≤ c := by
  rcases h.2 with ⟨_, hn⟩ | ⟨g, cap, cur, hv, hg, _, hle, _⟩
  · omega
  · exact ⟨g, cap, hv, hg, hle⟩
theorem edges_take (l : List (Int × Int)) (k : Nat) (h : k < l.length) : edgesOf (l.take (k + 1)) = edgesOf (l.take k) ++ [(l[k].1, 1), (l[k].2 + 1, -1)] := by
  rw [List.take_succ_eq_append_getElem h, edgesOf, List.flatMap_append]
  rfl
theorem cells4_new {n : Nat} (w : World) (hn : n = w.heap.size) (a b c d : Value) (t : TypeId) : ∀ j u, [a, b, c, d][j]? = some u → (w.alloc (.cells #[a, b, c, d] t)).cell? ((⟨n, 0, none⟩ : Addr).add j) = some u := by
  subst hn
  intro j u h
  rw [Addr.add_lit, cell_of_row _ w.heap.size _ _ _ _ (heap_alloc_new w _), Nat.zero_add]
  simpa using h
/-- What the sort of the edges does. -/
def Sorts : Prop := ∀ (base g c : Nat) (E : List (Int × Int)) (w : World), E.length ≤ 100000000 → OwnE w base (.slice (some ⟨g, 0, none⟩) E.length c) E →
  Calls Tryz.prog 147 #[.slice (some ⟨g, 0, none⟩) E.length c, .func (.func 148) #[] #[]] w fun e w' =>
    e = .returned (.tuple #[]) ∧ ∃ E', E'.Perm E ∧ E'.Pairwise (fun x y => x.1 ≤ y.1) ∧ RA w' (some ⟨g, 0, none⟩) E' ∧ Off (· = g) w w'
set_option maxRecDepth 10000 in
set_option maxHeartbeats 400000 in
theorem edges_of (hS : Sorts) (l : List (Int × Int)) (a : Option Addr) (cap : Nat) (hl : l.length ≤ 50000000) (w : World) (ha : RA w a l) (hm : mayL l = true) :
    Calls Tryz.prog 114 #[.slice a l.length cap] w fun e w' => ∃ g c E, e = .returned (.slice (some ⟨g, 0, none⟩) E.length c) ∧ E.Perm (edgesOf l) ∧ E.Pairwise (fun x y => x.1 ≤ y.1) ∧ RA w' (some ⟨g, 0, none⟩) E ∧ E.length ≤ c ∧ g < w'.heap.size ∧ Below w.heap.size w w' := by
  obtain ⟨i0, hi, hz0, hz1, hz2⟩ := info_parts infoEdge
  obtain ⟨w0, hrun, hown0, hgrow0⟩ := run_make_own (P := Tryz.prog) w w.heap.size 155 181 i0 (.agg #[.int .i64 0, .int .i64 0]) 2 Tryz.underlying155 hi hz0 hz1 .i64 .i64 (2 * l.length) (by rw [hz2]; omega) (by unfold maxLen; omega) (Nat.le_refl _)
  rw [show ((2 * l.length : Nat) : Int) = 2 * (l.length : Int) by omega] at hrun
  have HA := hidE ha
  have HB0 : Hid (Below w.heap.size w w0) := ((Below.refl _ w).grown hgrow0 (Nat.le_refl _) (fun k hk => by cases hk))
  have HO0 : Hid (OwnE w0 w.heap.size (.slice (some ⟨w.heap.size, 0, none⟩) 0 (2 * l.length)) []) := hown0
  have HS := hidE hS
  clear ha hown0 hgrow0 hS
  go_enter Tryz.func114, Tryz.ntmps114
  go_wp2
  go_loopw [3, 12] (fun v i wr => ∃ (k g c : Nat), k ≤ l.length ∧ i = .int .i64 (k : Int) ∧ v = .slice (some ⟨g, 0, none⟩) (edgesOf (l.take k)).length c ∧ OwnE wr w.heap.size v (edgesOf (l.take k)) ∧ Below w.heap.size w wr) (fun _ i _ => l.length - (intOf i).toNat)
  case atStart => exact ⟨0, w.heap.size, 2 * l.length, Nat.zero_le _, rfl, rfl, HO0.out, HB0.out⟩
  case round =>
    obtain ⟨k, g, c, hk, rfl, rfl, hown, hB⟩ := hrel
    have HO := hidE hown
    clear hown HO0
    have hs := hB.size
    have hlen := edges_length (l.take k)
    by_cases hlt : k < l.length
    · obtain ⟨b1, o1, rfl, c0, c1⟩ := (HA.out.later hB).at' k hlt
      have HE := hidE (edges_take l k hlt)
      have hmr := (mayR_iff _).1 (List.all_eq_true.1 hm _ (List.getElem_mem hlt))
      generalize l[k] = r at *
      obtain ⟨lo, hi'⟩ := r
      simp only at c0 c1 hmr
      rw [List.length_take, Nat.min_eq_left hk] at hlen
      have hn2 : (edgesOf (l.take k)).length + 2 ≤ 100000002 := by omega
      have hO2 : wr.ownsRow w.heap.size 181 2 (.slice (some ⟨g, 0, none⟩) (edgesOf (l.take k)).length c) (edgesOf (l.take k)).length (cellsR (edgesOf (l.take k))) := HO.out
      generalize hn : (edgesOf (l.take k)).length = n at HO hO2 hn2 ⊢
      have HNN := hidE hn
      have HOO := hidE hO2
      clear hO2
      clear HB0 hrun hn hlen
      go_wp2_with (at_builtin; go_loud (refine wpList_append_own _ rfl _ _ 155 rfl w.heap.size 181 i0 (.agg #[.int .i64 0, .int .i64 0]) 2 16 Tryz.underlying155 hi hz0 hz1 hz2 rfl (by decide) _ _ _ rfl ((HOO.out.alloc _).alloc _) ⟨wr.heap.size + 1, 0, none⟩ 2 2 [.int .i64 lo, .int .i64 1, .int .i64 (hi' + 1), .int .i64 (-1)] rfl rfl (cells4_new _ (by simp) _ _ _ _ _) (by simp [Value.oneCell']) (by unfold maxLen; omega) (by omega) (by simp; omega) ?_; intro v' w1 hown' hgrow _; have R := ownE_snoc (w := w) (r := (lo, 1)) (s := (hi' + 1, -1)) HNN.out.symm (World.ownsRow.alloc HO.out _) (by simpa using hown') hgrow (hB.alloc hs _) (Nat.le_refl _); rw [← HE.out] at R; obtain ⟨g', c', hv', _, _⟩ := R.1.some (by rw [HE.out]; simp); have HR := hidE R; clear hown' hgrow R; subst hv'))
      go_roundw
      case rel => exact ⟨k + 1, g', c', by omega, by go_num, rfl, HR.out.1, HR.out.2⟩
      case measure => simp [intOf]; omega
    · have hki : ¬ (k : Int) < (l.length : Int) := by omega
      obtain rfl : k = l.length := by omega
      rw [List.take_length] at HO hlen
      clear HB0 hrun
      have HS1 := HS.out w.heap.size g c (edgesOf l) wr (by omega) HO.out
      rw [List.take_length]
      have hgl := World.ownsRow.lt HO.out g rfl
      have hgc : (edgesOf l).length ≤ c := by
        rcases HO.out.2 with ⟨h', _⟩ | ⟨g', cap', cur, h', _, _, hle, _⟩
        · simp at h'
        · simp only [Value.slice.injEq] at h'; omega
      have HGC := hidE hgc
      generalize hn : (edgesOf l).length = n at HS1 ⊢
      have HNN := hidE hn
      have HS2 := hidE HS1
      clear hn hlen HS1 hgc HO
      go_wp2_with (go_at_call 147; refine HS2.out.mono ?_; rintro e w' ⟨rfl, E', h1, h2, h3, h4⟩)
      go_ret
      have hEl := h1.length_eq
      refine ⟨g, c, E', ?_, h1, h2, h3, by rw [hEl]; exact HGC.out, Nat.lt_of_lt_of_le hgl.2 h4.size, hB.trans (Below.mono (B := g) ⟨h4.os, h4.tape, h4.output, h4.size, fun k hk => h4.block k (Nat.lt_trans hk hgl.2) (Nat.ne_of_lt hk)⟩ hgl.1)⟩
      rw [hEl, HNN.out]
      rfl
end Go.Proofs.YthdmhelgmejicaaGreatDoor
