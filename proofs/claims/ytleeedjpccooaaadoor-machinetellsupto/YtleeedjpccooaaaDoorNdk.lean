/-
  McKM, McKW, McLM, McMM, McNM, McOM, McPM, McQM, McSM, McRaW, McRbW, McRcW, McSaW, McTM.
-/
import Derived.Test.YtleeedjpccooaaaDoorNdj
import Derived.Test.YtleeedjpccooaaaDoorNdg
import Derived.Test.YtleeedjpccooaaaDoorNda
import Derived.Laws.MakeOwn
namespace Go.Proofs.YtleeedjpccooaaaDoor
open Go.RowKit Go.Shelf
/-- A pattern as it comes. -/
structure Pr where
  Le : List (List Int)
  Fi : List Int
  La : List Int
  Fo : List (List Int)
  em : Bool
  an : Bool
def tN (l : List Int) : List Nat := l.map Int.toNat
def toPt (r : Pr) : Pt := ⟨r.Le.map tN, tN r.Fi, tN r.La, r.Fo.map tN, r.em, r.an⟩
def Pr.chk (r : Pr) (sy : Int) : Option Nat := chkP r.Le r.Fo r.Fi r.La sy
theorem riseF_all : ∀ (l : List Int) (n lo : Int), 0 ≤ lo → riseF n lo l = true → ∀ x ∈ l, 0 ≤ x ∧ x < n
  | [], _, _, _, _, x, hx => by cases hx
  | y :: l, n, lo, h0, h, x, hx => by
    simp only [riseF, Bool.and_eq_true, decide_eq_true_eq] at h
    rcases List.mem_cons.1 hx with rfl | hx
    · omega
    · exact riseF_all l n (y + 1) (by omega) h.2 x hx
theorem nI_tN {l : List Int} (h : ∀ x ∈ l, 0 ≤ x) : nI (tN l) = l := by
  unfold nI tN
  rw [List.map_map]
  have e : l.map ((fun x : Nat => ((x : Nat) : Int)) ∘ Int.toNat) = l.map id := List.map_congr_left (fun x hx => by
    have := h x hx
    simp only [Function.comp, id]
    omega)
  rw [e, List.map_id]
theorem tN_len (l : List Int) : (tN l).length = l.length := by unfold tN; rw [List.length_map]
theorem tN_mem {l : List Int} {n : Int} (h : ∀ x ∈ l, 0 ≤ x ∧ x < n) : ∀ y ∈ tN l, (y : Int) < n := fun y hy => by
  obtain ⟨x, hx, rfl⟩ := List.mem_map.1 hy
  have := h x hx
  omega
theorem nI_tNs {L : List (List Int)} (h : ∀ l ∈ L, ∀ x ∈ l, 0 ≤ x) : (L.map tN).map nI = L := by
  rw [List.map_map]
  have e : L.map (nI ∘ tN) = L.map id := List.map_congr_left (fun l hl => nI_tN (h l hl))
  rw [e, List.map_id]
/-- What Check lets pass. -/
structure PrOk (r : Pr) (sy : Nat) : Prop where
  le : ∀ l ∈ r.Le, ∀ x ∈ l, 0 ≤ x ∧ x < (sy : Int)
  fi : ∀ x ∈ r.Fi, 0 ≤ x ∧ x < (r.Le.length : Int)
  la : ∀ x ∈ r.La, 0 ≤ x ∧ x < (r.Le.length : Int)
  fo : ∀ l ∈ r.Fo, ∀ x ∈ l, 0 ≤ x ∧ x < (r.Le.length : Int)
  len : r.Fo.length = r.Le.length
  few : r.Le.length ≤ 4000
theorem Pr.ok {r : Pr} {sy : Nat} (h : r.chk (sy : Int) = none) : PrOk r sy := by
  unfold Pr.chk chkP at h
  split at h
  · cases h
  · rename_i h1
    split at h
    · cases h
    · rename_i h2
      split at h
      · rename_i h3
        unfold plRise riseA at h3
        simp only [Bool.and_eq_true, List.all_eq_true] at h3
        obtain ⟨q1, ⟨q2, q3⟩, q4⟩ := h3
        refine ⟨fun l hl => riseF_all l _ 0 (by omega) (q1 l hl), riseF_all _ _ 0 (by omega) q2, riseF_all _ _ 0 (by omega) q3, fun l hl => riseF_all l _ 0 (by omega) (q4 l hl), ?_, by omega⟩
        by_cases e : r.Fo.length = r.Le.length
        · exact e
        · exact absurd (.inr (.inr e)) h2
      · cases h
theorem PrOk.pt {r : Pr} {sy : Nat} (h : PrOk r sy) : PtOk sy (toPt r) := by
  have hl : (toPt r).le.length = r.Le.length := by show (r.Le.map tN).length = _; rw [List.length_map]
  refine ⟨?_, ?_, ?_, ?_, ?_⟩
  · rw [hl]; show (r.Fo.map tN).length = _; rw [List.length_map, h.len]
  · rw [hl]; intro x hx; have := tN_mem h.fi x hx; omega
  · rw [hl]; intro x hx; have := tN_mem h.la x hx; omega
  · rw [hl]
    intro l hl2 x hx
    obtain ⟨l', hl', rfl⟩ := List.mem_map.1 hl2
    have := tN_mem (h.fo l' hl') x hx
    omega
  · intro l hl2 x hx
    obtain ⟨l', hl', rfl⟩ := List.mem_map.1 hl2
    have := tN_mem (h.le l' hl') x hx
    omega
/-- Patterns in memory, as they come. -/
structure PaI (w : World) (a : Option Addr) (rs : List Pr) : Prop where
  at' : ∀ k (h : k < rs.length), ∃ b off, a = some ⟨b, off, none⟩ ∧ b < w.heap.size ∧ ∃ (aL aF aA aO : Option Addr) (cL cF cA cO : Nat), w.cell? ⟨b, off + k * 6, none⟩ = some (.slice aL (rs[k]).Le.length cL) ∧ w.cell? ⟨b, off + k * 6 + 1, none⟩ = some (.slice aF (rs[k]).Fi.length cF) ∧ w.cell? ⟨b, off + k * 6 + 2, none⟩ = some (.slice aA (rs[k]).La.length cA) ∧ w.cell? ⟨b, off + k * 6 + 3, none⟩ = some (.slice aO (rs[k]).Fo.length cO) ∧ w.cell? ⟨b, off + k * 6 + 4, none⟩ = some (.bool (rs[k]).em) ∧ w.cell? ⟨b, off + k * 6 + 5, none⟩ = some (.bool (rs[k]).an) ∧ (aL = none → cL = 0) ∧ PosA w aL aF aA aO (rs[k]).Le (rs[k]).Fo (rs[k]).Fi (rs[k]).La
theorem PaI.past {w w' : World} {a : Option Addr} {rs : List Pr} (h : PaI w a rs) (hb : Below w.heap.size w w') : PaI w' a rs := ⟨fun k hk => by
  obtain ⟨b, off, e, hbw, aL, aF, aA, aO, cL, cF, cA, cO, y0, y1, y2, y3, y4, y5, y6, y7⟩ := h.at' k hk
  have tr : ∀ i, w'.cell? ⟨b, i, none⟩ = w.cell? ⟨b, i, none⟩ := fun i => hb.cell (p := ⟨b, i, none⟩) hbw
  exact ⟨b, off, e, Nat.lt_of_lt_of_le hbw hb.size, aL, aF, aA, aO, cL, cF, cA, cO, (tr _).trans y0, (tr _).trans y1, (tr _).trans y2, (tr _).trans y3, (tr _).trans y4, (tr _).trans y5, y6, y7.past hb⟩⟩
theorem PaI.pal {w : World} {a : Option Addr} {rs : List Pr} {sy : Nat} (h : PaI w a rs) (hok : ∀ r ∈ rs, PrOk r sy) : PaL w a (rs.map toPt) := ⟨fun k hk => by
  rw [List.length_map] at hk
  obtain ⟨b, off, e, hbw, aL, aF, aA, aO, cL, cF, cA, cO, y0, y1, y2, y3, y4, y5, y6, y7⟩ := h.at' k hk
  have ho := hok _ (List.getElem_mem hk)
  refine ⟨b, off, e, hbw, aL, aF, aA, aO, cL, cF, cA, cO, ?_⟩
  rw [List.getElem_map]
  refine ⟨?_, ?_, ?_, ?_, y4, y5, ?_, y6, ?_, ?_, ?_⟩
  · show _ = some (Value.slice aL ((rs[k]).Le.map tN).length cL); rw [List.length_map]; exact y0
  · show _ = some (Value.slice aF (tN (rs[k]).Fi).length cF); rw [tN_len]; exact y1
  · show _ = some (Value.slice aA (tN (rs[k]).La).length cA); rw [tN_len]; exact y2
  · show _ = some (Value.slice aO ((rs[k]).Fo.map tN).length cO); rw [List.length_map]; exact y3
  · show RwA w aL (((rs[k]).Le.map tN).map nI); rw [nI_tNs (fun l hl x hx => (ho.le l hl x hx).1)]; exact y7.le
  · show IA w aF (nI (tN (rs[k]).Fi)); rw [nI_tN (fun x hx => (ho.fi x hx).1)]; exact y7.fi
  · show IA w aA (nI (tN (rs[k]).La)); rw [nI_tN (fun x hx => (ho.la x hx).1)]; exact y7.la
  · show RwA w aO (((rs[k]).Fo.map tN).map nI); rw [nI_tNs (fun l hl x hx => (ho.fo l hl x hx).1)]; exact y7.fo⟩
/-- The first refusal of places. -/
def chkA (rs : List Pr) (sy : Int) : Option Nat := rs.findSome? fun r => r.chk sy
def mJ (rs : List Pr) : Jn := jAcc (rs.map toPt) (rs.map toPt).length
def mWd (rs : List Pr) : Nat := (plN (rs.map toPt) (rs.map toPt).length + 63) / 64
/-- The machine of patterns. -/
def mAll (rs : List Pr) (sy most : Nat) : Option Bs := bAll (mJ rs) (mWd rs) sy (min most (4194304 / sy))
/-- What Build leaves. -/
def BuP (w : World) (A : Nat → Addr) (rs : List Pr) (sy most : Int) (e : Ending) (w' : World) : Prop :=
  Below w.heap.size w w' ∧ if sy < 1 ∨ 16384 < sy ∨ most < 1 ∨ 16384 < most then e = .returned (.tuple #[.agg #[.int .i64 0, .slice none 0 0, .slice none 0 0], errP A (some 0)])
  else match chkA rs sy with
    | some i => e = .returned (.tuple #[.agg #[.int .i64 0, .slice none 0 0, .slice none 0 0], errP A (some i)])
    | none => match mAll rs sy.toNat most.toNat with
      | none => e = .returned (.tuple #[.agg #[.int .i64 0, .slice none 0 0, .slice none 0 0], errP A (some 2)])
      | some b => ∃ lo vNx vOu NX OU, w.heap.size ≤ lo ∧ e = .returned (.tuple #[.agg #[.int .i64 0, vNx, vOu], errP A none]) ∧ RwsM w' lo vNx NX b.nx ∧ RwsM w' lo vOu OU b.ou ∧ (NX ++ OU).Pairwise Apt ∧ Apt vNx vOu
theorem chkA_at {rs : List Pr} {sy : Int} {k : Nat} (hk : k < rs.length) (h0 : ∀ i (h : i < k), (rs[i]'(by omega)).chk sy = none) {x : Nat} (h : (rs[k]).chk sy = some x) : chkA rs sy = some x := by
  unfold chkA
  have e : rs = rs.take k ++ rs[k] :: rs.drop (k + 1) := by rw [← List.drop_eq_getElem_cons hk, List.take_append_drop]
  have h1 : (rs.take k).findSome? (fun r => r.chk sy) = none := by
    rw [List.findSome?_eq_none_iff]
    intro r hr
    obtain ⟨i, hi, rfl⟩ := List.getElem_of_mem hr
    rw [List.getElem_take]
    rw [List.length_take] at hi
    exact h0 i (by omega)
  rw [e, List.findSome?_append, h1, List.findSome?_cons, h]
  rfl
theorem chkA_none {rs : List Pr} {sy : Int} (h0 : ∀ i (h : i < rs.length), (rs[i]).chk sy = none) : chkA rs sy = none := by
  unfold chkA
  rw [List.findSome?_eq_none_iff]
  intro r hr
  obtain ⟨i, hi, rfl⟩ := List.getElem_of_mem hr
  exact h0 i hi
end Go.Proofs.YtleeedjpccooaaaDoor
namespace Go.Proofs.YtleeedjpccooaaaDoor
open Go.RowKit Go.Shelf
/-- Sums over patterns as they come. -/
def prN (f : Pr → Nat) (rs : List Pr) : Nat := (rs.map f).sum
set_option maxRecDepth 10000 in
set_option maxHeartbeats 1600000 in
theorem Build_any (A : Nat → Addr) (rs : List Pr) (sy most : Int) (a : Option Addr) (c : Nat) (w : World) (hp : PaI w a rs) (hsen : Sen2 w A) (htab : TabAt 11 Lib.deBruijn64tab w) (hs63 : sy ≤ 9223372036854775807) (hs64 : -9223372036854775808 ≤ sy) (hm63 : most ≤ 9223372036854775807) (hm64 : -9223372036854775808 ≤ most) (hlen : rs.length ≤ 10000000) (hpl : plN (rs.map toPt) (rs.map toPt).length ≤ 10000000) (hfo : foN (rs.map toPt) (rs.map toPt).length ≤ 900000000) (hle : leN (rs.map toPt) (rs.map toPt).length ≤ 900000000) :
    Calls Tryd.prog 9 #[.slice a rs.length c, .int .i64 sy, .int .i64 most] w fun e w' => BuP w A rs sy most e w' := by
  obtain ⟨RC, hRC⟩ : ∃ RC, RC = w.heap.size := ⟨_, rfl⟩
  obtain ⟨w0, hw0⟩ : ∃ w0, w0 = w.alloc (.cells #[.int .i64 0, .slice none 0 0, .slice none 0 0] 28) := ⟨_, rfl⟩
  have hb0 : Below w.heap.size w w0 := by rw [hw0]; exact (Below.refl _ _).alloc (Nat.le_refl _) _
  have hrc : w0.heap[RC]? = some (.cells #[.int .i64 0, .slice none 0 0, .slice none 0 0] 28 (0, 0)) := by rw [hw0, hRC]; exact heap_alloc_new w _
  -- a world that goes on from the answer's block
  have HRf : Hid (∀ V : World, Below w0.heap.size w0 V → V.cell? ⟨RC, 0, none⟩ = some (.int .i64 0) ∧ V.cell? ⟨RC, 1, none⟩ = some (.slice none 0 0) ∧ V.cell? ⟨RC, 2, none⟩ = some (.slice none 0 0) ∧ V.frozen? ⟨RC, 0, none⟩ = false ∧ V.frozen? ⟨RC, 1, none⟩ = false ∧ V.frozen? ⟨RC, 2, none⟩ = false) := hid0 (fun V hV => by
    have hq : V.heap[RC]? = _ := (hV.block RC (Array.getElem?_eq_some_iff.1 hrc).1).trans hrc
    refine ⟨by rw [cell_of_row _ _ _ _ _ _ hq]; rfl, by rw [cell_of_row _ _ _ _ _ _ hq]; rfl, by rw [cell_of_row _ _ _ _ _ _ hq]; rfl, by simp [World.frozen?, hq], by simp [World.frozen?, hq], by simp [World.frozen?, hq]⟩)
  have HFin : Hid (∀ (V : World) (x y z : Value), Below w0.heap.size w0 V → ∀ V', V' = (((V.setCell ⟨RC, 0, none⟩ x).setCell ⟨RC, 1, none⟩ y).setCell ⟨RC, 2, none⟩ z) → V'.cell? ⟨RC, 0, none⟩ = some x ∧ V'.cell? ⟨RC, 1, none⟩ = some y ∧ V'.cell? ⟨RC, 2, none⟩ = some z ∧ Below w.heap.size w V' ∧ KeB [28] V V') := hid0 (fun V x y z hV V' e => by
    have hq0 : V.heap[RC]? = _ := (hV.block RC (Array.getElem?_eq_some_iff.1 hrc).1).trans hrc
    have hq1 := heap_setCell_same V _ 0 _ _ x hq0
    have hq2 := heap_setCell_same _ _ 1 _ _ y hq1
    have hq := heap_setCell_same _ _ 2 _ _ z hq2
    have hRJ : w.heap.size ≤ RC := by rw [hRC]; exact Nat.le_refl _
    have hbV := Below.later hb0 hV
    subst e
    refine ⟨by rw [cell_of_row _ _ _ _ _ _ hq]; rfl, by rw [cell_of_row _ _ _ _ _ _ hq]; rfl, by rw [cell_of_row _ _ _ _ _ _ hq]; rfl, ?_, ?_⟩
    · exact (((hbV.setCell (p := ⟨RC, 0, none⟩) hRJ _).setCell (p := ⟨RC, 1, none⟩) hRJ _).setCell (p := ⟨RC, 2, none⟩) hRJ _)
    · exact ((KeB.cell hq0 (by simp) x).trans (KeB.cell hq1 (by simp) y)).trans (KeB.cell hq2 (by simp) z))
  have HSen : Hid (∀ V : World, Below w0.heap.size w0 V → Sen2 V A ∧ PaI V a rs ∧ TabAt 11 Lib.deBruijn64tab V) := hid0 (fun V hV => ⟨hsen.below (Below.later hb0 hV), hp.past (Below.later hb0 hV), tab_past htab (Below.later hb0 hV)⟩)
  have hfold := hw0.symm
  have hRC2 := hRC.symm
  have hlI : (rs.length : Int) ≤ 10000000 := by omega
  have e0 : w0.cell? ⟨0, 0, none⟩ = some (.iface 157 (.pointer (some (A 0)))) := (HSen.out w0 (Below.refl _ _)).1.c0
  have hR0 : ¬ RC = 0 := by have := World.block_lt_of_cell? w _ hsen.c0; rw [hRC]; simp only at this; omega
  have hR0' : ¬ 0 = RC := fun e => hR0 e.symm
  have HB0 := hid0 hb0
  have HBnd := hid0 (And.intro hpl (And.intro hfo hle))
  clear hp hsen htab hw0 hRC hrc hb0 hpl hfo hle
  by_cases hbad : sy < 1 ∨ 16384 < sy ∨ most < 1 ∨ 16384 < most
  · have HBad := hid0 hbad
    obtain ⟨c0, c1, c2, f0, f1, f2⟩ := HRf.out w0 (Below.refl _ _)
    have hcs : sy < 1 ∨ (¬ sy < 1 ∧ 16384 < sy) ∨ (¬ sy < 1 ∧ ¬ 16384 < sy ∧ most < 1) ∨ (¬ sy < 1 ∧ ¬ 16384 < sy ∧ ¬ most < 1 ∧ 16384 < most) := by omega
    clear hbad
    rcases hcs with h1 | ⟨h1, h2⟩ | ⟨h1, h2, h3⟩ | ⟨h1, h2, h3, h4⟩
    all_goals
      go_enter Tryd.func9, Tryd.ntmps9
      go_upto_region 2 with (fail)
      go_region
      all_goals
        go_wp2
        obtain ⟨V', hV'⟩ : ∃ V', V' = (((w0.setCell ⟨RC, 0, none⟩ (.int .i64 0)).setCell ⟨RC, 1, none⟩ (.slice none 0 0)).setCell ⟨RC, 2, none⟩ (.slice none 0 0)) := ⟨_, rfl⟩
        rw [← hV']
        obtain ⟨q0, q1, q2, hB, _⟩ := HFin.out w0 _ _ _ (Below.refl _ _) V' hV'
        have HBf := hid0 hB
        clear hV' hB c0 c1 c2 f0 f1 f2
        refine bodyPost_ret (v := .tuple #[.agg #[.int .i64 0, .slice none 0 0, .slice none 0 0], errP A (some 0)]) (by simp [results, Tryd.results9, go_sem, q0, q1, q2, errP]) rfl ?_
        exact ⟨HBf.out.drew, by rw [if_pos HBad.out]⟩
  · obtain ⟨sN, rfl⟩ : ∃ sN : Nat, sy = (sN : Int) := ⟨sy.toNat, by omega⟩
    obtain ⟨mst, rfl⟩ : ∃ mst : Nat, most = (mst : Int) := ⟨most.toNat, by omega⟩
    have HBad := hid0 hbad
    have h1 : ¬ (sN : Int) < 1 := by omega
    have h2 : ¬ (16384 : Int) < (sN : Int) := by omega
    have h3 : ¬ (mst : Int) < 1 := by omega
    have h4 : ¬ (16384 : Int) < (mst : Int) := by omega
    have hs1 : 1 ≤ sN := by omega
    have hs2 : sN ≤ 16384 := by omega
    have hm1 : 1 ≤ mst := by omega
    have hm2 : mst ≤ 16384 := by omega
    clear hbad e0
    go_enter Tryd.func9, Tryd.ntmps9
    go_wp2
    go_loopw [30] (fun q wr => ∃ k : Nat, k ≤ rs.length ∧ q = .int .i64 (k : Int) ∧ Hid (Below w0.heap.size w0 wr) ∧ Hid (∀ i (h : i < k) (h2 : i < rs.length), (rs[i]).chk (sN : Int) = none)) (fun q _ => rs.length - (intOf q).toNat)
    case atStart => exact ⟨0, Nat.zero_le _, rfl, hid0 (Below.refl _ _), hid0 (fun i h => absurd h (Nat.not_lt_zero _))⟩
    case round =>
      obtain ⟨k, hk, rfl, HW, HN⟩ := hrel
      obtain ⟨V, hV⟩ : ∃ V, V = wr := ⟨_, rfl⟩
      subst hV
      by_cases hkl : k < rs.length
      · obtain ⟨b, off, eb, _, aL, aF, aA, aO, cL, cF, cA, cO, z0, z1, z2, z3, z4, z5, _, hpos⟩ := (HSen.out V HW.out).2.1.at' k hkl
        subst eb
        obtain ⟨r, hr⟩ : ∃ r, r = rs[k] := ⟨_, rfl⟩
        rw [← hr] at z0 z1 z2 z3 z4 z5 hpos
        obtain ⟨wA, hwA⟩ : ∃ wA, wA = V.alloc (.cells #[.slice aL r.Le.length cL, .slice aF r.Fi.length cF, .slice aA r.La.length cA, .slice aO r.Fo.length cO, .bool r.em, .bool r.an] 48) := ⟨_, rfl⟩
        have hbA : Below V.heap.size V wA := by rw [hwA]; exact (Below.refl _ _).alloc (Nat.le_refl _) _
        have hrA : wA.heap[V.heap.size]? = some (.cells #[.slice aL r.Le.length cL, .slice aF r.Fi.length cF, .slice aA r.La.length cA, .slice aO r.Fo.length cO, .bool r.em, .bool r.an] 48 (0, 0)) := by rw [hwA]; exact heap_alloc_new V _
        have e0 : wA.cell? ⟨V.heap.size, 0, none⟩ = some (.slice aL r.Le.length cL) := by rw [cell_of_row _ _ _ _ _ _ hrA]; rfl
        have e1 : wA.cell? ⟨V.heap.size, 1, none⟩ = some (.slice aF r.Fi.length cF) := by rw [cell_of_row _ _ _ _ _ _ hrA]; rfl
        have e2 : wA.cell? ⟨V.heap.size, 2, none⟩ = some (.slice aA r.La.length cA) := by rw [cell_of_row _ _ _ _ _ _ hrA]; rfl
        have e3 : wA.cell? ⟨V.heap.size, 3, none⟩ = some (.slice aO r.Fo.length cO) := by rw [cell_of_row _ _ _ _ _ _ hrA]; rfl
        have e4 : wA.cell? ⟨V.heap.size, 4, none⟩ = some (.bool r.em) := by rw [cell_of_row _ _ _ _ _ _ hrA]; rfl
        have hW2 : Below w0.heap.size w0 wA := Below.later HW.out hbA
        have HCk : Hid (Calls Tryd.prog 26 #[.agg #[.slice aL r.Le.length cL, .slice aF r.Fi.length cF, .slice aA r.La.length cA, .slice aO r.Fo.length cO, .bool r.em], .int .i64 (sN : Int)] wA fun e w' => e = .returned (errP A (r.chk (sN : Int))) ∧ Hid (Below w0.heap.size w0 w')) := hid0 ((check_two A (sN : Int) aL aF aA aO cL cF cA cO r.Le r.Fo r.Fi r.La r.em wA (hpos.past hbA) (by omega) (HSen.out wA hW2).1).mono (fun e w' ⟨q1, q2⟩ => ⟨q1, hid0 (Below.later hW2 q2)⟩))
        have hkI : (k : Int) < (rs.length : Int) := by omega
        have hkI0 : (0 : Int) ≤ (k : Int) := by omega
        have hfold2 := hwA.symm
        have HR := hid0 hr
        clear hwA hbA hrA hpos hW2 hr hfold
        cases hck : r.chk (sN : Int) with
        | some x =>
          have HRes : Hid (chkA rs (sN : Int) = some x) := hid0 (chkA_at hkl (fun i hi => HN.out i hi (by omega)) (by rw [← HR.out]; exact hck))
          rw [hck] at HCk
          unfold errP at HCk
          simp only at HCk
          clear hck
          go_upto_region 8 with (go_at_call 26; go_loud ((refine HCk.out.mono ?_; rintro e w2 ⟨rfl, HE2⟩)))
          obtain ⟨c0, c1, c2, f0, f1, f2⟩ := HRf.out w2 HE2.out
          go_wp2
          obtain ⟨V', hV'⟩ : ∃ V', V' = (((w2.setCell ⟨RC, 0, none⟩ (.int .i64 0)).setCell ⟨RC, 1, none⟩ (.slice none 0 0)).setCell ⟨RC, 2, none⟩ (.slice none 0 0)) := ⟨_, rfl⟩
          rw [← hV']
          obtain ⟨q0, q1, q2, hB, _⟩ := HFin.out w2 _ _ _ HE2.out V' hV'
          have HBf := hid0 hB
          clear hV' hB c0 c1 c2 f0 f1 f2
          refine bodyPost_ret (v := .tuple #[.agg #[.int .i64 0, .slice none 0 0, .slice none 0 0], errP A (some x)]) (by simp [results, Tryd.results9, go_sem, q0, q1, q2, errP]) rfl ?_
          refine ⟨HBf.out, ?_⟩
          rw [if_neg HBad.out, HRes.out]
        | none =>
          have HN2 : Hid (∀ i (h : i < k + 1) (h2 : i < rs.length), (rs[i]).chk (sN : Int) = none) := hid0 (fun i h h2 => by
            by_cases e : i = k
            · subst e; rw [← HR.out]; exact hck
            · exact HN.out i (by omega) h2)
          rw [hck] at HCk
          unfold errP at HCk
          simp only at HCk
          clear hck
          go_wp2_with (go_at_call 26; go_loud ((refine HCk.out.mono ?_; rintro e w2 ⟨rfl, HE2⟩)))
          go_roundw
          case rel => exact ⟨k + 1, by omega, by go_num, HE2, HN2⟩
          case measure => simp [intOf]; omega
      · obtain rfl : k = rs.length := by omega
        have HOk : Hid (∀ r ∈ rs, PrOk r sN) := hid0 (fun r hr => by
          obtain ⟨i, hi, rfl⟩ := List.getElem_of_mem hr
          exact Pr.ok (HN.out i hi hi))
        have HRes : Hid (chkA rs (sN : Int) = none) := hid0 (chkA_none (fun i hi => HN.out i hi hi))
        have HFi : Hid (∀ r ∈ rs, r.Fi.length ≤ 4000000 ∧ r.La.length ≤ 4000000) := hid0 (fun r hr => by
          obtain ⟨i, hi, rfl⟩ := List.getElem_of_mem hr
          obtain ⟨_, _, _, _, _, _, _, _, _, _, _, _, _, _, _, _, _, _, _, hpos⟩ := (HSen.out V HW.out).2.1.at' i hi
          exact ⟨hpos.l2, hpos.l3⟩)
        obtain ⟨N, hNe⟩ : ∃ N, N = mWd rs := ⟨_, rfl⟩
        obtain ⟨j, hj⟩ : ∃ j, j = mJ rs := ⟨_, rfl⟩
        obtain ⟨dv, hdv⟩ : ∃ dv, dv = 4194304 / sN := ⟨_, rfl⟩
        have hpl : ∀ p ∈ rs.map toPt, PtOk sN p := fun p hp => by
          obtain ⟨r, hr, rfl⟩ := List.mem_map.1 hp
          exact (HOk.out r hr).pt
        have hNb : N ≤ 1000000 ∧ plN (rs.map toPt) (rs.map toPt).length ≤ 64 * N := by
          have q := HBnd.out.1
          rw [hNe]; unfold mWd
          omega
        have hok : JnOk j sN N := by rw [hj]; exact jAcc_ok hpl hNb.2 _ (Nat.le_refl _)
        have hown : j.own.length = plN (rs.map toPt) (rs.map toPt).length := by rw [hj]; exact jAcc_own hpl _ (Nat.le_refl _)
        have hles : (j.LE.map List.length).sum ≤ 900000000 := by rw [hj]; exact Nat.le_trans (Nat.le_of_eq (jAcc_le _ _ (Nat.le_refl _))) HBnd.out.2.2
        have hfos : j.FO.flatten.length ≤ 900000000 := by rw [hj]; exact Nat.le_trans (jAcc_fo _ _ (Nat.le_refl _)) HBnd.out.2.1
        have hnms : j.at0.length ≤ 10000000 ∧ j.alw.length ≤ 10000000 := by
          have q := jAcc_nums (rs.map toPt) _ (Nat.le_refl _)
          rw [List.length_map] at q
          rw [hj]
          unfold mJ
          rw [List.length_map]
          omega
        have hlts : (LTs j.LE N).flatten.length ≤ 1000000000 := Nat.le_trans (LTs_small j.LE N) (by omega)
        have hol1 : j.own.length ≤ 10000000 := by rw [hown]; exact HBnd.out.1
        have hol2 : j.own.length ≤ 64 * N := by rw [hown]; exact hNb.2
        have HJo : Hid (Calls Tryd.prog 28 #[.slice a rs.length c, .int .i64 (sN : Int)] V.drew fun e w' => ∃ J, e = .returned (.pointer (some ⟨J, 0, none⟩)) ∧ Hid (JoF w' J sN V.heap.size N j ∧ Below w0.heap.size w0 w')) := hid0 (by
          have h := joinedOf_any sN c N a (rs.map toPt) V.drew ((HSen.out V.drew HW.out.drew).2.1.pal HOk.out) hpl hs2 (by rw [List.length_map]; exact hlen) (by have := HBnd.out.1; omega) hNe HBnd.out.2.1 HBnd.out.2.2 (fun p hp => by
            obtain ⟨r, hr, rfl⟩ := List.mem_map.1 hp
            have := HFi.out r hr
            show (tN r.Fi).length ≤ _ ∧ (tN r.La).length ≤ _
            rw [tN_len, tN_len]
            omega)
          have e5 : (rs.map toPt).length = rs.length := List.length_map _
          have e6 : jAcc (rs.map toPt) (rs.map toPt).length = j := hj.symm
          rw [e6, e5] at h
          exact h.mono (fun e w' ⟨J, q1, q2, q3⟩ => ⟨J, q1, hid0 ⟨q2, Below.later HW.out.drew q3⟩⟩))
        have HNb : Hid (∀ (X : Nat), X ≤ 16384 → ∀ (w2 : World) (J : Nat), JoF w2 J sN V.heap.size N j → Below w0.heap.size w0 w2 → Calls Tryd.prog 27 #[.pointer (some ⟨J, 0, none⟩), .int .i64 (X : Int)] w2 fun e w' => ∃ B, e = .returned (.pointer (some ⟨B, 0, none⟩)) ∧ Hid (∃ GT NB KB ps, NbI w2 B J sN N X GT sN NB KB (opF j N) (opE j N) (csF (opF j N) sN) (csF (opF j N) sN) (txN (opF j N) sN) ps w')) := hid0 (fun X hX w2 J q1 q2 => (newBuilder_any J sN N V.heap.size X j w2 q1 hok hNb.1 hs2 hs1 hol2 hlts (HSen.out w2 q2).2.2 hX).mono (fun e w' ⟨B, r1, r2⟩ => ⟨B, r1, hid0 r2⟩))
        have HBd : Hid (∀ (X : Nat), 1 ≤ X → X ≤ 16384 → ∀ (w2 w3 : World) (J B : Nat), JoF w2 J sN V.heap.size N j → Below w0.heap.size w0 w2 → (∃ GT NB KB ps, NbI w2 B J sN N X GT sN NB KB (opF j N) (opE j N) (csF (opF j N) sN) (csF (opF j N) sN) (txN (opF j N) sN) ps w3) → Calls Tryd.prog 29 #[.pointer (some ⟨B, 0, none⟩)] w3 fun e w' => BdP w2 A (bAll j N sN X) e w') := hid0 (fun X hX1 hX w2 w3 J B q1 q2 ⟨GT, NB, KB, ps, q3⟩ => by
          obtain ⟨vO, vF, vE, vL, vM, GZ, GP, GC, cZ, cP, cC, vS, vA, g1, g2, g3⟩ := q1.jo
          exact build_any w2 w3 B J sN V.heap.size N X GT NB KB A j vO vF vE vL vM _ _ _ vS vA ps (fun V' hV' => ⟨g1.past hV', (HSen.out V' (Below.later q2 hV')).2.2, (HSen.out V' (Below.later q2 hV')).1, g2.past hV', g3.past hV'⟩) q3 hok hNb.1 hs2 hol1 hol2 (by omega) hlts hnms.2 hnms.1 hX1 hX)
        have hdvI : (4194304 : Int) / (sN : Int) = (dv : Int) := by rw [hdv]; rfl
        have hdv1 : 1 ≤ dv := by rw [hdv]; exact Nat.le_trans (by decide) (Nat.div_le_div_left hs2 (by omega) : 4194304 / 16384 ≤ 4194304 / sN)
        have hdvb : dv ≤ 4194304 := by rw [hdv]; exact Nat.div_le_self _ _
        have hsI0 : (0 : Int) ≤ (sN : Int) := by omega
        have hsne : ¬ (sN : Int) = 0 := by omega
        have HAl : Hid (∀ X, X = min mst dv → mAll rs sN mst = bAll j N sN X) := hid0 (fun X hX => by rw [hX, hj, hNe, hdv]; rfl)
        have HW2 := HW
        clear hpl hok hown hles hfos hnms hlts hol1 hol2 hNb hNe hj hdv hfold
        obtain ⟨X, hX⟩ : ∃ X, X = min mst dv := ⟨_, rfl⟩
        have HX := hid0 (HAl.out X hX)
        have hXb : X ≤ 16384 := by omega
        have hX1 : 1 ≤ X := by omega
        have HXi : Hid ((if dv < mst then (dv : Int) else (mst : Int)) = (X : Int)) := hid0 (by split <;> omega)
        clear hX
        have hcs : (mst ≤ dv ∧ (mst : Int) ≤ (dv : Int) ∧ ¬ (dv : Int) < (mst : Int)) ∨ (dv < mst ∧ (dv : Int) < (mst : Int) ∧ (dv : Int) ≤ (mst : Int)) := by omega
        rcases hcs with ⟨hmd, hmdI, hmdJ⟩ | ⟨hmd, hmdI, hmdJ⟩
        · have HXe : Hid ((mst : Int) = (X : Int)) := hid0 (by have := HXi.out; split at this <;> omega)
          go_upto_region 10 with (fail)
          go_region_with (first
            | (go_at_call 28; refine HJo.out.mono ?_; rintro e w2 ⟨J, rfl, H2⟩)
            | (go_at_call 27; (first | rw [HXi.out] | rw [HXe.out]); refine (HNb.out X hXb w2 J H2.out.1 H2.out.2).mono ?_; rintro e w3 ⟨B, rfl, H3⟩))
          all_goals
            have HBd2 := hid0 (HBd.out X hX1 hXb w2 w3 J B H2.out.1 H2.out.2 H3.out)
            cases hq : bAll j N sN X with
            | none =>
              have HC : Hid (Calls Tryd.prog 29 #[.pointer (some ⟨B, 0, none⟩)] w3 fun e w' => e = .returned (.tuple #[.agg #[.int .i64 0, .slice none 0 0, .slice none 0 0], .iface 157 (.pointer (some (A 2)))]) ∧ Hid (Below w0.heap.size w0 w')) := hid0 (HBd2.out.mono (fun e w' h => by
                rw [hq] at h
                exact ⟨h.1, hid0 (Below.later H2.out.2 h.2)⟩))
              have HQ := hid0 hq
              clear hq HBd2
              go_upto_region 11 with (fail)
              go_wp2_with (go_at_call 29; go_loud ((refine HC.out.mono ?_; rintro e w4 ⟨rfl, H4⟩; obtain ⟨c0, c1, c2, f0, f1, f2⟩ := HRf.out w4 H4.out)))
              obtain ⟨V', hV'⟩ : ∃ V', V' = (((w4.setCell ⟨RC, 0, none⟩ (.int .i64 0)).setCell ⟨RC, 1, none⟩ (.slice none 0 0)).setCell ⟨RC, 2, none⟩ (.slice none 0 0)) := ⟨_, rfl⟩
              rw [← hV']
              obtain ⟨q0, q1, q2, hB, _⟩ := HFin.out w4 _ _ _ H4.out V' hV'
              have HBf := hid0 hB
              clear hV' hB c0 c1 c2 f0 f1 f2
              refine bodyPost_ret (v := .tuple #[.agg #[.int .i64 0, .slice none 0 0, .slice none 0 0], errP A (some 2)]) (by simp [results, Tryd.results9, go_sem, q0, q1, q2, errP]) rfl ?_
              refine ⟨HBf.out, ?_⟩
              rw [if_neg HBad.out, HRes.out]
              simp only [Int.toNat_natCast]
              rw [HX.out, HQ.out]
              exact trivial
            | some b =>
              have HC : Hid (Calls Tryd.prog 29 #[.pointer (some ⟨B, 0, none⟩)] w3 fun e w' => ∃ a9 n9 c9 a10 n10 c10, e = .returned (.tuple #[.agg #[.int .i64 0, .slice a9 n9 c9, .slice a10 n10 c10], .nilIface]) ∧ Hid (Below w0.heap.size w0 w' ∧ ∃ NX OU, RwsM w' w2.heap.size (.slice a9 n9 c9) NX b.nx ∧ RwsM w' w2.heap.size (.slice a10 n10 c10) OU b.ou ∧ (NX ++ OU).Pairwise Apt ∧ Apt (.slice a9 n9 c9) (.slice a10 n10 c10))) := hid0 (HBd2.out.mono (fun e w' h => by
                rw [hq] at h
                obtain ⟨vNx, vOu, NX, OU, r1, r2, r3, r4, r5, r6⟩ := h
                obtain ⟨a9, c9, e9⟩ := own_sl r3.outer
                obtain ⟨a10, c10, e10⟩ := own_sl r4.outer
                subst e9
                subst e10
                exact ⟨a9, _, c9, a10, _, c10, r1, hid0 ⟨Below.later H2.out.2 r2, NX, OU, r3, r4, r5, r6⟩⟩))
              have HQ := hid0 hq
              have HLo : Hid (w.heap.size ≤ w2.heap.size) := hid0 (Nat.le_trans HB0.out.size H2.out.2.size)
              clear hq HBd2
              go_upto_region 11 with (fail)
              go_wp2_with (go_at_call 29; go_loud ((refine HC.out.mono ?_; rintro e w4 ⟨a9, n9, c9, a10, n10, c10, rfl, H4⟩; obtain ⟨c0, c1, c2, f0, f1, f2⟩ := HRf.out w4 H4.out.1)))
              obtain ⟨V', hV'⟩ : ∃ V', V' = (((w4.setCell ⟨RC, 0, none⟩ (.int .i64 0)).setCell ⟨RC, 1, none⟩ (.slice a9 n9 c9)).setCell ⟨RC, 2, none⟩ (.slice a10 n10 c10)) := ⟨_, rfl⟩
              rw [← hV']
              obtain ⟨q0, q1, q2, hB, hK⟩ := HFin.out w4 _ _ _ H4.out.1 V' hV'
              have HBf := hid0 (And.intro hB hK)
              clear hV' hB hK c0 c1 c2 f0 f1 f2
              refine bodyPost_ret (v := .tuple #[.agg #[.int .i64 0, .slice a9 n9 c9, .slice a10 n10 c10], errP A none]) (by simp [results, Tryd.results9, go_sem, q0, q1, q2, errP]) rfl ?_
              refine ⟨HBf.out.1, ?_⟩
              rw [if_neg HBad.out, HRes.out]
              simp only [Int.toNat_natCast]
              rw [HX.out, HQ.out]
              obtain ⟨_, NX, OU, r3, r4, r5, r6⟩ := H4.out
              exact ⟨w2.heap.size, _, _, NX, OU, HLo.out, rfl, r3.keB HBf.out.2 (by decide) (by decide), r4.keB HBf.out.2 (by decide) (by decide), r5, r6⟩
        · have HXe : Hid ((dv : Int) = (X : Int)) := hid0 (by have := HXi.out; split at this <;> omega)
          go_upto_region 10 with (fail)
          go_region_with (first
            | (go_at_call 28; refine HJo.out.mono ?_; rintro e w2 ⟨J, rfl, H2⟩)
            | (go_at_call 27; (first | rw [HXi.out] | rw [HXe.out]); refine (HNb.out X hXb w2 J H2.out.1 H2.out.2).mono ?_; rintro e w3 ⟨B, rfl, H3⟩))
          all_goals
            have HBd2 := hid0 (HBd.out X hX1 hXb w2 w3 J B H2.out.1 H2.out.2 H3.out)
            cases hq : bAll j N sN X with
            | none =>
              have HC : Hid (Calls Tryd.prog 29 #[.pointer (some ⟨B, 0, none⟩)] w3 fun e w' => e = .returned (.tuple #[.agg #[.int .i64 0, .slice none 0 0, .slice none 0 0], .iface 157 (.pointer (some (A 2)))]) ∧ Hid (Below w0.heap.size w0 w')) := hid0 (HBd2.out.mono (fun e w' h => by
                rw [hq] at h
                exact ⟨h.1, hid0 (Below.later H2.out.2 h.2)⟩))
              have HQ := hid0 hq
              clear hq HBd2
              go_upto_region 11 with (fail)
              go_wp2_with (go_at_call 29; go_loud ((refine HC.out.mono ?_; rintro e w4 ⟨rfl, H4⟩; obtain ⟨c0, c1, c2, f0, f1, f2⟩ := HRf.out w4 H4.out)))
              obtain ⟨V', hV'⟩ : ∃ V', V' = (((w4.setCell ⟨RC, 0, none⟩ (.int .i64 0)).setCell ⟨RC, 1, none⟩ (.slice none 0 0)).setCell ⟨RC, 2, none⟩ (.slice none 0 0)) := ⟨_, rfl⟩
              rw [← hV']
              obtain ⟨q0, q1, q2, hB, _⟩ := HFin.out w4 _ _ _ H4.out V' hV'
              have HBf := hid0 hB
              clear hV' hB c0 c1 c2 f0 f1 f2
              refine bodyPost_ret (v := .tuple #[.agg #[.int .i64 0, .slice none 0 0, .slice none 0 0], errP A (some 2)]) (by simp [results, Tryd.results9, go_sem, q0, q1, q2, errP]) rfl ?_
              refine ⟨HBf.out, ?_⟩
              rw [if_neg HBad.out, HRes.out]
              simp only [Int.toNat_natCast]
              rw [HX.out, HQ.out]
              exact trivial
            | some b =>
              have HC : Hid (Calls Tryd.prog 29 #[.pointer (some ⟨B, 0, none⟩)] w3 fun e w' => ∃ a9 n9 c9 a10 n10 c10, e = .returned (.tuple #[.agg #[.int .i64 0, .slice a9 n9 c9, .slice a10 n10 c10], .nilIface]) ∧ Hid (Below w0.heap.size w0 w' ∧ ∃ NX OU, RwsM w' w2.heap.size (.slice a9 n9 c9) NX b.nx ∧ RwsM w' w2.heap.size (.slice a10 n10 c10) OU b.ou ∧ (NX ++ OU).Pairwise Apt ∧ Apt (.slice a9 n9 c9) (.slice a10 n10 c10))) := hid0 (HBd2.out.mono (fun e w' h => by
                rw [hq] at h
                obtain ⟨vNx, vOu, NX, OU, r1, r2, r3, r4, r5, r6⟩ := h
                obtain ⟨a9, c9, e9⟩ := own_sl r3.outer
                obtain ⟨a10, c10, e10⟩ := own_sl r4.outer
                subst e9
                subst e10
                exact ⟨a9, _, c9, a10, _, c10, r1, hid0 ⟨Below.later H2.out.2 r2, NX, OU, r3, r4, r5, r6⟩⟩))
              have HQ := hid0 hq
              have HLo : Hid (w.heap.size ≤ w2.heap.size) := hid0 (Nat.le_trans HB0.out.size H2.out.2.size)
              clear hq HBd2
              go_upto_region 11 with (fail)
              go_wp2_with (go_at_call 29; go_loud ((refine HC.out.mono ?_; rintro e w4 ⟨a9, n9, c9, a10, n10, c10, rfl, H4⟩; obtain ⟨c0, c1, c2, f0, f1, f2⟩ := HRf.out w4 H4.out.1)))
              obtain ⟨V', hV'⟩ : ∃ V', V' = (((w4.setCell ⟨RC, 0, none⟩ (.int .i64 0)).setCell ⟨RC, 1, none⟩ (.slice a9 n9 c9)).setCell ⟨RC, 2, none⟩ (.slice a10 n10 c10)) := ⟨_, rfl⟩
              rw [← hV']
              obtain ⟨q0, q1, q2, hB, hK⟩ := HFin.out w4 _ _ _ H4.out.1 V' hV'
              have HBf := hid0 (And.intro hB hK)
              clear hV' hB hK c0 c1 c2 f0 f1 f2
              refine bodyPost_ret (v := .tuple #[.agg #[.int .i64 0, .slice a9 n9 c9, .slice a10 n10 c10], errP A none]) (by simp [results, Tryd.results9, go_sem, q0, q1, q2, errP]) rfl ?_
              refine ⟨HBf.out.1, ?_⟩
              rw [if_neg HBad.out, HRes.out]
              simp only [Int.toNat_natCast]
              rw [HX.out, HQ.out]
              obtain ⟨_, NX, OU, r3, r4, r5, r6⟩ := H4.out
              exact ⟨w2.heap.size, _, _, NX, OU, HLo.out, rfl, r3.keB HBf.out.2 (by decide) (by decide), r4.keB HBf.out.2 (by decide) (by decide), r5, r6⟩
end Go.Proofs.YtleeedjpccooaaaDoor
namespace Go.Proofs.YtleeedjpccooaaaDoor
open Go.RowKit Go.Shelf
theorem nsF_val {T : Nat → List UInt8} {O : Nat → List Nat} {most : Nat} {ks : List (List UInt8)} {outs : Nat} {ou : List (List Nat)} : ∀ {c : Nat} {k : List (List UInt8)} {n : Nat} {o : List (List Nat)} {l : List Nat}, nsF T O most ks outs ou c = some (k, n, o, l) → l.length = c ∧ (∀ x ∈ l, 0 < x ∧ x < k.length + 1) ∧ ks.length ≤ k.length ∧ o.length + ks.length = ou.length + k.length ∧ (ks.length + 1 ≤ most → k.length + 1 ≤ most)
  | 0, k, n, o, l, h => by
    rw [nsF] at h
    simp only [Option.some.injEq, Prod.mk.injEq] at h
    obtain ⟨rfl, rfl, rfl, rfl⟩ := h
    exact ⟨rfl, (fun x hx => by cases hx), Nat.le_refl _, rfl, fun h => h⟩
  | c + 1, k, n, o, l, h => by
    cases hq : nsF T O most ks outs ou c with
    | none => rw [nsF, hq] at h; cases h
    | some q =>
      obtain ⟨k1, n1, o1, l1⟩ := q
      obtain ⟨i1, i2, i3, i4, i5⟩ := nsF_val hq
      by_cases hm : T c ∈ k1
      · rw [nsF_old hq hm] at h
        simp only [Option.some.injEq, Prod.mk.injEq] at h
        obtain ⟨rfl, rfl, rfl, rfl⟩ := h
        have hi := List.idxOf_lt_length_of_mem hm
        refine ⟨by rw [List.length_append, i1]; rfl, fun x hx => ?_, i3, i4, i5⟩
        rcases List.mem_append.1 hx with hx | hx
        · exact i2 x hx
        · rw [List.mem_singleton.1 hx]; omega
      · by_cases hf : k1.length + 1 = most ∨ 4194304 < n1 + (O c).length
        · rw [nsF_full hq hm hf] at h; cases h
        · rw [nsF_new hq hm hf] at h
          simp only [Option.some.injEq, Prod.mk.injEq] at h
          obtain ⟨rfl, rfl, rfl, rfl⟩ := h
          refine ⟨by rw [List.length_append, i1]; rfl, fun x hx => ?_, by rw [List.length_append]; omega, by rw [List.length_append, List.length_append, List.length_singleton, List.length_singleton]; omega, fun h => ?_⟩
          · rw [List.length_append, List.length_singleton]
            rcases List.mem_append.1 hx with hx | hx
            · have := i2 x hx; omega
            · rw [List.mem_singleton.1 hx]; omega
          · have := i5 h
            rw [List.length_append, List.length_singleton]
            omega
/-- What is true of the machine, however far it is made. -/
structure BsV (sy most : Nat) (b : Bs) : Prop where
  row : ∀ l ∈ b.nx, l.length = sy ∧ ∀ x ∈ l, 0 < x ∧ x < b.ks.length + 1
  ou : b.ou.length = b.ks.length + 1
  few : b.ks.length + 1 ≤ most
  nx : b.nx.length ≤ b.ks.length + 1
theorem bRun_val {j : Jn} {N sy most : Nat} {ix : Nat → Nat} {fs : Nat → Nat → Bool} {os : List (List UInt8 × List Nat)} : ∀ {s : Nat} {b : Bs}, bRun j N sy most ix fs os s = some b → BsV sy most b ∧ (b.nx.length = s ∨ (b.nx.length = b.ks.length + 1 ∧ b.nx.length ≤ s))
  | 0, b, h => by
    rw [bRun] at h
    by_cases hf : most = 0 ∨ 4194304 < j.at0.length
    · rw [if_pos hf] at h; cases h
    · rw [if_neg hf] at h
      simp only [Option.some.injEq] at h
      subst h
      exact ⟨⟨(fun l hl => by cases hl), rfl, by show 0 + 1 ≤ most; omega, Nat.zero_le _⟩, .inl rfl⟩
  | s + 1, b, h => by
    cases hq : bRun j N sy most ix fs os s with
    | none => rw [bRun, hq] at h; cases h
    | some b0 =>
      obtain ⟨i1, i2⟩ := bRun_val hq
      by_cases hs : s < b0.ks.length + 1
      · rw [bRun_more hq hs] at h
        unfold bStep at h
        cases hn : nsF (bT j N ix (bR j N fs b0 s)) (fun c => outF j N os (ix c) (andB (bR j N fs b0 s) (ltF j.LE c))) most b0.ks b0.n b0.ou sy with
        | none => rw [hn] at h; cases h
        | some q =>
          obtain ⟨k, n, o, l⟩ := q
          rw [hn] at h
          simp only [Option.some.injEq] at h
          subst h
          obtain ⟨v1, v2, v3, v4, v5⟩ := nsF_val hn
          have hnx : b0.nx.length = s := by
            rcases i2 with e | ⟨e, e2⟩
            · exact e
            · have := i1.nx; omega
          have hl : (b0.nx ++ [l]).length = s + 1 := by rw [List.length_append, hnx]; rfl
          refine ⟨⟨fun r hr => ?_, ?_, v5 i1.few, ?_⟩, .inl hl⟩
          · rcases List.mem_append.1 hr with hr | hr
            · obtain ⟨q1, q2⟩ := i1.row r hr
              exact ⟨q1, fun x hx => by have := q2 x hx; show 0 < x ∧ x < k.length + 1; omega⟩
            · rw [List.mem_singleton.1 hr]; exact ⟨v1, v2⟩
          · show o.length = k.length + 1
            have := i1.ou
            omega
          · show (b0.nx ++ [l]).length ≤ k.length + 1
            rw [hl]; omega
      · rw [bRun, hq] at h
        simp only at h
        rw [if_neg hs] at h
        simp only [Option.some.injEq] at h
        subst h
        refine ⟨i1, .inr ?_⟩
        have h1 := i1.nx
        rcases i2 with e | ⟨e, e2⟩
        · omega
        · omega
/-- All states have their rows: what Check asks of the numbers. -/
theorem bAll_val {j : Jn} {N sy most : Nat} {b : Bs} (h : bAll j N sy most = some b) : BsV sy most b ∧ b.nx.length = b.ks.length + 1 := by
  obtain ⟨i1, i2⟩ := bRun_val h
  refine ⟨i1, ?_⟩
  have h1 := i1.nx
  have h2 := i1.few
  rcases i2 with e | ⟨e, e2⟩
  · omega
  · exact e
end Go.Proofs.YtleeedjpccooaaaDoor
namespace Go.Proofs.YtleeedjpccooaaaDoor
open Go.RowKit Go.Shelf
def begP (an : Bool) : Pr := ⟨[[0]], [0], [0], [[]], false, an⟩
theorem begun_m : (mAll [begP false, begP true] 2 9).map (fun b => (b.nx, b.ou)) = some ([[1, 2], [3, 2], [3, 2], [3, 2]], [[], [0, 1], [], [0]]) := by kernel_rfl
end Go.Proofs.YtleeedjpccooaaaDoor
namespace Go.Proofs.YtleeedjpccooaaaDoor
open Go.RowKit Go.Shelf
/-- Numbers that do not fall, each once, rise. -/
theorem onceC_rise (l : List Nat) : l.Pairwise (· ≤ ·) → (onceC [] l).Pairwise (· < ·) ∧ (onceC [] l).getLast? = l.getLast? ∧ ∀ z, z ∈ onceC [] l ↔ z ∈ l := by
  have key : ∀ n, n ≤ l.length → l.Pairwise (· ≤ ·) → (onceC [] (l.take n)).Pairwise (· < ·) ∧ (onceC [] (l.take n)).getLast? = (l.take n).getLast? ∧ ∀ z, z ∈ onceC [] (l.take n) ↔ z ∈ l.take n := by
    intro n
    induction n with
    | zero => intro _ _; exact ⟨by simp [onceC], by simp [onceC], by simp [onceC]⟩
    | succ n ih =>
      intro hn hp
      obtain ⟨i1, i2, i3⟩ := ih (by omega) hp
      have e : l.take (n + 1) = l.take n ++ [l[n]] := by rw [List.take_add_one, List.getElem?_eq_getElem (by omega)]; rfl
      rw [e, onceC_snoc]
      have hle : ∀ z ∈ l.take n, z ≤ l[n] := fun z hz => by
        obtain ⟨i, hi, rfl⟩ := List.getElem_of_mem hz
        rw [List.getElem_take]
        rw [List.length_take] at hi
        exact List.pairwise_iff_getElem.1 hp i n (by omega) (by omega) (by omega)
      by_cases hl : (onceC [] (l.take n)).getLast? = some l[n]
      · rw [if_pos hl]
        refine ⟨i1, by rw [hl, List.getLast?_concat], fun z => ?_⟩
        rw [i3 z, List.mem_append]
        constructor
        · intro h; exact .inl h
        · rintro (h | h)
          · exact h
          · rw [List.mem_singleton.1 h]
            have := List.mem_of_getLast? hl
            exact (i3 _).1 this
      · rw [if_neg hl]
        refine ⟨?_, by rw [List.getLast?_concat, List.getLast?_concat], fun z => ?_⟩
        · rw [List.pairwise_append]
          refine ⟨i1, List.pairwise_singleton _ _, fun z hz y hy => ?_⟩
          rw [List.mem_singleton.1 hy]
          have h1 := hle z ((i3 z).1 hz)
          by_cases e2 : z = l[n]
          · exfalso
            apply hl
            -- the last is at least z, and at most the next
            have hne : onceC [] (l.take n) ≠ [] := List.ne_nil_of_mem hz
            rw [List.getLast?_eq_some_getLast hne]
            congr 1
            have hlm : (onceC [] (l.take n)).getLast hne ∈ onceC [] (l.take n) := List.getLast_mem hne
            have h2 := hle _ ((i3 _).1 hlm)
            have h3 : z ≤ (onceC [] (l.take n)).getLast hne := by
              have hd := List.dropLast_concat_getLast hne
              rw [← hd] at hz
              rcases List.mem_append.1 hz with hz | hz
              · rw [← hd] at i1
                exact Nat.le_of_lt ((List.pairwise_append.1 i1).2.2 z hz _ (by simp))
              · rw [List.mem_singleton.1 hz]; exact Nat.le_refl _
            omega
          · omega
        · rw [List.mem_append, List.mem_append, i3 z]
  intro hp
  have h := key l.length (Nat.le_refl _) hp
  rw [List.take_length] at h
  exact h
/-- The patterns that end are told rising. -/
theorem endL_rise (g : Nat → Bool) (own : List Nat) (n m : Nat) (hs : own.Pairwise (· ≤ ·)) (hg : ∀ q, g q = true → q < own.length) (hm : ∀ x ∈ own, x < m) : (endL g own n).Pairwise (· < ·) ∧ ∀ x ∈ endL g own n, x < m := by
  have hat : ∀ q ∈ plB g n, own.getD q 0 ∈ own := fun q hq => by
    have h1 := hg q (plB_mem.1 hq).2
    rw [List.getD_eq_getElem?_getD, List.getElem?_eq_getElem h1]
    exact List.getElem_mem h1
  have hp : ((plB g n).map fun q => own.getD q 0).Pairwise (· ≤ ·) := by
    rw [List.pairwise_map]
    have h0 : (plB g n).Pairwise (· < ·) := by unfold plB; exact List.Pairwise.filter _ List.pairwise_lt_range
    refine h0.imp_of_mem (fun {a b} ha hb hab => ?_)
    have h1 := hg a (plB_mem.1 ha).2
    have h2 := hg b (plB_mem.1 hb).2
    rw [List.getD_eq_getElem?_getD, List.getElem?_eq_getElem h1, List.getD_eq_getElem?_getD, List.getElem?_eq_getElem h2]
    exact List.pairwise_iff_getElem.1 hs a b h1 h2 hab
  obtain ⟨h1, _, h3⟩ := onceC_rise _ hp
  refine ⟨h1, fun x hx => ?_⟩
  obtain ⟨q, hq, rfl⟩ := List.mem_map.1 ((h3 x).1 hx)
  exact hm _ (hat q hq)
/-- Patterns are joined in their order. -/
theorem jAcc_rise (ps : List Pt) : ∀ k, k ≤ ps.length → ((jAcc ps k).own.Pairwise (· ≤ ·) ∧ ∀ x ∈ (jAcc ps k).own, x < k) ∧ ((jAcc ps k).at0.Pairwise (· < ·) ∧ ∀ x ∈ (jAcc ps k).at0, x < k) ∧ ((jAcc ps k).alw.Pairwise (· < ·) ∧ ∀ x ∈ (jAcc ps k).alw, x < k)
  | 0, _ => by refine ⟨⟨?_, ?_⟩, ⟨?_, ?_⟩, ?_, ?_⟩ <;> simp [jAcc, jNil]
  | k + 1, hk => by
    obtain ⟨⟨a1, a2⟩, ⟨b1, b2⟩, c1, c2⟩ := jAcc_rise ps k (by omega)
    rw [jAcc_succ (by omega)]
    have app : ∀ l : List Nat, l.Pairwise (· < ·) → (∀ x ∈ l, x < k) → (l ++ [k]).Pairwise (· < ·) ∧ ∀ x ∈ l ++ [k], x < k + 1 := fun l h1 h2 => by
      refine ⟨List.pairwise_append.2 ⟨h1, List.pairwise_singleton _ _, fun x hx y hy => by rw [List.mem_singleton.1 hy]; exact h2 x hx⟩, fun x hx => ?_⟩
      rcases List.mem_append.1 hx with hx | hx
      · have := h2 x hx; omega
      · rw [List.mem_singleton.1 hx]; omega
    refine ⟨⟨?_, ?_⟩, ?_, ?_⟩
    · refine List.pairwise_append.2 ⟨a1, List.pairwise_replicate.2 (.inr (Nat.le_refl _)), fun x hx y hy => ?_⟩
      rw [List.eq_of_mem_replicate hy]
      have := a2 x hx; omega
    · intro x hx
      rcases List.mem_append.1 hx with hx | hx
      · have := a2 x hx; omega
      · rw [List.eq_of_mem_replicate hx]; omega
    · show (if (ps[k]).em then (jAcc ps k).at0 ++ [k] else (jAcc ps k).at0).Pairwise (· < ·) ∧ ∀ x ∈ (if (ps[k]).em then (jAcc ps k).at0 ++ [k] else (jAcc ps k).at0), x < k + 1
      split
      · exact app _ b1 b2
      · exact ⟨b1, fun x hx => by have := b2 x hx; omega⟩
    · show (if (ps[k]).em && !(ps[k]).an then (jAcc ps k).alw ++ [k] else (jAcc ps k).alw).Pairwise (· < ·) ∧ ∀ x ∈ (if (ps[k]).em && !(ps[k]).an then (jAcc ps k).alw ++ [k] else (jAcc ps k).alw), x < k + 1
      split
      · exact app _ c1 c2
      · exact ⟨c1, fun x hx => by have := c2 x hx; omega⟩
end Go.Proofs.YtleeedjpccooaaaDoor
namespace Go.Proofs.YtleeedjpccooaaaDoor
open Go.RowKit Go.Shelf
theorem nsF_out {T : Nat → List UInt8} {O : Nat → List Nat} {most : Nat} {ks : List (List UInt8)} {outs : Nat} {ou : List (List Nat)} {P : List Nat → Prop} (hO : ∀ c, P (O c)) (hou : ∀ x ∈ ou, P x) : ∀ {c : Nat} {k : List (List UInt8)} {n : Nat} {o : List (List Nat)} {l : List Nat}, nsF T O most ks outs ou c = some (k, n, o, l) → ∀ x ∈ o, P x
  | 0, k, n, o, l, h => by
    rw [nsF] at h
    simp only [Option.some.injEq, Prod.mk.injEq] at h
    obtain ⟨rfl, rfl, rfl, rfl⟩ := h
    exact hou
  | c + 1, k, n, o, l, h => by
    cases hq : nsF T O most ks outs ou c with
    | none => rw [nsF, hq] at h; cases h
    | some q =>
      obtain ⟨k1, n1, o1, l1⟩ := q
      have ih := nsF_out hO hou hq
      by_cases hm : T c ∈ k1
      · rw [nsF_old hq hm] at h
        simp only [Option.some.injEq, Prod.mk.injEq] at h
        obtain ⟨rfl, rfl, rfl, rfl⟩ := h
        exact ih
      · by_cases hf : k1.length + 1 = most ∨ 4194304 < n1 + (O c).length
        · rw [nsF_full hq hm hf] at h; cases h
        · rw [nsF_new hq hm hf] at h
          simp only [Option.some.injEq, Prod.mk.injEq] at h
          obtain ⟨rfl, rfl, rfl, rfl⟩ := h
          intro x hx
          rcases List.mem_append.1 hx with hx | hx
          · exact ih x hx
          · rw [List.mem_singleton.1 hx]; exact hO c
theorem bRun_out {j : Jn} {N sy most : Nat} {ix : Nat → Nat} {fs : Nat → Nat → Bool} {os : List (List UInt8 × List Nat)} {P : List Nat → Prop} (h0 : P j.at0) (hO : ∀ i g, P (outF j N os i g)) : ∀ {s : Nat} {b : Bs}, bRun j N sy most ix fs os s = some b → ∀ x ∈ b.ou, P x
  | 0, b, h => by
    rw [bRun] at h
    by_cases hf : most = 0 ∨ 4194304 < j.at0.length
    · rw [if_pos hf] at h; cases h
    · rw [if_neg hf] at h
      simp only [Option.some.injEq] at h
      subst h
      intro x hx
      rw [List.mem_singleton.1 hx]; exact h0
  | s + 1, b, h => by
    cases hq : bRun j N sy most ix fs os s with
    | none => rw [bRun, hq] at h; cases h
    | some b0 =>
      have ih := bRun_out h0 hO hq
      by_cases hs : s < b0.ks.length + 1
      · rw [bRun_more hq hs] at h
        unfold bStep at h
        cases hn : nsF (bT j N ix (bR j N fs b0 s)) (fun c => outF j N os (ix c) (andB (bR j N fs b0 s) (ltF j.LE c))) most b0.ks b0.n b0.ou sy with
        | none => rw [hn] at h; cases h
        | some q =>
          obtain ⟨k, n, o, l⟩ := q
          rw [hn] at h
          simp only [Option.some.injEq] at h
          subst h
          exact nsF_out (fun c => hO _ _) ih hn
      · rw [bRun, hq] at h
        simp only at h
        rw [if_neg hs] at h
        simp only [Option.some.injEq] at h
        subst h
        exact ih
/-- A list that rises, of numbers below n. -/
def Ris (n : Nat) (l : List Nat) : Prop := l.Pairwise (· < ·) ∧ ∀ x ∈ l, x < n
theorem Ris.mrg {n : Nat} {a b : List Nat} (ha : Ris n a) (hb : Ris n b) : Ris n (mrg a b) := ⟨mrg_rise a b ha.1 hb.1, fun x hx => ((mrg_mem a b x).1 hx).elim (ha.2 x) (hb.2 x)⟩
theorem outF_ris {j : Jn} {N n : Nat} {os : List (List UInt8 × List Nat)} (hs : j.own.Pairwise (· ≤ ·)) (hm : ∀ x ∈ j.own, x < n) (hla : ∀ q, j.la q = true → q < j.own.length) (hal : Ris n j.alw) (hos : ∀ x ∈ os, Ris n x.2) (i : Nat) (g : Nat → Bool) : Ris n (outF j N os i g) := by
  unfold outF
  refine hal.mrg (Ris.mrg ?_ (endL_rise _ _ _ n hs (fun q hq => ?_) hm))
  · rw [List.getD_eq_getElem?_getD]
    by_cases hi : i < os.length
    · rw [List.getElem?_eq_getElem hi]; exact hos _ (List.getElem_mem hi)
    · rw [List.getElem?_eq_none (by omega)]; exact ⟨List.Pairwise.nil, fun x hx => by cases hx⟩
  · rw [Bool.and_eq_true] at hq
    exact hla q hq.2
/-- What Build's machine tells. -/
theorem mAll_ris {rs : List Pr} {sy most : Nat} {b : Bs} (hok : ∀ r ∈ rs, PrOk r sy) (h : mAll rs sy most = some b) : ∀ o ∈ b.ou, Ris rs.length o := by
  have hpl : ∀ p ∈ rs.map toPt, PtOk sy p := fun p hp => by
    obtain ⟨r, hr, rfl⟩ := List.mem_map.1 hp
    exact (hok r hr).pt
  have hN : plN (rs.map toPt) (rs.map toPt).length ≤ 64 * mWd rs := by unfold mWd; omega
  have hJ : JnOk (mJ rs) sy (mWd rs) := jAcc_ok hpl hN _ (Nat.le_refl _)
  have hlen : (rs.map toPt).length = rs.length := List.length_map _
  obtain ⟨⟨a1, a2⟩, ⟨b1, b2⟩, c1, c2⟩ := jAcc_rise (rs.map toPt) (rs.map toPt).length (Nat.le_refl _)
  rw [hlen] at a2 b2 c2
  have a1' : (mJ rs).own.Pairwise (· ≤ ·) := a1
  have a2' : ∀ x ∈ (mJ rs).own, x < rs.length := by unfold mJ; rw [hlen]; exact a2
  have b' : Ris rs.length (mJ rs).at0 := ⟨b1, by unfold mJ; rw [hlen]; exact b2⟩
  have c' : Ris rs.length (mJ rs).alw := ⟨c1, by unfold mJ; rw [hlen]; exact c2⟩
  refine bRun_out b' (fun i g => outF_ris a1' a2' hJ.la' c' (fun x hx => ?_) i g) h
  unfold bOs at hx
  obtain ⟨c, _, rfl⟩ := List.mem_map.1 hx
  refine endL_rise _ _ _ _ a1' (fun q hq => ?_) a2'
  rw [Bool.and_eq_true] at hq
  exact hJ.la' q hq.2
end Go.Proofs.YtleeedjpccooaaaDoor
namespace Go.Proofs.YtleeedjpccooaaaDoor
open Go.RowKit Go.Shelf
theorem nsF_most {T : Nat → List UInt8} {O : Nat → List Nat} {most most' : Nat} {ks : List (List UInt8)} {outs : Nat} {ou : List (List Nat)} : ∀ {c : Nat} {k : List (List UInt8)} {n : Nat} {o : List (List Nat)} {l : List Nat}, nsF T O most ks outs ou c = some (k, n, o, l) → k.length + 1 ≤ most' → nsF T O most' ks outs ou c = some (k, n, o, l)
  | 0, k, n, o, l, h, _ => by rw [nsF] at h ⊢; exact h
  | c + 1, k, n, o, l, h, hm' => by
    cases hq : nsF T O most ks outs ou c with
    | none => rw [nsF, hq] at h; cases h
    | some q =>
      obtain ⟨k1, n1, o1, l1⟩ := q
      by_cases hm : T c ∈ k1
      · rw [nsF_old hq hm] at h
        simp only [Option.some.injEq, Prod.mk.injEq] at h
        obtain ⟨rfl, rfl, rfl, rfl⟩ := h
        exact nsF_old (nsF_most hq hm') hm
      · by_cases hf : k1.length + 1 = most ∨ 4194304 < n1 + (O c).length
        · rw [nsF_full hq hm hf] at h; cases h
        · rw [nsF_new hq hm hf] at h
          simp only [Option.some.injEq, Prod.mk.injEq] at h
          obtain ⟨rfl, rfl, rfl, rfl⟩ := h
          rw [List.length_append, List.length_singleton] at hm'
          exact nsF_new (nsF_most hq (by omega)) hm (by omega)
theorem bRun_most {j : Jn} {N sy most most' : Nat} {ix : Nat → Nat} {fs : Nat → Nat → Bool} {os : List (List UInt8 × List Nat)} : ∀ {s : Nat} {b : Bs}, bRun j N sy most ix fs os s = some b → b.ks.length + 1 ≤ most' → bRun j N sy most' ix fs os s = some b
  | 0, b, h, hm' => by
    rw [bRun] at h ⊢
    by_cases hf : most = 0 ∨ 4194304 < j.at0.length
    · rw [if_pos hf] at h; cases h
    · rw [if_neg hf] at h
      rw [if_neg (by omega)]
      exact h
  | s + 1, b, h, hm' => by
    cases hq : bRun j N sy most ix fs os s with
    | none => rw [bRun, hq] at h; cases h
    | some b0 =>
      by_cases hs : s < b0.ks.length + 1
      · rw [bRun_more hq hs] at h
        unfold bStep at h
        cases hn : nsF (bT j N ix (bR j N fs b0 s)) (fun c => outF j N os (ix c) (andB (bR j N fs b0 s) (ltF j.LE c))) most b0.ks b0.n b0.ou sy with
        | none => rw [hn] at h; cases h
        | some q =>
          obtain ⟨k, n, o, l⟩ := q
          have v := nsF_val hn
          rw [hn] at h
          simp only [Option.some.injEq] at h
          have hk : b.ks = k := by rw [← h]
          rw [hk] at hm'
          rw [bRun_more (bRun_most hq (by omega)) hs]
          unfold bStep
          rw [nsF_most hn hm']
          simp only [Option.some.injEq]
          exact h
      · rw [bRun, hq] at h
        simp only at h
        rw [if_neg hs] at h
        simp only [Option.some.injEq] at h
        subst h
        rw [bRun, bRun_most hq hm']
        simp only
        rw [if_neg hs]
/-- When all rows are there, they are there at once behind the last. -/
theorem bRun_last {j : Jn} {N sy most : Nat} {ix : Nat → Nat} {fs : Nat → Nat → Bool} {os : List (List UInt8 × List Nat)} : ∀ {s : Nat} {b : Bs}, bRun j N sy most ix fs os s = some b → b.nx.length = b.ks.length + 1 → bRun j N sy most ix fs os (b.ks.length + 1) = some b
  | 0, b, h, hl => by
    obtain ⟨_, i2⟩ := bRun_val h
    omega
  | s + 1, b, h, hl => by
    cases hq : bRun j N sy most ix fs os s with
    | none => rw [bRun, hq] at h; cases h
    | some b0 =>
      by_cases hs : s < b0.ks.length + 1
      · obtain ⟨i1, i2⟩ := bRun_val h
        rcases i2 with e | ⟨e, e2⟩
        · rw [← hl, e]; exact h
        · -- the step adds a row, so there are s + 1 of them
          have e3 : b.nx.length = s + 1 := by
            obtain ⟨u1, u2⟩ := bRun_val hq
            have h' := h
            rw [bRun_more hq hs] at h'
            unfold bStep at h'
            cases hn : nsF (bT j N ix (bR j N fs b0 s)) (fun c => outF j N os (ix c) (andB (bR j N fs b0 s) (ltF j.LE c))) most b0.ks b0.n b0.ou sy with
            | none => rw [hn] at h'; cases h'
            | some q =>
              obtain ⟨k, n, o, l⟩ := q
              rw [hn] at h'
              simp only [Option.some.injEq] at h'
              rw [← h']
              show (b0.nx ++ [l]).length = s + 1
              rw [List.length_append, List.length_singleton]
              rcases u2 with e4 | ⟨e4, e5⟩
              · omega
              · omega
          rw [← hl, e3]; exact h
      · rw [bRun, hq] at h
        simp only at h
        rw [if_neg hs] at h
        simp only [Option.some.injEq] at h
        subst h
        exact bRun_last hq hl
theorem bAll_most {j : Jn} {N sy most most' : Nat} {b : Bs} (h : bAll j N sy most = some b) (hm : b.ks.length + 1 ≤ most') : bAll j N sy most' = some b := by
  obtain ⟨_, v2⟩ := bAll_val h
  have h1 := bRun_most (bRun_last h v2) hm
  have h2 := bRun_done h1 (Nat.le_refl _) (most' - (b.ks.length + 1))
  rw [show b.ks.length + 1 + (most' - (b.ks.length + 1)) = most' by omega] at h2
  exact h2
theorem bAll_less {j : Jn} {N sy most most' : Nat} {b : Bs} (h : bAll j N sy most = some b) (hm : most' < b.ks.length + 1) : bAll j N sy most' = none := by
  cases hq : bAll j N sy most' with
  | none => rfl
  | some b' =>
    exfalso
    have h1 := (bAll_val hq).1.few
    have h2 := (bAll_val h).1.few
    have h3 := bAll_most hq (most' := most) (by omega)
    rw [h] at h3
    injection h3 with h3
    rw [h3] at hm
    omega
/-- MachineMost's mathematics. -/
theorem mAll_most {rs : List Pr} {sy most most' : Nat} {b : Bs} (h : mAll rs sy most = some b) (hm : b.nx.length ≤ most') : mAll rs sy most' = some b := by
  have h1 := bAll_val h
  exact bAll_most h (by have := h1.1.few; have := h1.2; omega)
theorem mAll_less {rs : List Pr} {sy most most' : Nat} {b : Bs} (h : mAll rs sy most = some b) (hm : most' < b.nx.length) : mAll rs sy most' = none := by
  have h1 := bAll_val h
  exact bAll_less h (by have := h1.2; omega)
end Go.Proofs.YtleeedjpccooaaaDoor
namespace Go.Proofs.YtleeedjpccooaaaDoor
open Go.RowKit Go.Shelf
/-- The greatest state that was met, behind a row; none, if a number came too early. -/
def metR (t : Nat) (l : List Nat) : Option Nat := l.foldl (fun a n => a.bind fun t => if t + 1 < n then none else some (max t n)) (some t)
theorem metR_snoc (t : Nat) (l : List Nat) (n : Nat) : metR t (l ++ [n]) = (metR t l).bind fun t => if t + 1 < n then none else some (max t n) := by unfold metR; rw [List.foldl_append]; rfl
theorem nsF_met {T : Nat → List UInt8} {O : Nat → List Nat} {most : Nat} {ks : List (List UInt8)} {outs : Nat} {ou : List (List Nat)} : ∀ {c : Nat} {k : List (List UInt8)} {n : Nat} {o : List (List Nat)} {l : List Nat}, nsF T O most ks outs ou c = some (k, n, o, l) → metR ks.length l = some k.length
  | 0, k, n, o, l, h => by
    rw [nsF] at h
    simp only [Option.some.injEq, Prod.mk.injEq] at h
    obtain ⟨rfl, rfl, rfl, rfl⟩ := h
    rfl
  | c + 1, k, n, o, l, h => by
    cases hq : nsF T O most ks outs ou c with
    | none => rw [nsF, hq] at h; cases h
    | some q =>
      obtain ⟨k1, n1, o1, l1⟩ := q
      have ih := nsF_met hq
      by_cases hm : T c ∈ k1
      · rw [nsF_old hq hm] at h
        simp only [Option.some.injEq, Prod.mk.injEq] at h
        obtain ⟨rfl, rfl, rfl, rfl⟩ := h
        have hi := List.idxOf_lt_length_of_mem hm
        rw [metR_snoc, ih, Option.bind_some, if_neg (by omega)]
        congr 1
        omega
      · by_cases hf : k1.length + 1 = most ∨ 4194304 < n1 + (O c).length
        · rw [nsF_full hq hm hf] at h; cases h
        · rw [nsF_new hq hm hf] at h
          simp only [Option.some.injEq, Prod.mk.injEq] at h
          obtain ⟨rfl, rfl, rfl, rfl⟩ := h
          rw [metR_snoc, ih, Option.bind_some, if_neg (by omega), List.length_append, List.length_singleton]
          congr 1
          omega
/-- Behind all rows; none, if a row came ahead of its state. -/
def metA (nx : List (List Nat)) : Option Nat := nx.zipIdx.foldl (fun a x => a.bind fun t => if t < x.2 then none else metR t x.1) (some 0)
theorem metA_snoc (nx : List (List Nat)) (l : List Nat) : metA (nx ++ [l]) = (metA nx).bind fun t => if t < nx.length then none else metR t l := by
  unfold metA
  rw [List.zipIdx_append, List.foldl_append]
  simp
theorem bRun_met {j : Jn} {N sy most : Nat} {ix : Nat → Nat} {fs : Nat → Nat → Bool} {os : List (List UInt8 × List Nat)} : ∀ {s : Nat} {b : Bs}, bRun j N sy most ix fs os s = some b → metA b.nx = some b.ks.length
  | 0, b, h => by
    rw [bRun] at h
    by_cases hf : most = 0 ∨ 4194304 < j.at0.length
    · rw [if_pos hf] at h; cases h
    · rw [if_neg hf] at h
      simp only [Option.some.injEq] at h
      subst h
      rfl
  | s + 1, b, h => by
    cases hq : bRun j N sy most ix fs os s with
    | none => rw [bRun, hq] at h; cases h
    | some b0 =>
      have ih := bRun_met hq
      obtain ⟨u1, u2⟩ := bRun_val hq
      by_cases hs : s < b0.ks.length + 1
      · rw [bRun_more hq hs] at h
        unfold bStep at h
        cases hn : nsF (bT j N ix (bR j N fs b0 s)) (fun c => outF j N os (ix c) (andB (bR j N fs b0 s) (ltF j.LE c))) most b0.ks b0.n b0.ou sy with
        | none => rw [hn] at h; cases h
        | some q =>
          obtain ⟨k, n, o, l⟩ := q
          rw [hn] at h
          simp only [Option.some.injEq] at h
          subst h
          show metA (b0.nx ++ [l]) = some k.length
          rw [metA_snoc, ih, Option.bind_some, if_neg (by rcases u2 with e | ⟨e, e2⟩ <;> omega)]
          exact nsF_met hn
      · rw [bRun, hq] at h
        simp only at h
        rw [if_neg hs] at h
        simp only [Option.some.injEq] at h
        subst h
        exact ih
/-- MachineMeets' mathematics. -/
theorem mAll_met {rs : List Pr} {sy most : Nat} {b : Bs} (h : mAll rs sy most = some b) : metA b.nx = some (b.nx.length - 1) := by
  have h1 := bRun_met h
  have h2 := (bAll_val h).2
  rw [h1, h2]
  rfl
end Go.Proofs.YtleeedjpccooaaaDoor
namespace Go.Proofs.YtleeedjpccooaaaDoor
open Go.RowKit Go.Shelf
/-- Two refusals, each its own object; the table. -/
structure EnvM (w : World) (A : Nat → Addr) : Prop where
  t : EnvT w A
  ne : A 0 ≠ A 2
  b0 : ∃ c t, w.heap[(A 0).block]? = some (.cells c t (0, 0))
  b2 : ∃ c t, w.heap[(A 2).block]? = some (.cells c t (0, 0))
theorem EnvM.past {w w' : World} {A : Nat → Addr} (h : EnvM w A) (hb : Below w.heap.size w w') : EnvM w' A := ⟨h.t.past hb, h.ne, by
  obtain ⟨c, t, hc⟩ := h.b0
  exact ⟨c, t, (hb.block _ (Array.getElem?_eq_some_iff.1 hc).1).trans hc⟩, by
  obtain ⟨c, t, hc⟩ := h.b2
  exact ⟨c, t, (hb.block _ (Array.getElem?_eq_some_iff.1 hc).1).trans hc⟩⟩
theorem eq_same (w : World) (x : Addr) : (binOp .eql 30 (.iface 157 (.pointer (some x))) (.iface 157 (.pointer (some x)))).run Tryd.prog w = .ok (.bool true) w := by
  obtain ⟨ti, h1, h2⟩ := Option.map_eq_some_iff.1 compErr
  obtain ⟨tj, h3, h4⟩ := Option.map_eq_some_iff.1 sizeErr
  rw [run_eql_iface_ptr_same w x Tryd.underlying30 Tryd.underlying157 h1 h2 h3]
theorem EnvM.eq20 {w : World} {A : Nat → Addr} (h : EnvM w A) : (binOp .eql 30 (.iface 157 (.pointer (some (A 2)))) (.iface 157 (.pointer (some (A 0))))).run Tryd.prog w = .ok (.bool false) w := by
  obtain ⟨ti, h1, h2⟩ := Option.map_eq_some_iff.1 compErr
  obtain ⟨tj, h3, h4⟩ := Option.map_eq_some_iff.1 sizeErr
  obtain ⟨ca, ta, ha⟩ := h.b2
  obtain ⟨cb, tb, hb⟩ := h.b0
  rw [run_eql_iface_ptr_other w Tryd.underlying30 Tryd.underlying157 h1 h2 h3 (by rw [h4]; decide) (fun e => h.ne e.symm) ha hb]
theorem EnvM.eq02 {w : World} {A : Nat → Addr} (h : EnvM w A) : (binOp .eql 30 (.iface 157 (.pointer (some (A 0)))) (.iface 157 (.pointer (some (A 2))))).run Tryd.prog w = .ok (.bool false) w := by
  obtain ⟨ti, h1, h2⟩ := Option.map_eq_some_iff.1 compErr
  obtain ⟨tj, h3, h4⟩ := Option.map_eq_some_iff.1 sizeErr
  obtain ⟨ca, ta, ha⟩ := h.b0
  obtain ⟨cb, tb, hb⟩ := h.b2
  rw [run_eql_iface_ptr_other w Tryd.underlying30 Tryd.underlying157 h1 h2 h3 (by rw [h4]; decide) h.ne ha hb]
/-- Lists made, as lists read. -/
theorem RwsM.rwa {W : World} {lo : Nat} {v : Value} {VS : List Value} {L : List (List Nat)} (h : RwsM W lo v VS L) : ∃ a c, v = .slice a L.length c ∧ RwA W a (L.map nI) := by
  have h0 := h.outer
  rcases h.outer.2 with ⟨rfl, hn⟩ | ⟨g, cap, cur, rfl, hg, hr, hc, _⟩
  · have e : L.length = 0 := by rw [← h.len]; exact hn
    refine ⟨none, 0, by rw [e], ⟨fun k hk => ?_⟩⟩
    rw [List.length_map] at hk
    omega
  · refine ⟨some ⟨g, 0, none⟩, cap, by rw [h.len], ⟨fun k hk => ?_⟩⟩
    rw [List.length_map] at hk
    obtain ⟨x, e1, e2⟩ := h.row k hk
    obtain ⟨a1, c1, e3, e4⟩ := e2.ia
    refine ⟨g, 0, rfl, (World.ownsRow.lt h0 g rfl).2, a1, c1, ?_, ?_⟩
    · have q := World.ownsRow.cellAt h0 k (by rw [h.len, Nat.mul_one]; exact hk)
      rw [Nat.zero_add, q, e1, e3, List.getElem_map]
    · rw [List.getElem_map]; exact e4
/-- What Build says: a refusal's number or a machine. -/
def bldF (rs : List Pr) (sy most : Int) : Except Nat Bs :=
  if sy < 1 ∨ 16384 < sy ∨ most < 1 ∨ 16384 < most then .error 0
  else match chkA rs sy with
    | some i => .error i
    | none => match mAll rs sy.toNat most.toNat with
      | none => .error 2
      | some b => .ok b
/-- What the input is bounded by. -/
structure PrB (rs : List Pr) : Prop where
  len : rs.length ≤ 10000000
  pl : plN (rs.map toPt) (rs.map toPt).length ≤ 10000000
  fo : foN (rs.map toPt) (rs.map toPt).length ≤ 900000000
  le : leN (rs.map toPt) (rs.map toPt).length ≤ 900000000
theorem build_err {A : Nat → Addr} {rs : List Pr} {sy most : Int} {a : Option Addr} {c : Nat} {w : World} {i : Nat} (h : bldF rs sy most = .error i) (hp : PaI w a rs) (he : EnvM w A) (hs63 : sy ≤ 9223372036854775807) (hs64 : -9223372036854775808 ≤ sy) (hm63 : most ≤ 9223372036854775807) (hm64 : -9223372036854775808 ≤ most) (hB : PrB rs) :
    Calls Tryd.prog 9 #[.slice a rs.length c, .int .i64 sy, .int .i64 most] w fun e w' => e = .returned (.tuple #[.agg #[.int .i64 0, .slice none 0 0, .slice none 0 0], .iface 157 (.pointer (some (A i)))]) ∧ Hid (Below w.heap.size w w') := by
  refine (Build_any A rs sy most a c w hp he.t.sen he.t.tab hs63 hs64 hm63 hm64 hB.len hB.pl hB.fo hB.le).mono ?_
  rintro e w' ⟨q1, q2⟩
  unfold bldF at h
  split at h
  · rename_i hc
    rw [if_pos hc] at q2
    injection h with h
    subst h
    exact ⟨q2, hid0 q1⟩
  · rename_i hc
    rw [if_neg hc] at q2
    split at h
    · rename_i j hj
      rw [hj] at q2
      injection h with h
      subst h
      exact ⟨q2, hid0 q1⟩
    · rename_i hj
      rw [hj] at q2
      split at h
      · rename_i hm
        simp only [hm] at q2
        injection h with h
        subst h
        exact ⟨q2, hid0 q1⟩
      · cases h
theorem build_ok {A : Nat → Addr} {rs : List Pr} {sy most : Int} {a : Option Addr} {c : Nat} {w : World} {b : Bs} (h : bldF rs sy most = .ok b) (hp : PaI w a rs) (he : EnvM w A) (hs63 : sy ≤ 9223372036854775807) (hs64 : -9223372036854775808 ≤ sy) (hm63 : most ≤ 9223372036854775807) (hm64 : -9223372036854775808 ≤ most) (hB : PrB rs) :
    Calls Tryd.prog 9 #[.slice a rs.length c, .int .i64 sy, .int .i64 most] w fun e w' => ∃ aN aO cN cO, e = .returned (.tuple #[.agg #[.int .i64 0, .slice aN b.nx.length cN, .slice aO b.ou.length cO], .nilIface]) ∧ Hid (RwA w' aN (b.nx.map nI) ∧ RwA w' aO (b.ou.map nI) ∧ Below w.heap.size w w') := by
  refine (Build_any A rs sy most a c w hp he.t.sen he.t.tab hs63 hs64 hm63 hm64 hB.len hB.pl hB.fo hB.le).mono ?_
  rintro e w' ⟨q1, q2⟩
  unfold bldF at h
  split at h
  · cases h
  · rename_i hc
    rw [if_neg hc] at q2
    split at h
    · cases h
    · rename_i hj
      rw [hj] at q2
      split at h
      · cases h
      · rename_i b' hm
        injection h with h
        subst h
        simp only [hm] at q2
        obtain ⟨lo, vN, vO, NX, OU, _, e1, e2, e3, _, _⟩ := q2
        obtain ⟨aN, cN, f1, f2⟩ := e2.rwa
        obtain ⟨aO, cO, f3, f4⟩ := e3.rwa
        subst f1 f3
        exact ⟨aN, aO, cN, cO, e1, hid0 ⟨f2, f4, q1⟩⟩
/-- What may be said of a machine that was built. -/
structure BldV (rs : List Pr) (sy most : Int) (b : Bs) : Prop where
  s1 : 1 ≤ sy
  s2 : sy ≤ 16384
  m1 : 1 ≤ most
  m2 : most ≤ 16384
  ok : ∀ r ∈ rs, PrOk r sy.toNat
  all : mAll rs sy.toNat most.toNat = some b
  chk : chkA rs sy = none
theorem bldF_ok {rs : List Pr} {sy most : Int} {b : Bs} (h : bldF rs sy most = .ok b) : BldV rs sy most b := by
  unfold bldF at h
  split at h
  · cases h
  · rename_i hc
    split at h
    · cases h
    · rename_i hj
      split at h
      · cases h
      · rename_i b' hm
        injection h with h
        subst h
        refine ⟨by omega, by omega, by omega, by omega, fun r hr => ?_, hm, hj⟩
        unfold chkA at hj
        rw [List.findSome?_eq_none_iff] at hj
        have q := hj r hr
        have e : (sy.toNat : Int) = sy := by omega
        rw [← e] at q
        exact Pr.ok q
theorem bldF_of {rs : List Pr} {sy most most' : Int} {b : Bs} (h : BldV rs sy most b) (h1 : 1 ≤ most') (h2 : most' ≤ 16384) : bldF rs sy most' = match mAll rs sy.toNat most'.toNat with | none => .error 2 | some b => .ok b := by
  unfold bldF
  rw [if_neg (by have := h.s1; have := h.s2; omega), h.chk]
theorem chkA_no {rs : List Pr} {sy : Int} {i : Nat} (h : chkA rs sy = some i) : i = 0 ∨ i = 2 := by
  unfold chkA at h
  obtain ⟨r, _, hr⟩ := List.exists_of_findSome?_eq_some h
  unfold Pr.chk chkP at hr
  split at hr
  · injection hr with hr; exact .inr hr.symm
  · split at hr
    · injection hr with hr; exact .inl hr.symm
    · split at hr
      · cases hr
      · injection hr with hr; exact .inl hr.symm
theorem bldF_no {rs : List Pr} {sy most : Int} {i : Nat} (h : bldF rs sy most = .error i) : i = 0 ∨ i = 2 := by
  unfold bldF at h
  split at h
  · injection h with h; exact .inl h.symm
  · split at h
    · rename_i j hj
      injection h with h
      subst h
      exact chkA_no hj
    · split at h
      · injection h with h; exact .inr h.symm
      · cases h
/-- Its numbers, as Check and Run ask them. -/
theorem BldV.val {rs : List Pr} {sy most : Int} {b : Bs} (h : BldV rs sy most b) : (∀ l ∈ b.nx, (l.length : Int) = sy ∧ ∀ x ∈ l, x < b.nx.length) ∧ b.ou.length = b.nx.length ∧ 1 ≤ b.nx.length ∧ (b.nx.length : Int) ≤ most ∧ (b.nx.length : Int) * sy ≤ 4194304 ∧ ∀ o ∈ b.ou, Ris rs.length o := by
  have h1 := h.s1
  have h2 := h.s2
  have h3 := h.m1
  obtain ⟨q1, q2⟩ := bAll_val h.all
  have q3 := q1.few
  have hl : b.nx.length ≤ min most.toNat (4194304 / sy.toNat) := by rw [q2]; exact q3
  have hm1 : b.nx.length ≤ most.toNat := Nat.le_trans hl (Nat.min_le_left _ _)
  have hm2 : b.nx.length ≤ 4194304 / sy.toNat := Nat.le_trans hl (Nat.min_le_right _ _)
  have hmul : b.nx.length * sy.toNat ≤ 4194304 := Nat.le_trans (Nat.mul_le_mul_right _ hm2) (Nat.div_mul_le_self _ _)
  refine ⟨fun l hl => ?_, ?_, by omega, by omega, ?_, mAll_ris h.ok h.all⟩
  · obtain ⟨r1, r2⟩ := q1.row l hl
    refine ⟨by omega, fun x hx => ?_⟩
    have := (r2 x hx).2
    omega
  · rw [q1.ou, q2]
  · have e : sy = (sy.toNat : Int) := by omega
    rw [e]
    have : ((b.nx.length * sy.toNat : Nat) : Int) ≤ 4194304 := by omega
    rw [Int.natCast_mul] at this
    exact this
theorem Ris.len {n : Nat} : ∀ {l : List Nat}, Ris n l → l.length ≤ n := by
  intro l h
  have : ∀ (l : List Nat) (lo : Nat), l.Pairwise (· < ·) → (∀ x ∈ l, lo ≤ x ∧ x < n) → lo ≤ n → lo + l.length ≤ n := by
    intro l
    induction l with
    | nil => intro lo _ _ h; simpa using h
    | cons y l ih =>
      intro lo hp hx hlo
      have hy := hx y List.mem_cons_self
      have := ih (y + 1) (List.pairwise_cons.1 hp).2 (fun x hx' => by
        have h1 := (List.pairwise_cons.1 hp).1 x hx'
        have h2 := hx x (List.mem_cons_of_mem _ hx')
        omega) (by omega)
      rw [List.length_cons]
      omega
  have := this l 0 h.1 (fun x hx => ⟨Nat.zero_le _, h.2 x hx⟩) (Nat.zero_le _)
  omega
theorem Ris.rise {n : Nat} {l : List Nat} (h : Ris n l) : riseF (n : Int) 0 (nI l) = true := by
  have : ∀ (l : List Nat) (lo : Nat), l.Pairwise (· < ·) → (∀ x ∈ l, lo ≤ x ∧ x < n) → riseF (n : Int) (lo : Int) (nI l) = true := by
    intro l
    induction l with
    | nil => intro lo _ _; rfl
    | cons y l ih =>
      intro lo hp hx
      have hy := hx y List.mem_cons_self
      have q := ih (y + 1) (List.pairwise_cons.1 hp).2 (fun x hx' => by
        have h1 := (List.pairwise_cons.1 hp).1 x hx'
        have h2 := hx x (List.mem_cons_of_mem _ hx')
        omega)
      have e : nI (y :: l) = (y : Int) :: nI l := rfl
      rw [e, riseF, Bool.and_eq_true, Bool.and_eq_true]
      refine ⟨⟨by simp; omega, by simp; omega⟩, ?_⟩
      have e2 : ((y + 1 : Nat) : Int) = (y : Int) + 1 := by omega
      rw [← e2]
      exact q
  exact this l 0 h.1 (fun x hx => ⟨Nat.zero_le _, h.2 x hx⟩)
end Go.Proofs.YtleeedjpccooaaaDoor
namespace Go.Proofs.YtleeedjpccooaaaDoor
open Go.RowKit Go.Shelf
set_option maxRecDepth 10000 in
set_option maxHeartbeats 800000 in
theorem isOneOf_any (n : Nat) (z : Int) (w : World) : Calls Tryd.prog 30 #[.int .i64 z, .int .i64 (n : Int)] w fun e w' => e = .returned (.bool (oneOf n z)) ∧ w' = w := by
  by_cases h : z ≥ 0
  · by_cases h2 : z < (n : Int)
    · have e : oneOf n z = true := (oneOf_iff n z).2 ⟨h, h2⟩
      rw [e]
      go_enter Tryd.func30, Tryd.ntmps30
      go_wp2
      go_ret
      exact ⟨rfl, rfl⟩
    · have e : oneOf n z = false := (oneOf_not n z).2 (fun q => h2 q.2)
      rw [e]
      go_enter Tryd.func30, Tryd.ntmps30
      go_wp2
      go_ret
      exact ⟨rfl, rfl⟩
  · have e : oneOf n z = false := (oneOf_not n z).2 (fun q => h q.1)
    rw [e]
    go_enter Tryd.func30, Tryd.ntmps30
    go_wp2
    go_ret
    exact ⟨rfl, rfl⟩
set_option maxRecDepth 10000 in
set_option maxHeartbeats 800000 in
theorem allOf_any (n : Nat) (L : List Int) (a : Option Addr) (c : Nat) (w : World) (hl : L.length ≤ 17592186043904) (ha : IA w a L) : Calls Tryd.prog 31 #[.slice a L.length c, .int .i64 (n : Int)] w fun e w' => e = .returned (.bool (L.all (oneOf n))) ∧ w' = w := by
  have HA := hid0 ha
  have HO := hid0 (fun z => isOneOf_any n z w)
  clear ha
  go_enter Tryd.func31, Tryd.ntmps31
  go_wp2
  go_loopw [9] (fun i wr => ∃ k : Nat, k ≤ L.length ∧ i = .int .i64 (k : Int) ∧ wr = w ∧ Hid ((L.drop k).all (oneOf n) = L.all (oneOf n))) (fun i _ => L.length - (intOf i).toNat)
  case atStart => exact ⟨0, Nat.zero_le _, rfl, rfl, hid0 rfl⟩
  case round =>
    obtain ⟨k, hk, rfl, rfl, HD⟩ := hrel
    by_cases hlt : k < L.length
    · obtain ⟨b, off, rfl, _, d1⟩ := HA.out.at' k hlt
      have hkI : (k : Int) < (L.length : Int) := by omega
      have hkI0 : (0 : Int) ≤ (k : Int) := by omega
      have HS := hid0 (all_drop (n := n) hlt)
      generalize L[k] = s at *
      have HOS := hid0 (HO.out s)
      cases hs : oneOf n s with
      | true =>
        rw [hs] at HOS
        have HD2 : Hid ((L.drop (k + 1)).all (oneOf n) = L.all (oneOf n)) := hid0 (by rw [← HD.out, HS.out, hs, Bool.true_and])
        clear HS HD hs
        go_wp2_with (go_at_call 30; refine HOS.out.mono ?_; rintro e w1 ⟨rfl, rfl⟩)
        go_roundw
        case rel => exact ⟨k + 1, by omega, by go_num, trivial, HD2⟩
        case measure => simp [intOf]; omega
      | false =>
        rw [hs] at HOS
        have HD2 : Hid (L.all (oneOf n) = false) := hid0 (by rw [← HD.out, HS.out, hs, Bool.false_and])
        clear HS HD hs
        go_wp2_with (go_at_call 30; refine HOS.out.mono ?_; rintro e w1 ⟨rfl, rfl⟩)
        go_ret
        exact ⟨by rw [HD2.out]; rfl, rfl⟩
    · have hkI : ¬ (k : Int) < (L.length : Int) := by omega
      have HD2 : Hid (L.all (oneOf n) = true) := hid0 (by rw [← HD.out]; exact all_end (by omega))
      clear HD
      go_wp2
      go_ret
      exact ⟨by rw [HD2.out]; rfl, rfl⟩
set_option maxRecDepth 10000 in
set_option maxHeartbeats 800000 in
theorem mrises_any (pa : Int) (L : List Int) (a : Option Addr) (c : Nat) (w : World) (hl : L.length ≤ 17592186043904) (hpa : pa ≤ 9223372036854775807) (ha : IA w a L) : Calls Tryd.prog 32 #[.slice a L.length c, .int .i64 pa] w fun e w' => e = .returned (.bool (riseF pa 0 L)) ∧ w' = w := by
  have HA := hid0 ha
  clear ha
  go_enter Tryd.func32, Tryd.ntmps32
  go_wp2
  go_loopw [5, 10] (fun l i wr => ∃ (k : Nat) (lo : Int), k ≤ L.length ∧ 0 ≤ lo ∧ i = .int .i64 (k : Int) ∧ l = .int .i64 (lo) ∧ wr = w ∧ Hid (riseF pa lo (L.drop k) = riseF pa 0 L)) (fun _ i _ => L.length - (intOf i).toNat)
  case atStart => exact ⟨0, 0, Nat.zero_le _, Int.le_refl _, rfl, rfl, rfl, hid0 rfl⟩
  case round =>
    obtain ⟨k, lo, hk, hlo, rfl, rfl, rfl, HD⟩ := hrel
    by_cases hlt : k < L.length
    · obtain ⟨b, off, rfl, _, d1⟩ := HA.out.at' k hlt
      have hkI : (k : Int) < (L.length : Int) := by omega
      have hkI0 : (0 : Int) ≤ (k : Int) := by omega
      have HS := hid0 (riseF_drop (cnt := pa) (lo := lo) hlt)
      generalize L[k] = s at *
      by_cases h1 : s < lo
      · have HD2 : Hid (riseF pa 0 L = false) := hid0 (by rw [← HD.out, HS.out, decide_eq_false (by omega)]; rfl)
        clear HS HD
        go_wp2
        go_ret
        exact ⟨by rw [HD2.out]; rfl, rfl⟩
      · by_cases h2 : s ≥ pa
        · have HD2 : Hid (riseF pa 0 L = false) := hid0 (by rw [← HD.out, HS.out, decide_eq_false (p := s < pa) (by omega), Bool.and_false]; rfl)
          clear HS HD
          go_wp2
          go_ret
          exact ⟨by rw [HD2.out]; rfl, rfl⟩
        · have HD2 : Hid (riseF pa (s + 1) (L.drop (k + 1)) = riseF pa 0 L) := hid0 (by rw [← HD.out, HS.out, decide_eq_true (p := s < pa) (by omega), decide_eq_true (p := lo ≤ s) (by omega)]; rfl)
          clear HS HD
          go_wp2
          go_roundw
          case rel => exact ⟨k + 1, s + 1, by omega, by omega, by go_num, by go_num, trivial, HD2⟩
          case measure => simp [intOf]; omega
    · have hkI : ¬ (k : Int) < (L.length : Int) := by omega
      have HD2 : Hid (riseF pa 0 L = true) := hid0 (by rw [← HD.out]; exact riseF_end (by omega))
      clear HD
      go_wp2
      go_ret
      exact ⟨by rw [HD2.out]; rfl, rfl⟩
end Go.Proofs.YtleeedjpccooaaaDoor
namespace Go.Proofs.YtleeedjpccooaaaDoor
open Go.RowKit Go.Shelf
/-- A refusal, or none. -/
def errC (A : Nat → Addr) (b : Bool) : Value := if b then .nilIface else .iface 157 (.pointer (some (A 0)))
theorem getD_at {L : List (List Int)} {k : Nat} (h : k < L.length) : L.getD k [] = L[k] := by rw [List.getD_eq_getElem?_getD, List.getElem?_eq_getElem h]; rfl
theorem mul_small {n : Nat} {sy : Int} (h1 : n ≤ 16384) (h2 : 0 ≤ sy) (h3 : sy ≤ 16384) : 0 ≤ (n : Int) * sy ∧ (n : Int) * sy ≤ 268435456 := by
  refine ⟨Int.mul_nonneg (by omega) h2, ?_⟩
  calc (n : Int) * sy ≤ 16384 * 16384 := Int.mul_le_mul (by omega) h3 h2 (by omega)
    _ = 268435456 := by decide
set_option maxRecDepth 10000 in
set_option maxHeartbeats 1600000 in
theorem mcheck_two (A : Nat → Addr) (st sy pa : Int) (N O : List (List Int)) (aN aO : Option Addr) (cN cO : Nat) (w : World) (hN : N.length ≤ 17592186043904) (hNr : ∀ r ∈ N, r.length ≤ 17592186043904) (hOr : ∀ r ∈ O, r.length ≤ 17592186043904) (hpa : pa ≤ 9223372036854775807) (ha : RwA w aN N) (hb : RwA w aO O) (he : Sen2 w A) :
    Calls Tryd.prog 10 #[.agg #[.int .i64 st, .slice aN N.length cN, .slice aO O.length cO], .int .i64 sy, .int .i64 pa] w fun e w' => e = .returned (errC A (chkF st N O sy pa)) ∧ Below w.heap.size w w' := by
  obtain ⟨w0, hw0⟩ : ∃ w0, w0 = w.alloc (.cells #[.int .i64 st, .slice aN N.length cN, .slice aO O.length cO] 28) := ⟨_, rfl⟩
  have hB0 : Below w.heap.size w w0 := by rw [hw0]; exact (Below.refl _ _).alloc (Nat.le_refl _) _
  have hX0 : w0.heap[w.heap.size]? = some (.cells #[.int .i64 st, .slice aN N.length cN, .slice aO O.length cO] 28 (0, 0)) := by rw [hw0]; exact heap_alloc_new w _
  have HB0 := hid0 hB0
  have HA := hid0 (ha.past hB0)
  have HB := hid0 (hb.past hB0)
  have x0 : w0.cell? ⟨w.heap.size, 0, none⟩ = some (.int .i64 st) := by rw [cell_of_row _ _ _ _ _ _ hX0]; rfl
  have x1 : w0.cell? ⟨w.heap.size, 1, none⟩ = some (.slice aN N.length cN) := by rw [cell_of_row _ _ _ _ _ _ hX0]; rfl
  have x2 : w0.cell? ⟨w.heap.size, 2, none⟩ = some (.slice aO O.length cO) := by rw [cell_of_row _ _ _ _ _ _ hX0]; rfl
  have e0 := (he.below hB0).c0
  have HNr := hid0 hNr
  have HOr := hid0 hOr
  clear ha hb he hB0 hX0 hNr hOr
  have hfold := hw0.symm
  clear hw0
  by_cases h0 : sy < 1
  case pos =>
    have HV : Hid (chkF st N O sy pa = false) := hid0 (by unfold chkF; rw [decide_eq_false (by omega)]; rfl)
    go_enter Tryd.func10, Tryd.ntmps10
    go_wp2
    go_ret
    exact ⟨by rw [HV.out]; rfl, HB0.out⟩
  by_cases h1 : sy > 16384
  case pos =>
    have HV : Hid (chkF st N O sy pa = false) := hid0 (by unfold chkF; rw [decide_eq_false (by omega)]; rfl)
    go_enter Tryd.func10, Tryd.ntmps10
    go_wp2
    go_ret
    exact ⟨by rw [HV.out]; rfl, HB0.out⟩
  by_cases h2 : pa < 0
  case pos =>
    have HV : Hid (chkF st N O sy pa = false) := hid0 (by unfold chkF; rw [decide_eq_false (by omega)]; rfl)
    go_enter Tryd.func10, Tryd.ntmps10
    go_wp2
    go_ret
    exact ⟨by rw [HV.out]; rfl, HB0.out⟩
  by_cases h3 : (N.length : Int) < 1
  case pos =>
    have HV : Hid (chkF st N O sy pa = false) := hid0 (by unfold chkF; rw [decide_eq_false (by omega)]; rfl)
    go_enter Tryd.func10, Tryd.ntmps10
    go_wp2
    go_ret
    exact ⟨by rw [HV.out]; rfl, HB0.out⟩
  by_cases h4 : (N.length : Int) > 16384
  case pos =>
    have HV : Hid (chkF st N O sy pa = false) := hid0 (by unfold chkF; rw [decide_eq_false (by omega)]; rfl)
    go_enter Tryd.func10, Tryd.ntmps10
    go_wp2
    go_ret
    exact ⟨by rw [HV.out]; rfl, HB0.out⟩
  by_cases h5 : (O.length : Int) = (N.length : Int)
  case neg =>
    have HV : Hid (chkF st N O sy pa = false) := hid0 (by unfold chkF; rw [decide_eq_false (by omega)]; rfl)
    go_enter Tryd.func10, Tryd.ntmps10
    go_wp2
    go_ret
    exact ⟨by rw [HV.out]; rfl, HB0.out⟩
  obtain ⟨m0, m1⟩ := mul_small (n := N.length) (sy := sy) (by omega) (by omega) (by omega)
  obtain ⟨q, hq⟩ : ∃ q, q = (N.length : Int) * sy := ⟨_, rfl⟩
  rw [← hq] at m0 m1
  by_cases h6 : q > 4194304
  case pos =>
    have HV : Hid (chkF st N O sy pa = false) := hid0 (by unfold chkF; rw [decide_eq_false (by omega)]; rfl)
    have hq' := hq.symm
    clear hq
    go_enter Tryd.func10, Tryd.ntmps10
    go_wp2
    go_ret
    exact ⟨by rw [HV.out]; rfl, HB0.out⟩
  have HC : Hid (chkF st N O sy pa = (oneOf N.length st && (List.range N.length).all fun j => rowF N.length sy pa (N.getD j []) (O.getD j []))) := hid0 (by unfold chkF; rw [decide_eq_true (by omega), Bool.true_and])
  have hq' := hq.symm
  clear hq
  have HON := hid0 (isOneOf_any N.length st w0)
  cases h7 : oneOf N.length st with
  | false =>
    rw [h7] at HON
    have HV : Hid (chkF st N O sy pa = false) := hid0 (by rw [HC.out, h7]; rfl)
    clear HC h7
    go_enter Tryd.func10, Tryd.ntmps10
    go_wp2_with (go_at_call 30; refine HON.out.mono ?_; rintro e w1 ⟨rfl, hw1⟩; have hw1' := hw1.symm; subst hw1'; clear hw1)
    go_ret
    exact ⟨by rw [HV.out]; rfl, HB0.out⟩
  | true =>
    rw [h7] at HON
    rw [h7, Bool.true_and] at HC
    clear h7
    go_enter Tryd.func10, Tryd.ntmps10
    go_wp2_with (go_at_call 30; refine HON.out.mono ?_; rintro e w1 ⟨rfl, hw1⟩; have hw1' := hw1.symm; subst hw1'; clear hw1)
    go_loopw [50] (fun i wr => ∃ k : Nat, k ≤ N.length ∧ i = .int .i64 (k : Int) ∧ wr = w0 ∧ Hid ((List.range k).all (fun j => rowF N.length sy pa (N.getD j []) (O.getD j [])) = true)) (fun i _ => N.length - (intOf i).toNat)
    case atStart => exact ⟨0, Nat.zero_le _, rfl, rfl, hid0 rfl⟩
    case round =>
      obtain ⟨k, hk, rfl, hwr, HD⟩ := hrel
      subst hwr
      by_cases hlt : k < N.length
      · have hlo : k < O.length := by omega
        obtain ⟨b, off, rfl, _, a1, c1, d1, i1⟩ := HA.out.at' k hlt
        obtain ⟨b2, off2, rfl, _, a2, c2, d2, i2⟩ := HB.out.at' k hlo
        have HAll := hid0 (allOf_any N.length N[k] a1 c1 wr (HNr.out _ (List.getElem_mem hlt)) i1)
        have HRis := hid0 (mrises_any pa O[k] a2 c2 wr (HOr.out _ (List.getElem_mem hlo)) hpa i2)
        have HRow : Hid (rowF N.length sy pa (N.getD k []) (O.getD k []) = (decide ((N[k].length : Int) = sy) && N[k].all (oneOf N.length) && riseF pa 0 O[k])) := hid0 (by rw [getD_at hlt, getD_at hlo]; rfl)
        have hkI : (k : Int) < (N.length : Int) := by omega
        have hkI0 : (0 : Int) ≤ (k : Int) := by omega
        have hkO : (k : Int) < (O.length : Int) := by omega
        clear i1 i2
        generalize N[k] = r at *
        generalize O[k] = o at *
        by_cases g1 : (r.length : Int) = sy
        case neg =>
          have HV : Hid (chkF st N O sy pa = false) := hid0 (by rw [HC.out]; exact range_bad hlt (by rw [HRow.out, decide_eq_false g1]; rfl))
          clear HC HD HRow
          go_wp2
          go_ret
          exact ⟨by rw [HV.out]; rfl, HB0.out⟩
        cases g2 : r.all (oneOf N.length) with
        | false =>
          rw [g2] at HAll
          have HV : Hid (chkF st N O sy pa = false) := hid0 (by rw [HC.out]; exact range_bad hlt (by rw [HRow.out, g2, Bool.and_false]; rfl))
          clear HC HD HRow g2
          go_wp2_with (go_at_call 31; refine HAll.out.mono ?_; rintro e w1 ⟨rfl, hw1⟩; have hw1' := hw1.symm; subst hw1'; clear hw1)
          go_ret
          exact ⟨by rw [HV.out]; rfl, HB0.out⟩
        | true =>
          rw [g2] at HAll
          cases g3 : riseF pa 0 o with
          | false =>
            rw [g3] at HRis
            have HV : Hid (chkF st N O sy pa = false) := hid0 (by rw [HC.out]; exact range_bad hlt (by rw [HRow.out, g3, Bool.and_false]))
            clear HC HD HRow g2 g3
            go_wp2_with (first
              | (go_at_call 31; refine HAll.out.mono ?_; rintro e w1 ⟨rfl, hw1⟩; have hw1' := hw1.symm; subst hw1'; clear hw1)
              | (go_at_call 32; refine HRis.out.mono ?_; rintro e w1 ⟨rfl, hw1⟩; have hw1' := hw1.symm; subst hw1'; clear hw1))
            go_ret
            exact ⟨by rw [HV.out]; rfl, HB0.out⟩
          | true =>
            rw [g3] at HRis
            have HD2 : Hid ((List.range (k + 1)).all (fun j => rowF N.length sy pa (N.getD j []) (O.getD j [])) = true) := hid0 (range_snoc HD.out (by rw [HRow.out, g2, g3, decide_eq_true g1]; rfl))
            clear HD HRow g2 g3
            go_wp2_with (first
              | (go_at_call 31; refine HAll.out.mono ?_; rintro e w1 ⟨rfl, hw1⟩; have hw1' := hw1.symm; subst hw1'; clear hw1)
              | (go_at_call 32; refine HRis.out.mono ?_; rintro e w1 ⟨rfl, hw1⟩; have hw1' := hw1.symm; subst hw1'; clear hw1))
            go_roundw
            case rel => exact ⟨k + 1, by omega, by go_num, trivial, HD2⟩
            case measure => simp [intOf]; omega
      · have hkI : ¬ (k : Int) < (N.length : Int) := by omega
        have hkn : k = N.length := by omega
        have HV : Hid (chkF st N O sy pa = true) := hid0 (by rw [HC.out]; have h := HD.out; rw [hkn] at h; exact h)
        clear HC HD hkn
        go_wp2
        go_ret
        exact ⟨by rw [HV.out]; rfl, HB0.out⟩
end Go.Proofs.YtleeedjpccooaaaDoor
namespace Go.Proofs.YtleeedjpccooaaaDoor
open Go.RowKit Go.Shelf
theorem wpList_make_one {ops : Array Oper} {rest : List Oper} {o : Oper} {a : Act} {w : World} {Q : Exit → Act → World → Prop} (hg : o.guard = none) (l c : Operand) (hop : o.op = Op.makeSlice 34 l c)
    (base : Nat) (C : Int) (n : Nat) (hl : a.eval l = .int .i64 1) (hc : a.eval c = .int .i64 C) (hC : C = (n : Int)) (h1 : 1 ≤ n) (hn : n ≤ 17592186044416) (hb : base ≤ w.heap.size)
    (hK : ∀ w', OwnI w' base (.slice (some ⟨w.heap.size, 0, none⟩) 1 n) [0] → w.grownBy w' none → wpList Tryd.prog ops Q rest (a.put o.dst (.slice (some ⟨w.heap.size, 0, none⟩) 1 n)) w') :
    wpList Tryd.prog ops Q (o :: rest) a w := by
  obtain ⟨i, hi, hz0, hz1, hz2⟩ := info_parts infoInt
  refine wpList_plain hg fun K hK' => ?_
  subst hC
  have hr := run_make (P := Tryd.prog) w 34 3 i (.int .i64 0) Tryd.underlying34 hi hz0 .i64 .i64 1 n (by omega) (by omega) (by rw [hz2]; omega) (by omega)
  have e1 : (1 : Int).toNat = 1 := rfl
  have e2 : ((n : Int)).toNat = n := Int.toNat_natCast n
  simp only [e1, e2, hz1] at hr
  unfold Oper.wp
  simp [execOp, hop, hl, hc, hr, Result.andThen]
  refine hK' _ _ (hK _ ?_ (World.grownBy_alloc w _ none))
  refine ⟨rfl, .inr ⟨w.heap.size, n, _, rfl, hb, heap_alloc_new w _, h1, by unfold maxLen; omega, ?_, ?_⟩⟩
  · first | exact size_madeCells _ _ | (rw [size_madeCells]; simp)
  · obtain ⟨m, rfl⟩ : ∃ m, n = m + 1 := ⟨n - 1, by omega⟩
    simp only [madeCells, Value.cells, Array.toList_map, Array.toList_range, List.range_succ_eq_map]
    simp
theorem oneOf_call {n : Nat} {z : Int} {b : Bool} (h : oneOf n z = b) (w : World) : Calls Tryd.prog 30 #[.int .i64 z, .int .i64 (n : Int)] w fun e w' => e = .returned (.bool b) ∧ w' = w := by subst h; exact isOneOf_any n z w
theorem stepF_none1 {N : List (List Int)} {s : Nat} {z : Int} (h : ¬ (0 ≤ z ∧ z < ((N.getD s []).length : Int))) : stepF N s z = none := by unfold stepF; rw [if_neg h]
theorem stepF_at {N : List (List Int)} {s k : Nat} (hk : k < (N.getD s []).length) : stepF N s (k : Int) = if oneOf N.length (N.getD s [])[k] then some ((N.getD s [])[k]).toNat else none := by
  unfold stepF
  rw [if_pos (by omega), Int.toNat_natCast, List.getD_eq_getElem?_getD (l := N.getD s []), List.getElem?_eq_getElem hk]
  rfl
set_option maxRecDepth 10000 in
set_option maxHeartbeats 1600000 in
theorem mrun_two (A : Nat → Addr) (st : Int) (N : List (List Int)) (l : List Int) (aN aO aw : Option Addr) (cN nO cO cw : Nat) (w : World) (hNr : ∀ r ∈ N, r.length ≤ 17592186043904) (hl : l.length ≤ 17592186043904) (ha : RwA w aN N) (hb : IA w aw l) (he : Sen2 w A) :
    Calls Tryd.prog 13 #[.agg #[.int .i64 st, .slice aN N.length cN, .slice aO nO cO], .slice aw l.length cw] w fun e w' => ∃ v, e = .returned (.tuple #[v, errC A (runF N st l).isSome]) ∧ OwnI w' w.heap.size v ((runF N st l).getD []) ∧ Below w.heap.size w w' := by
  obtain ⟨w0, hw0⟩ : ∃ w0, w0 = w.alloc (.cells #[.int .i64 st, .slice aN N.length cN, .slice aO nO cO] 28) := ⟨_, rfl⟩
  have hB0 : Below w.heap.size w w0 := by rw [hw0]; exact (Below.refl _ _).alloc (Nat.le_refl _) _
  have hX0 : w0.heap[w.heap.size]? = some (.cells #[.int .i64 st, .slice aN N.length cN, .slice aO nO cO] 28 (0, 0)) := by rw [hw0]; exact heap_alloc_new w _
  have hs0 : w0.heap.size = w.heap.size + 1 := by rw [hw0]; simp
  have HB0 := hid0 hB0
  have HS0 := hid0 hs0
  have HA := hid0 (ha.past hB0)
  have HI := hid0 (hb.past hB0)
  have HE := hid0 (he.below hB0)
  have x0 : w0.cell? ⟨w.heap.size, 0, none⟩ = some (.int .i64 st) := by rw [cell_of_row _ _ _ _ _ _ hX0]; rfl
  have x1 : w0.cell? ⟨w.heap.size, 1, none⟩ = some (.slice aN N.length cN) := by rw [cell_of_row _ _ _ _ _ _ hX0]; rfl
  have HX1 := hid0 x1
  have e0 := HE.out.c0
  have HNr := hid0 hNr
  clear ha hb he hB0 hX0 hNr hs0
  have hfold := hw0.symm
  clear hw0
  have HON := hid0 (fun W => isOneOf_any N.length st W)
  cases h7 : oneOf N.length st with
  | false =>
    rw [h7] at HON
    have HV : Hid (runF N st l = none) := hid0 (by unfold runF; rw [h7]; rfl)
    clear h7
    go_enter Tryd.func13, Tryd.ntmps13
    go_wp2_with (go_at_call 30; refine (HON.out _).mono ?_; rintro e w1 ⟨rfl, hw1⟩; have hw1' := hw1.symm; subst hw1'; clear hw1)
    go_quiet ((fail))
    go_wp2
    go_returns
    refine ⟨.slice none 0 0, ?_, ?_, ?_⟩
    · rw [HV.out]; rfl
    · rw [HV.out]; exact World.ownsRow_nil _ _ _ _
    · exact below_drew' HB0.out _
  | true =>
    rw [h7] at HON
    obtain ⟨s0, hs0⟩ : ∃ s0 : Nat, st = (s0 : Int) := ⟨st.toNat, by have := (oneOf_iff _ _).1 h7; omega⟩
    subst hs0
    have hs0 : s0 < N.length := by have := (oneOf_iff _ _).1 h7; omega
    have HR0 : Hid (goF N [(s0 : Int)] s0 (l.drop 0) = runF N (s0 : Int) l) := hid0 (by unfold runF; rw [h7]; rfl)
    clear h7
    go_enter Tryd.func13, Tryd.ntmps13
    go_wp2_with (first
      | (go_at_call 30; refine (HON.out _).mono ?_; rintro e w1 ⟨rfl, hw1⟩; have hw1' := hw1.symm; subst hw1'; clear hw1)
      | (at_make; refine wpList_make_one rfl _ _ rfl w0.heap.size _ (l.length + 1) rfl rfl (by go_num) (by omega) (by omega) (Nat.le_refl _) ?_; intro w1 hown1 hgrow1; have HO1 := hid0 hown1; have HG1 := hid0 hgrow1; have f1 : w1.frozen? ⟨w0.heap.size, 0, none⟩ = false := World.ownsRow.frozenAt hown1 0; have c1 : w1.cell? ⟨w0.heap.size, 0, none⟩ = some (.int .i64 0) := (World.ownsRow.cellAt hown1 0 (by decide)).trans rfl; clear hown1 hgrow1)
      | fail)
    have HO2 : Hid (OwnI (w1.setCell ⟨w0.heap.size, 0, none⟩ (.int .i64 (s0 : Int))) w0.heap.size (.slice (some ⟨w0.heap.size, 0, none⟩) 1 (l.length + 1)) [(s0 : Int)]) := hid0 (by have h := (World.ownsRow.stored HO1.out 0 (.int .i64 (s0 : Int))).1; exact h)
    have HB2 : Hid (Below w0.heap.size w0 (w1.setCell ⟨w0.heap.size, 0, none⟩ (.int .i64 (s0 : Int)))) := hid0 (((Below.refl _ w0).grown HG1.out (Nat.le_refl _) (fun k hk => by cases hk)).setCell (p := ⟨w0.heap.size, 0, none⟩) (Nat.le_refl _) _)
    clear HO1 HG1
    go_loopw [6, 7, 29] (fun s v i wr => ∃ (k q : Nat) (acc : List Int), k ≤ l.length ∧ q < N.length ∧ s = .int .i64 (q : Int) ∧ i = .int .i64 (k : Int) ∧ Hid (OwnI wr w0.heap.size v acc) ∧ Hid (acc.length = k + 1) ∧ Hid (goF N acc q (l.drop k) = runF N (s0 : Int) l) ∧ Hid (Below w0.heap.size w0 wr)) (fun _ _ i _ => l.length - (intOf i).toNat)
    case atStart => exact ⟨0, s0, [(s0 : Int)], Nat.zero_le _, hs0, rfl, rfl, HO2, hid0 rfl, HR0, HB2⟩
    case round =>
      clear HO2 HB2 HR0 e0 f1 c1 x0 x1 HON
      obtain ⟨k, q, acc, hk, hq, rfl, rfl, HO, HL, HG, HB⟩ := hrel
      have x1 : wr.cell? ⟨w.heap.size, 1, none⟩ = some (.slice aN N.length cN) := (HB.out.cell (p := ⟨w.heap.size, 1, none⟩) (by have := HS0.out; show w.heap.size < w0.heap.size; omega)).trans HX1.out
      have e0 := (HE.out.below HB.out).c0
      by_cases hlt : k < l.length
      · obtain ⟨b, off, rfl, _, d1⟩ := (HI.out.past HB.out).at' k hlt
        obtain ⟨b2, off2, rfl, _, a2, c2, d2, i2⟩ := (HA.out.past HB.out).at' q hq
        have HI2 := hid0 i2
        clear i2
        have hkI : (k : Int) < (l.length : Int) := by omega
        have hkI0 : (0 : Int) ≤ (k : Int) := by omega
        have hqI : (q : Int) < (N.length : Int) := by omega
        have hqI0 : (0 : Int) ≤ (q : Int) := by omega
        have HGD := hid0 (goF_drop (N := N) (acc := acc) (s := q) hlt)
        have hgd := getD_at hq
        have hrl := HNr.out _ (List.getElem_mem hq)
        generalize l[k] = z at *
        by_cases g1 : 0 ≤ z ∧ z < (N[q].length : Int)
        case neg =>
          have HV : Hid (runF N (s0 : Int) l = none) := hid0 (by rw [← HG.out, HGD.out, stepF_none1 (by rw [hgd]; exact g1)])
          have HZ := hid0 ((oneOf_not _ _).2 g1)
          clear HG HGD HO HI2 hgd
          generalize N[q] = r at *
          go_wp2
          go_quiet ((go_at_call 30; exact (oneOf_call HZ.out _).mono (fun _ _ h => ⟨h.1, _, h.2⟩)))
          go_wp2
          go_quiet ((fail))
          go_wp2
          go_returns
          refine ⟨.slice none 0 0, ?_, ?_, ?_⟩
          · rw [HV.out]; rfl
          · rw [HV.out]; exact World.ownsRow_nil _ _ _ _
          · exact Below.later HB0.out (below_drew' (below_drew' HB.out _) _)
        obtain ⟨j, rfl⟩ : ∃ j : Nat, z = (j : Int) := ⟨z.toNat, by omega⟩
        have hj : j < N[q].length := by omega
        have HZ := hid0 ((oneOf_iff _ _).2 g1)
        have HST := hid0 (stepF_at (N := N) (s := q) (k := j) (by rw [hgd]; exact hj))
        have hgj : (N.getD q [])[j]'(by rw [hgd]; exact hj) = N[q][j] := by simp only [hgd]
        rw [hgj] at HST
        clear hgj hgd
        generalize N[q] = r at *
        obtain ⟨b3, off3, rfl, _, d3⟩ := HI2.out.at' j hj
        have hjI : (j : Int) < (r.length : Int) := by omega
        have hjI0 : (0 : Int) ≤ (j : Int) := by omega
        generalize r[j] = t at *
        cases g2 : oneOf N.length t with
        | false =>
          have HT := hid0 g2
          rw [g2] at HST
          have HV : Hid (runF N (s0 : Int) l = none) := hid0 (by rw [← HG.out, HGD.out, HST.out]; rfl)
          clear HG HGD HO HI2 HST g2
          go_wp2
          go_quiet ((go_at_call 30; first | exact (oneOf_call (by first | exact HT.out | exact HZ.out) _).mono (fun _ _ h => ⟨h.1, _, h.2⟩)))
          go_wp2
          go_quiet ((fail))
          go_wp2
          go_returns
          refine ⟨.slice none 0 0, ?_, ?_, ?_⟩
          · rw [HV.out]; rfl
          · rw [HV.out]; exact World.ownsRow_nil _ _ _ _
          · exact Below.later HB0.out (below_drew' (below_drew' HB.out _) _)
        | true =>
          have HT := hid0 g2
          rw [g2] at HST
          have ht := (oneOf_iff _ _).1 g2
          obtain ⟨p, rfl⟩ : ∃ p : Nat, t = (p : Int) := ⟨t.toNat, by omega⟩
          have hp : p < N.length := by omega
          have HG2 : Hid (goF N (acc ++ [(p : Int)]) p (l.drop (k + 1)) = runF N (s0 : Int) l) := hid0 (by rw [← HG.out, HGD.out, HST.out]; rfl)
          have HO' : Hid (wr.ownsRow w0.heap.size 3 1 u7 (k + 1) (acc.map (Value.int .i64))) := hid0 (by have h := HO.out; unfold OwnI at h; rw [HL.out] at h; exact h)
          clear HG HGD HST g2 ht HI2
          obtain ⟨i0, hi, hz0, hz1, hz2⟩ := info_parts infoInt
          go_wp2
          go_quiet ((go_at_call 30; first | exact (oneOf_call (by first | exact HT.out | exact HZ.out) _).mono (fun _ _ h => ⟨h.1, _, h.2⟩)))
          have hsz := HB.out.size
          go_wp2_with (at_builtin; refine wpList_append_own _ rfl _ _ 34 rfl w0.heap.size 3 i0 (.int .i64 0) 1 8 Tryd.underlying34 hi hz0 hz1 hz2 rfl (by decide) _ (k + 1) (acc.map (Value.int .i64)) rfl (World.ownsRow.alloc (show World.ownsRow (World.drewN wr _) _ _ _ _ _ _ from HO'.out) _) ⟨wr.heap.size, 0, none⟩ 1 1 [.int .i64 (p : Int)] rfl rfl (cell_one_new _ _ _) (by simp [Value.oneCell']) (by unfold maxLen; omega) (by omega) (by simp; omega) ?_; intro v2 w4 hown' hgrow _; have HH := hid0 (ownI_snoc (w := w0) (base := w0.heap.size) (L := acc) (c := (p : Int)) (n := k + 1) HL.out.symm (show OwnI (World.drewN wr _) _ _ _ from HO.out) hown' hgrow (below_drew' HB.out _) (Nat.le_refl _)); clear hown' hgrow)
          have HO4 := hid0 HH.out.1
          have HB4 := hid0 HH.out.2
          have HL4 : Hid ((acc ++ [(p : Int)]).length = k + 1 + 1) := hid0 (by rw [List.length_append, HL.out]; rfl)
          clear HH HO HO' HB HL
          go_roundw
          case rel => exact ⟨k + 1, p, _, by omega, hp, rfl, by go_num, HO4, HL4, HG2, HB4⟩
          case measure => simp [intOf]; omega
      · have hkI : ¬ (k : Int) < (l.length : Int) := by omega
        have HV : Hid (runF N (s0 : Int) l = some acc) := hid0 (by rw [← HG.out, List.drop_of_length_le (by omega), goF])
        clear HG
        go_wp2
        go_returns
        refine ⟨u7, ?_, ?_, ?_⟩
        · rw [HV.out]; rfl
        · rw [HV.out]; exact owns_lower HO.out (by have := HS0.out; omega)
        · exact Below.later HB0.out HB.out
end Go.Proofs.YtleeedjpccooaaaDoor
namespace Go.Proofs.YtleeedjpccooaaaDoor
open Go.RowKit Go.Shelf
theorem drew_more {w w' : World} {a b : Nat} (h : ∃ m, w' = (w.drewN (a + b)).drewN m) : ∃ n, w' = w.drewN (a + n) := by
  obtain ⟨m, hm⟩ := h
  exact ⟨b + m, by rw [hm, World.drewN_drewN, Nat.add_assoc]⟩
set_option maxRecDepth 10000 in
set_option maxHeartbeats 1600000 in
theorem sameRows (L : List (List Int)) (a b : Option Addr) (ca cb : Nat) (w : World) (hl : L.length ≤ 1000000000) (hr : ∀ r ∈ L, r.length ≤ 1000000000) (ha : RwA w a L) (hb : RwA w b L) :
    Calls Tryd.prog 33 #[.slice a L.length ca, .slice b L.length cb] w fun e w' => e = .returned (.bool true) ∧ ∃ n, w' = w.drewN n := by
  have HA := hid0 ha
  have HB := hid0 hb
  have HR := hid0 hr
  clear ha hb hr
  go_enter Tryd.func33, Tryd.ntmps33
  go_wp2
  go_loopw [5] (fun i wr => ∃ k : Nat, k ≤ L.length ∧ i = .int .i64 (k : Int) ∧ ∃ n, wr = w.drewN n) (fun i _ => L.length - (intOf i).toNat)
  case atStart => exact ⟨0, Nat.zero_le _, rfl, 0, rfl⟩
  case round =>
    obtain ⟨k, hk, rfl, nd, rfl⟩ := hrel
    by_cases hlt : k < L.length
    · obtain ⟨b1, o1, rfl, _, a1, c1, d1, i1⟩ := HA.out.at' k hlt
      obtain ⟨b2, o2, rfl, _, a2, c2, d2, i2⟩ := HB.out.at' k hlt
      have HS := hid0 (fun n => sameI L[k] a1 a2 c1 c2 (w.drewN n) (by have := HR.out _ (List.getElem_mem hlt); omega) ⟨i1.at'⟩ ⟨i2.at'⟩)
      clear i1 i2
      generalize L[k] = s at *
      have hkI : (k : Int) < (L.length : Int) := by omega
      have hkI0 : (0 : Int) ≤ (k : Int) := by omega
      go_wp2
      go_quiet ((go_at_call 14; exact (HS.out _).mono (fun _ _ h => ⟨h.1, drew_more h.2⟩)))
      go_wp2
      go_roundw
      case rel => exact ⟨k + 1, by omega, by go_num, _, rfl⟩
      case measure => simp [intOf]; omega
    · have hkI : ¬ (k : Int) < (L.length : Int) := by omega
      go_wp2
      go_ret
      exact ⟨rfl, nd, rfl⟩
theorem two_boxes (w : World) (a b : Array Value) (t : TypeId) : ∃ w0, (w.alloc (.cells a t)).alloc (.cells b t) = w0 ∧ Below w.heap.size w w0 ∧ w0.heap.size = w.heap.size + 1 + 1 ∧ w0.heap[w.heap.size]? = some (.cells a t (0, 0)) ∧ w0.heap[w.heap.size + 1]? = some (.cells b t (0, 0)) := by
  refine ⟨_, rfl, ((Below.refl _ _).alloc (Nat.le_refl _) _).alloc (by simp) _, by simp, ?_, ?_⟩
  · rw [Below.heap_alloc _ _ _ (by simp)]
    exact heap_alloc_new w _
  · have h := heap_alloc_new (w.alloc (.cells a t)) (.cells b t)
    simpa using h
theorem row3c {W : World} {X : Nat} {t : TypeId} {a b c : Value} (h : W.heap[X]? = some (.cells #[a, b, c] t (0, 0))) : W.cell? ⟨X, 0, none⟩ = some a ∧ W.cell? ⟨X, 1, none⟩ = some b ∧ W.cell? ⟨X, 2, none⟩ = some c :=
  ⟨by rw [cell_of_row _ _ _ _ _ _ h]; rfl, by rw [cell_of_row _ _ _ _ _ _ h]; rfl, by rw [cell_of_row _ _ _ _ _ _ h]; rfl⟩
set_option maxRecDepth 10000 in
set_option maxHeartbeats 1600000 in
theorem sameMachine (st : Int) (N O : List (List Int)) (aN aO aM aP : Option Addr) (cN cO cM cP : Nat) (w : World) (hn : N.length ≤ 1000000000) (hnr : ∀ r ∈ N, r.length ≤ 1000000000) (ho : O.length ≤ 1000000000) (hor : ∀ r ∈ O, r.length ≤ 1000000000) (h1 : RwA w aN N) (h2 : RwA w aO O) (h3 : RwA w aM N) (h4 : RwA w aP O) :
    Calls Tryd.prog 11 #[.agg #[.int .i64 st, .slice aN N.length cN, .slice aO O.length cO], .agg #[.int .i64 st, .slice aM N.length cM, .slice aP O.length cP]] w fun e w' => e = .returned (.bool true) ∧ Below w.heap.size w w' := by
  obtain ⟨w0, hw0, hB0, hsz0, hA0, hM0⟩ := two_boxes w #[.int .i64 st, .slice aN N.length cN, .slice aO O.length cO] #[.int .i64 st, .slice aM N.length cM, .slice aP O.length cP] 28
  obtain ⟨x0, x1, x2⟩ := row3c hA0
  obtain ⟨y0, y1, y2⟩ := row3c hM0
  have HS1 := hid0 (sameRows N aN aM cN cM w0 hn hnr (h1.past hB0) (h3.past hB0))
  have HS2 : Hid (∀ n, Calls Tryd.prog 33 #[.slice aO O.length cO, .slice aP O.length cP] (w0.drewN n) fun e w' => e = .returned (.bool true) ∧ ∃ m, w' = (w0.drewN n).drewN m) := hid0 (fun n => sameRows O aO aP cO cP (w0.drewN n) ho hor ((h2.past hB0).past (below_drew' (Below.refl _ _) n)) ((h4.past hB0).past (below_drew' (Below.refl _ _) n)))
  have HB0 := hid0 hB0
  have hself : (st == st) = true := by simp
  clear hB0 hA0 hM0 h1 h2 h3 h4 hsz0
  go_enter Tryd.func11, Tryd.ntmps11
  go_wp2_with (first
    | (go_at_call 33; have hq := HQ.out; refine (HS2.out n1).mono ?_; rintro e w2 ⟨rfl, n2, hw2⟩; rw [World.drewN_drewN] at hw2; subst hw2; clear hq)
    | (go_at_call 33; refine HS1.out.mono ?_; rintro e w1 ⟨rfl, n1, hw1⟩; subst hw1; have HQ : Hid True := hid0 trivial; clear HS1))
  go_ret
  exact ⟨rfl, below_drew' HB0.out _⟩
end Go.Proofs.YtleeedjpccooaaaDoor
namespace Go.Proofs.YtleeedjpccooaaaDoor
open Go.RowKit Go.Shelf
theorem below_alloc1 (w : World) (o : Obj) : Below w.heap.size w (w.alloc o) := (Below.refl _ _).alloc (Nat.le_refl _) _
theorem ia_blk {W : World} {g : Nat} {t : TypeId} {L : List Int} (h : W.heap[g]? = some (.cells (L.map (Value.int .i64)).toArray t (0, 0))) : IA W (some ⟨g, 0, none⟩) L := ⟨fun k hk => ⟨g, 0, rfl, (Array.getElem?_eq_some_iff.1 h).1, by
  rw [Nat.zero_add, cell_of_row _ _ _ _ _ _ h]
  simp [hk]⟩⟩
theorem rwa_one {W : World} {g c : Nat} {a : Option Addr} {l : List Int} (h : W.heap[g]? = some (.cells #[.slice a l.length c] 34 (0, 0))) (hi : IA W a l) : RwA W (some ⟨g, 0, none⟩) [l] := ⟨fun k hk => by
  have : k = 0 := by simpa using hk
  subst this
  exact ⟨g, 0, rfl, (Array.getElem?_eq_some_iff.1 h).1, a, c, by rw [cell_of_row _ _ _ _ _ _ h]; rfl, hi⟩⟩
theorem setCell_self {w : World} {g i : Nat} {cs : Array Value} {t : TypeId} {v : Value} (hg : w.heap[g]? = some (.cells cs t (0, 0))) (h : cs.setIfInBounds i v = cs) : w.setCell ⟨g, i, none⟩ v = w := by
  rw [setCell_eq_setRow w g i cs t (0, 0) v hg, h, setRow_self w g cs t (0, 0) hg]
/-- What begun lays. -/
theorem begun_laid (w : World) : ∃ w1 w2 w3 w4 w5 w6 w7 : World, w.alloc (.cells #[.int .i64 0] 3) = w1 ∧ w1.alloc (.cells #[.slice (some ⟨w.heap.size, 0, none⟩) 1 1] 34) = w2 ∧ w2.alloc (.cells #[.int .i64 0] 3) = w3 ∧ w3.alloc (.cells #[.int .i64 0] 3) = w4 ∧ w4.alloc (.cells #[.slice none 0 0] 34) = w5 ∧ w5.alloc (.cells #[.slice (some ⟨w1.heap.size, 0, none⟩) 1 1, .slice (some ⟨w2.heap.size, 0, none⟩) 1 1, .slice (some ⟨w3.heap.size, 0, none⟩) 1 1, .slice (some ⟨w4.heap.size, 0, none⟩) 1 1, .bool false] 46) = w6 ∧ w6.alloc (.cells #[.slice (some ⟨w1.heap.size, 0, none⟩) 1 1, .slice (some ⟨w2.heap.size, 0, none⟩) 1 1, .slice (some ⟨w3.heap.size, 0, none⟩) 1 1, .slice (some ⟨w4.heap.size, 0, none⟩) 1 1, .bool false, .bool false, .slice (some ⟨w1.heap.size, 0, none⟩) 1 1, .slice (some ⟨w2.heap.size, 0, none⟩) 1 1, .slice (some ⟨w3.heap.size, 0, none⟩) 1 1, .slice (some ⟨w4.heap.size, 0, none⟩) 1 1, .bool false, .bool true] 48) = w7 ∧ Below w.heap.size w w7 ∧ w6.heap[w5.heap.size]? = some (.cells #[.slice (some ⟨w1.heap.size, 0, none⟩) 1 1, .slice (some ⟨w2.heap.size, 0, none⟩) 1 1, .slice (some ⟨w3.heap.size, 0, none⟩) 1 1, .slice (some ⟨w4.heap.size, 0, none⟩) 1 1, .bool false] 46 (0, 0)) ∧ PaI w7 (some ⟨w6.heap.size, 0, none⟩) [begP false, begP true] := by
  refine ⟨_, _, _, _, _, _, _, rfl, rfl, rfl, rfl, rfl, rfl, rfl, ?_⟩
  generalize hw1 : w.alloc (.cells #[.int .i64 0] 3) = w1
  generalize hw2 : w1.alloc (.cells #[.slice (some ⟨w.heap.size, 0, none⟩) 1 1] 34) = w2
  generalize hw3 : w2.alloc (.cells #[.int .i64 0] 3) = w3
  generalize hw4 : w3.alloc (.cells #[.int .i64 0] 3) = w4
  generalize hw5 : w4.alloc (.cells #[.slice none 0 0] 34) = w5
  generalize hw6 : w5.alloc (.cells #[.slice (some ⟨w1.heap.size, 0, none⟩) 1 1, .slice (some ⟨w2.heap.size, 0, none⟩) 1 1, .slice (some ⟨w3.heap.size, 0, none⟩) 1 1, .slice (some ⟨w4.heap.size, 0, none⟩) 1 1, .bool false] 46) = w6
  generalize hw7 : w6.alloc (.cells #[.slice (some ⟨w1.heap.size, 0, none⟩) 1 1, .slice (some ⟨w2.heap.size, 0, none⟩) 1 1, .slice (some ⟨w3.heap.size, 0, none⟩) 1 1, .slice (some ⟨w4.heap.size, 0, none⟩) 1 1, .bool false, .bool false, .slice (some ⟨w1.heap.size, 0, none⟩) 1 1, .slice (some ⟨w2.heap.size, 0, none⟩) 1 1, .slice (some ⟨w3.heap.size, 0, none⟩) 1 1, .slice (some ⟨w4.heap.size, 0, none⟩) 1 1, .bool false, .bool true] 48) = w7
  have b1 : Below w.heap.size w w1 := by rw [← hw1]; exact below_alloc1 _ _
  have b2 : Below w1.heap.size w1 w2 := by rw [← hw2]; exact below_alloc1 _ _
  have b3 : Below w2.heap.size w2 w3 := by rw [← hw3]; exact below_alloc1 _ _
  have b4 : Below w3.heap.size w3 w4 := by rw [← hw4]; exact below_alloc1 _ _
  have b5 : Below w4.heap.size w4 w5 := by rw [← hw5]; exact below_alloc1 _ _
  have b6 : Below w5.heap.size w5 w6 := by rw [← hw6]; exact below_alloc1 _ _
  have b7 : Below w6.heap.size w6 w7 := by rw [← hw7]; exact below_alloc1 _ _
  have c6 := Below.later b6 b7
  have c5 := Below.later b5 c6
  have c4 := Below.later b4 c5
  have c3 := Below.later b3 c4
  have c2 := Below.later b2 c3
  have n1 : w1.heap[w.heap.size]? = some (.cells #[.int .i64 0] 3 (0, 0)) := by rw [← hw1]; exact heap_alloc_new _ _
  have n2 : w2.heap[w1.heap.size]? = some (.cells #[.slice (some ⟨w.heap.size, 0, none⟩) 1 1] 34 (0, 0)) := by rw [← hw2]; exact heap_alloc_new _ _
  have n3 : w3.heap[w2.heap.size]? = some (.cells #[.int .i64 0] 3 (0, 0)) := by rw [← hw3]; exact heap_alloc_new _ _
  have n4 : w4.heap[w3.heap.size]? = some (.cells #[.int .i64 0] 3 (0, 0)) := by rw [← hw4]; exact heap_alloc_new _ _
  have n5 : w5.heap[w4.heap.size]? = some (.cells #[.slice none 0 0] 34 (0, 0)) := by rw [← hw5]; exact heap_alloc_new _ _
  have n6 : w6.heap[w5.heap.size]? = some (.cells #[.slice (some ⟨w1.heap.size, 0, none⟩) 1 1, .slice (some ⟨w2.heap.size, 0, none⟩) 1 1, .slice (some ⟨w3.heap.size, 0, none⟩) 1 1, .slice (some ⟨w4.heap.size, 0, none⟩) 1 1, .bool false] 46 (0, 0)) := by rw [← hw6]; exact heap_alloc_new _ _
  have n7 : w7.heap[w6.heap.size]? = some (.cells #[.slice (some ⟨w1.heap.size, 0, none⟩) 1 1, .slice (some ⟨w2.heap.size, 0, none⟩) 1 1, .slice (some ⟨w3.heap.size, 0, none⟩) 1 1, .slice (some ⟨w4.heap.size, 0, none⟩) 1 1, .bool false, .bool false, .slice (some ⟨w1.heap.size, 0, none⟩) 1 1, .slice (some ⟨w2.heap.size, 0, none⟩) 1 1, .slice (some ⟨w3.heap.size, 0, none⟩) 1 1, .slice (some ⟨w4.heap.size, 0, none⟩) 1 1, .bool false, .bool true] 48 (0, 0)) := by rw [← hw7]; exact heap_alloc_new _ _
  have m1 := (c2.block _ (Array.getElem?_eq_some_iff.1 n1).1).trans n1
  have m2 := (c3.block _ (Array.getElem?_eq_some_iff.1 n2).1).trans n2
  have m3 := (c4.block _ (Array.getElem?_eq_some_iff.1 n3).1).trans n3
  have m4 := (c5.block _ (Array.getElem?_eq_some_iff.1 n4).1).trans n4
  have m5 := (c6.block _ (Array.getElem?_eq_some_iff.1 n5).1).trans n5
  have i1 : IA w7 (some ⟨w.heap.size, 0, none⟩) [0] := ia_blk (L := [0]) m1
  have i3 : IA w7 (some ⟨w2.heap.size, 0, none⟩) [0] := ia_blk (L := [0]) m3
  have i4 : IA w7 (some ⟨w3.heap.size, 0, none⟩) [0] := ia_blk (L := [0]) m4
  have r2 : RwA w7 (some ⟨w1.heap.size, 0, none⟩) [[0]] := rwa_one (l := [0]) m2 i1
  have r5 : RwA w7 (some ⟨w4.heap.size, 0, none⟩) [[]] := rwa_one (l := []) m5 ⟨fun k hk => absurd hk (Nat.not_lt_zero _)⟩
  have hp : PosA w7 (some ⟨w1.heap.size, 0, none⟩) (some ⟨w2.heap.size, 0, none⟩) (some ⟨w3.heap.size, 0, none⟩) (some ⟨w4.heap.size, 0, none⟩) [[0]] [[]] [0] [0] := ⟨r2, i3, i4, r5, by decide, by decide, by decide, by decide, by decide, by decide⟩
  have cl : ∀ i, w7.cell? ⟨w6.heap.size, i, none⟩ = _ := fun i => cell_of_row _ _ _ _ _ _ n7
  refine ⟨Below.later b1 c2, n6, ⟨fun k hk => ?_⟩⟩
  match k, hk with
  | 0, _ => exact ⟨w6.heap.size, 0, rfl, (Array.getElem?_eq_some_iff.1 n7).1, some ⟨w1.heap.size, 0, none⟩, some ⟨w2.heap.size, 0, none⟩, some ⟨w3.heap.size, 0, none⟩, some ⟨w4.heap.size, 0, none⟩, 1, 1, 1, 1, by rw [cl]; rfl, by rw [cl]; rfl, by rw [cl]; rfl, by rw [cl]; rfl, by rw [cl]; rfl, by rw [cl]; rfl, (fun e => by cases e), hp⟩
  | 1, _ => exact ⟨w6.heap.size, 0, rfl, (Array.getElem?_eq_some_iff.1 n7).1, some ⟨w1.heap.size, 0, none⟩, some ⟨w2.heap.size, 0, none⟩, some ⟨w3.heap.size, 0, none⟩, some ⟨w4.heap.size, 0, none⟩, 1, 1, 1, 1, by rw [cl]; rfl, by rw [cl]; rfl, by rw [cl]; rfl, by rw [cl]; rfl, by rw [cl]; rfl, by rw [cl]; rfl, (fun e => by cases e), hp⟩
  | k + 2, h => exact absurd h (by simp)
def gN : List (List Int) := [[1, 2], [3, 2], [3, 2], [3, 2]]
def gO : List (List Int) := [[], [0, 1], [], [0]]
theorem begun_b : ∃ b, bldF [begP false, begP true] 2 9 = .ok b ∧ b.nx.map nI = gN ∧ b.ou.map nI = gO ∧ b.nx.length = 4 ∧ b.ou.length = 4 := by
  have h := begun_m
  cases hb : mAll [begP false, begP true] 2 9 with
  | none => rw [hb] at h; cases h
  | some b =>
    rw [hb, Option.map_some, Option.some.injEq, Prod.mk.injEq] at h
    refine ⟨b, ?_, by rw [h.1]; rfl, by rw [h.2]; rfl, by rw [h.1]; rfl, by rw [h.2]; rfl⟩
    have e : bldF [begP false, begP true] 2 9 = match mAll [begP false, begP true] 2 9 with | none => .error 2 | some b => .ok b := by kernel_rfl
    rw [e, hb]
theorem begun_bnd : PrB [begP false, begP true] := ⟨by decide, by decide, by decide, by decide⟩
theorem gN_run : runF gN 0 [0, 1, 0] = some [0, 1, 2, 3] := by kernel_rfl
theorem g_chk2 : chkF 0 gN gO 2 2 = true := by kernel_rfl
theorem g_chk1 : chkF 0 gN gO 2 1 = false := by kernel_rfl
/-- begun's machine in memory. -/
structure BgM (V : World) (aN : Option Addr) (G o : Nat) (a1 a2 a3 : Option Addr) (c1 c2 c3 : Nat) : Prop where
  rn : RwA V aN gN
  ro : RwA V (some ⟨G, o, none⟩) gO
  o1 : V.cell? ⟨G, o + 1, none⟩ = some (.slice a1 2 c1)
  o2 : V.cell? ⟨G, o + 2, none⟩ = some (.slice a2 0 c2)
  o3 : V.cell? ⟨G, o + 3, none⟩ = some (.slice a3 1 c3)
  i1 : IA V a1 [0, 1]
  i3 : IA V a3 [0]
theorem BgM.past {V V' : World} {aN a1 a2 a3 : Option Addr} {G o c1 c2 c3 : Nat} (h : BgM V aN G o a1 a2 a3 c1 c2 c3) (hb : Below V.heap.size V V') : BgM V' aN G o a1 a2 a3 c1 c2 c3 := ⟨h.rn.past hb, h.ro.past hb, (hb.cell (p := ⟨G, o + 1, none⟩) (World.block_lt_of_cell? V _ h.o1)).trans h.o1, (hb.cell (p := ⟨G, o + 2, none⟩) (World.block_lt_of_cell? V _ h.o2)).trans h.o2, (hb.cell (p := ⟨G, o + 3, none⟩) (World.block_lt_of_cell? V _ h.o3)).trans h.o3, h.i1.past hb, h.i3.past hb⟩
theorem BgM.of {V : World} {aN aO : Option Addr} (h1 : RwA V aN gN) (h2 : RwA V aO gO) : ∃ G o a1 a2 a3 c1 c2 c3, aO = some ⟨G, o, none⟩ ∧ BgM V aN G o a1 a2 a3 c1 c2 c3 := by
  have h2' := h2
  obtain ⟨b, off, rfl, _, a1, c1, e1, f1⟩ := h2.at' 1 (by decide)
  obtain ⟨b2, off2, q2, _, a2, c2, e2, f2⟩ := h2.at' 2 (by decide)
  obtain ⟨b3, off3, q3, _, a3, c3, e3, f3⟩ := h2.at' 3 (by decide)
  simp only [Option.some.injEq, Addr.mk.injEq, and_true] at q2 q3
  obtain ⟨rfl, rfl⟩ := q2
  obtain ⟨rfl, rfl⟩ := q3
  exact ⟨b, off, a1, a2, a3, c1, c2, c3, rfl, h1, h2', e1, e2, e3, f1, f3⟩
end Go.Proofs.YtleeedjpccooaaaDoor
