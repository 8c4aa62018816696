/-
  The walk of caesuralaw5's classed.
-/
import Derived.Test.YtpimameogmkpcaaDoorPbR7W
import Derived.Test.YtpimameogmkpcaaDoorPbT3W
import Derived.Test.YtpimameogmkpcaaDoorPbT1W
namespace Go.Proofs.YtpimameogmkpcaaDoor
open Go.RowKit Go.Shelf
/-- Units in a row of one's own. -/
def OwnT (w : World) (base : Nat) (v : Value) (us : List Sp) : Prop := w.ownsRow base 43 3 v us.length (cellsP us)
def unitsF (f : Nat → Int) (n : Nat) : List Sp := (List.range n).map fun i => (f i, (i : Int), 0)
theorem unitsF_len (f : Nat → Int) (n : Nat) : (unitsF f n).length = n := by simp [unitsF]
theorem unitsF_succ (f : Nat → Int) (n : Nat) : unitsF f (n + 1) = unitsF f n ++ [(f n, (n : Int), 0)] := by simp [unitsF, List.range_succ]
theorem unitsF_at (f : Nat → Int) (n i : Nat) (h : i < n) : (unitsF f n)[i]? = some (f i, (i : Int), 0) := by simp [unitsF, h]
theorem unitsF_congr {f g : Nat → Int} {n : Nat} (h : ∀ i, i < n → f i = g i) : unitsF f n = unitsF g n := by
  unfold unitsF
  exact List.map_congr_left (fun i hi => by rw [h i (List.mem_range.1 hi)])
theorem unitsF_set (f : Nat → Int) (n k : Nat) (m : Sp) (x : Int) (h : k < n) : (unitsF f n ++ [m]).set k (x, (k : Int), 0) = unitsF (fun i => if i = k then x else f i) n ++ [m] := by
  rw [List.set_append_left _ _ (by rw [unitsF_len]; exact h)]
  congr 1
  refine List.ext_getElem? (fun i => ?_)
  by_cases hi : i < n
  · rw [unitsF_at _ _ _ hi, List.getElem?_set]
    by_cases e : k = i
    · subst e; simp [unitsF_len, h]
    · rw [if_neg e, unitsF_at _ _ _ hi, if_neg (fun q => e q.symm)]
  · rw [List.getElem?_eq_none (by rw [List.length_set, unitsF_len]; omega), List.getElem?_eq_none (by rw [unitsF_len]; omega)]
theorem cellsP_set : ∀ (us : List Sp) (k : Nat) (x : Int) (h : k < us.length), (cellsP us).set (k * 3) (.int .i64 x) = cellsP (us.set k (x, us[k].2))
  | u :: us, 0, x, _ => rfl
  | u :: us, k + 1, x, h => by
    have e : cellsP (u :: us) = .int .i64 u.1 :: .int .i64 u.2.1 :: .int .i64 u.2.2 :: cellsP us := rfl
    have ih := cellsP_set us k x (by simpa using h)
    rw [e, show (k + 1) * 3 = k * 3 + 1 + 1 + 1 by omega]
    simp only [List.set_cons_succ, List.getElem_cons_succ]
    rw [ih]
    rfl
theorem ownT_row {w : World} {base n : Nat} {v : Value} {f : Nat → Int} {m : Sp} (h : OwnT w base v (unitsF f n ++ [m])) : w.ownsRow base 43 3 v (n + 1) (cellsP (unitsF f n ++ [m])) := by
  unfold OwnT at h
  rw [show (unitsF f n ++ [m]).length = n + 1 by simp [unitsF_len]] at h
  exact h
theorem own_slice {w : World} {base : Nat} {e : TypeId} {size : Nat} {v : Value} {n : Nat} {xs : List Value} (h : w.ownsRow base e size v n xs) : ∃ a cap, v = .slice a n cap := by
  rcases h.2 with ⟨rfl, rfl⟩ | ⟨g, cap, cur, rfl, _⟩
  · exact ⟨none, 0, rfl⟩
  · exact ⟨_, cap, rfl⟩
theorem up_of {w : World} {base g n cap : Nat} {f : Nat → Int} {m : Sp} (h : OwnT w base (.slice (some ⟨g, 0, none⟩) (n + 1) cap) (unitsF f n ++ [m])) : UP w (some ⟨g, 0, none⟩) ((List.range n).map f) := ⟨fun k hk => by
  have hk' : k < n := by simpa using hk
  have hl : (unitsF f n ++ [m]).length = n + 1 := by simp [unitsF_len]
  have hlt : k < (unitsF f n ++ [m]).length := by omega
  have e : (unitsF f n ++ [m])[k] = (f k, (k : Int), 0) := by
    have h1 : (unitsF f n ++ [m])[k]? = some (f k, (k : Int), 0) := by rw [List.getElem?_append_left (by rw [unitsF_len]; exact hk')]; exact unitsF_at f n k hk'
    rw [List.getElem?_eq_getElem hlt] at h1
    exact Option.some.inj h1
  obtain ⟨q0, q1, q2⟩ := cellsP_at (unitsF f n ++ [m]) k hlt
  rw [e] at q0 q1 q2
  have hg2 := (World.ownsRow.lt (ownT_row h) g rfl).2
  refine ⟨g, 0, rfl, hg2, ?_, ⟨(k : Int), ?_⟩, ⟨0, ?_⟩⟩
  · rw [Nat.zero_add, World.ownsRow.cellAt (ownT_row h) (k * 3) (by omega), q0]; simp
  · rw [Nat.zero_add, World.ownsRow.cellAt (ownT_row h) (k * 3 + 1) (by omega), q1]
  · rw [Nat.zero_add, World.ownsRow.cellAt (ownT_row h) (k * 3 + 2) (by omega), q2]⟩
theorem unit_cells {w : World} {base g n cap : Nat} {f : Nat → Int} {m : Sp} (h : OwnT w base (.slice (some ⟨g, 0, none⟩) (n + 1) cap) (unitsF f n ++ [m])) : (∀ k, k < n → w.cell? ⟨g, k * 3, none⟩ = some (.int .i64 (f k)) ∧ w.cell? ⟨g, k * 3 + 1, none⟩ = some (.int .i64 (k : Int)) ∧ w.frozen? ⟨g, k * 3, none⟩ = false) ∧ w.cell? ⟨g, n * 3, none⟩ = some (.int .i64 m.1) ∧ w.cell? ⟨g, n * 3 + 1, none⟩ = some (.int .i64 m.2.1) := by
  have hl : (unitsF f n ++ [m]).length = n + 1 := by simp [unitsF_len]
  refine ⟨fun k hk' => ?_, ?_⟩
  · have hlt : k < (unitsF f n ++ [m]).length := by omega
    have e : (unitsF f n ++ [m])[k] = (f k, (k : Int), 0) := by
      have h1 : (unitsF f n ++ [m])[k]? = some (f k, (k : Int), 0) := by rw [List.getElem?_append_left (by rw [unitsF_len]; exact hk')]; exact unitsF_at f n k hk'
      rw [List.getElem?_eq_getElem hlt] at h1
      exact Option.some.inj h1
    obtain ⟨q0, q1, q2⟩ := cellsP_at (unitsF f n ++ [m]) k hlt
    rw [e] at q0 q1 q2
    exact ⟨by rw [World.ownsRow.cellAt (ownT_row h) (k * 3) (by omega), q0], by rw [World.ownsRow.cellAt (ownT_row h) (k * 3 + 1) (by omega), q1], World.ownsRow.frozenAt (ownT_row h) (k * 3)⟩
  · have hlt : n < (unitsF f n ++ [m]).length := by omega
    have e : (unitsF f n ++ [m])[n] = m := by
      have h1 : (unitsF f n ++ [m])[n]? = some m := by rw [List.getElem?_append_right (by rw [unitsF_len]; omega), unitsF_len, Nat.sub_self]; rfl
      rw [List.getElem?_eq_getElem hlt] at h1
      exact Option.some.inj h1
    obtain ⟨q0, q1, q2⟩ := cellsP_at (unitsF f n ++ [m]) n hlt
    rw [e] at q0 q1 q2
    exact ⟨by rw [World.ownsRow.cellAt (ownT_row h) (n * 3) (by omega), q0], by rw [World.ownsRow.cellAt (ownT_row h) (n * 3 + 1) (by omega), q1]⟩
theorem OwnT.later {w w' : World} {base : Nat} {v : Value} {us : List Sp} (h : OwnT w base v us) (hb : Below w.heap.size w w') : OwnT w' base v us :=
  World.ownsRow.kept h (row := none) ⟨hb.os, hb.tape, hb.output, hb.size, fun k hk _ => hb.block k hk⟩ (by cases hv : v.ownBlock <;> simp)
theorem OwnI.later {w w' : World} {base : Nat} {v : Value} {L : List Int} (h : OwnI w base v L) (hb : Below w.heap.size w w') : OwnI w' base v L :=
  World.ownsRow.kept h (row := none) ⟨hb.os, hb.tape, hb.output, hb.size, fun k hk _ => hb.block k hk⟩ (by cases hv : v.ownBlock <;> simp)
theorem ownT_snoc {w wr w1 : World} {base : Nat} {v v' : Value} {us : List Sp} {u : Sp} {o : Obj} {n : Nat} (hn : n = us.length) (hown : OwnT wr base v us)
    (hown' : w1.ownsRow base 43 3 v' (n + 1) (cellsP us ++ [.int .i64 u.1, .int .i64 u.2.1, .int .i64 u.2.2])) (hgrow : (wr.alloc o).grownBy w1 v.ownBlock) (hbel : Below base w wr) (hb : base ≤ w.heap.size) :
    OwnT w1 base v' (us ++ [u]) ∧ Below base w w1 := by
  subst hn
  have hsz := hbel.size
  refine ⟨?_, (hbel.alloc (by omega) o).grown hgrow (by simp; omega) (fun k hk => (World.ownsRow.lt hown k hk).1)⟩
  have e2 : cellsP (us ++ [u]) = cellsP us ++ [.int .i64 u.1, .int .i64 u.2.1, .int .i64 u.2.2] := by rw [cellsP_append]; rfl
  unfold OwnT
  rw [List.length_append, e2]
  exact hown'
theorem ownT_stored {w : World} {base g n cap k : Nat} {f : Nat → Int} {m : Sp} {x : Int} (h : OwnT w base (.slice (some ⟨g, 0, none⟩) (n + 1) cap) (unitsF f n ++ [m])) (hk : k < n) : OwnT (w.setCell ⟨g, k * 3, none⟩ (.int .i64 x)) base (.slice (some ⟨g, 0, none⟩) (n + 1) cap) (unitsF (fun i => if i = k then x else f i) n ++ [m]) := by
  have hl : (unitsF f n ++ [m]).length = n + 1 := by simp [unitsF_len]
  have hlt : k < (unitsF f n ++ [m]).length := by omega
  have h1 := (World.ownsRow.stored (ownT_row h) (k * 3) (.int .i64 x)).1
  have e : (unitsF f n ++ [m])[k] = (f k, (k : Int), 0) := by
    have h1 : (unitsF f n ++ [m])[k]? = some (f k, (k : Int), 0) := by rw [List.getElem?_append_left (by rw [unitsF_len]; exact hk)]; exact unitsF_at f n k hk
    rw [List.getElem?_eq_getElem hlt] at h1
    exact Option.some.inj h1
  rw [cellsP_set _ _ _ hlt, e, unitsF_set _ _ _ _ _ hk] at h1
  unfold OwnT
  rw [show (unitsF (fun i => if i = k then x else f i) n ++ [m]).length = n + 1 by simp [unitsF_len]]
  exact h1
theorem range_getD (ps : List Int) : (List.range ps.length).map (fun i => ps.getD i 0) = ps := by
  refine List.ext_getElem (by simp) (fun i h1 h2 => ?_)
  simp at h1
  simp [List.getD, h1]
theorem IA.later' {w w' : World} {a : Option Addr} {L : List Int} (h : IA w a L) (hb : Below w.heap.size w w') : IA w' a L := ⟨fun k hk => by
  obtain ⟨b, off, rfl, h1, h2⟩ := h.at' k hk
  exact ⟨b, off, rfl, Nat.lt_of_lt_of_le h1 hb.size, (hb.cell (p := ⟨b, off + k, none⟩) h1).trans h2⟩⟩
set_option maxRecDepth 10000 in
set_option maxHeartbeats 3200000 in
theorem classed_any (w : World) (lo T lo' U : Nat) (L : List ByteArray) (ss : List Sp) (c : Array Value) (vN vB vM vS : Value) (pts : List Int) (aP : Option Addr) (cP : Nat) (hT : TabAt w lo T (otherB :: L) ss c vN vB) (hU : RTab w lo' U L ss vM vS) (hR : Rise L.length ss) (hL : L.length ≤ 62) (hs : ss.length ≤ 65536) (hp : pts.length ≤ 100000000) (hi : IA w aP pts) :
    Calls Tryd.prog 24 #[.pointer (some ⟨T, 0, none⟩), .pointer (some ⟨U, 0, none⟩), .slice aP pts.length cP] w fun e w' => e = .returned (.bool true) ∧ Below w.heap.size w w' := by
  obtain ⟨i0, hi0, hz0, hz1, hz2⟩ := info_parts infoUnit
  have HTW : Hid (∀ W g n cap f m, Below w.heap.size w W → OwnT W w.heap.size (.slice (some ⟨g, 0, none⟩) (n + 1) cap) (unitsF f n ++ [m]) → n ≤ 100000000 → Calls Tryd.prog 11 #[.pointer (some ⟨T, 0, none⟩), .slice (some ⟨g, 0, none⟩) n cap] W fun e w' => ∃ v, e = .returned v ∧ OwnI w' W.heap.size v (((List.range n).map f).map (cls ss)) ∧ Below W.heap.size W w') := hid0 (fun W g n cap f m hW ho hn => by
    have h := classes_any L.length W lo T _ ss c vN vB ((List.range n).map f) (some ⟨g, 0, none⟩) cap (by simp; omega) hR (by omega) (by omega) (hT.below hW) (up_of ho) (fun p hp => by cases hp; exact (World.ownsRow.lt (ownT_row ho) g rfl).2)
    rw [show ((List.range n).map f).length = n by simp] at h
    exact h)
  have HUW : Hid (∀ W g n cap f m, Below w.heap.size w W → OwnT W w.heap.size (.slice (some ⟨g, 0, none⟩) (n + 1) cap) (unitsF f n ++ [m]) → n ≤ 100000000 → Calls Tryd.prog 36 #[.pointer (some ⟨U, 0, none⟩), .slice (some ⟨g, 0, none⟩) n cap] W fun e w' => ∃ v, e = .returned v ∧ OwnI w' W.heap.size v (((List.range n).map f).map (cls ss)) ∧ Below W.heap.size W w') := hid0 (fun W g n cap f m hW ho hn => by
    have h := refClasses_any L.length W lo' U L ss vM vS ((List.range n).map f) (some ⟨g, 0, none⟩) cap hs (by simp; omega) hR (by omega) (hU.below hW) (up_of ho) (fun p hp => by cases hp; exact (World.ownsRow.lt (ownT_row ho) g rfl).2)
    rw [show ((List.range n).map f).length = n by simp] at h
    exact h)
  have HA := hid0 hi
  clear hT hU hR hi
  go_enter Tryd.func24, Tryd.ntmps24
  go_wp2
  go_loopw [7, 8] (fun v i wr => ∃ k : Nat, k ≤ pts.length ∧ i = .int .i64 (k : Int) ∧ Hid (OwnT wr w.heap.size v (unitsF (fun i => pts.getD i 0) k)) ∧ Hid (Below w.heap.size w wr)) (fun _ i _ => pts.length - (intOf i).toNat)
  case atStart => exact ⟨0, Nat.zero_le _, rfl, hid0 (World.ownsRow_nil _ _ _ _), hid0 (Below.refl _ _)⟩
  case round =>
    obtain ⟨k, hk, rfl, HO, HB⟩ := hrel
    have hbs := HB.out.size
    have HTL : Hid ((unitsF (fun i => pts.getD i 0) k).length = k) := hid0 (unitsF_len _ _)
    have HOO : Hid (wr.ownsRow w.heap.size 43 3 u7 k (cellsP (unitsF (fun i => pts.getD i 0) k))) := hid0 (by have h := HO.out; unfold OwnT at h; rw [unitsF_len] at h; exact h)
    by_cases hlt : k < pts.length
    · obtain ⟨b, off, rfl, hbw, hc⟩ := HA.out.at' k hlt
      have hc' := (HB.out.cell (p := ⟨b, off + k, none⟩) hbw).trans hc
      have hkI : (k : Int) < (pts.length : Int) := by omega
      have hkI0 : (0 : Int) ≤ (k : Int) := by omega
      have HTK : Hid (unitsF (fun i => pts.getD i 0) (k + 1) = unitsF (fun i => pts.getD i 0) k ++ [(pts[k], (k : Int), 0)]) := hid0 (by rw [unitsF_succ]; simp [List.getD, hlt])
      generalize pts[k] = s at *
      clear hc
      go_wp2_with (at_builtin; refine wpList_append_own _ rfl _ _ 41 rfl w.heap.size 43 i0 (.agg #[.int .i64 0, .int .i64 0, .int .i64 0]) 3 24 Tryd.underlying41 hi0 hz0 hz1 hz2 rfl (by decide) _ _ _ rfl (HOO.out.alloc _) ⟨wr.heap.size, 0, none⟩ 1 1 [.int .i64 s, .int .i64 (k : Int), .int .i64 0] rfl rfl (cell3_new _ _ _ _ _) ?c2b ?c3b ?c4b ?c5b ?_)
      case c2b => simp [Value.oneCell']
      case c3b => unfold maxLen; omega
      case c4b => omega
      case c5b => simp; omega
      intro v2 w4 hown' hgrow _
      obtain ⟨g1, g2⟩ := ownT_snoc (w := w) (base := w.heap.size) (us := unitsF (fun i => pts.getD i 0) k) (u := (s, (k : Int), 0)) (n := k) HTL.out.symm HO.out hown' hgrow HB.out (Nat.le_refl _)
      have HO4 : Hid (OwnT w4 w.heap.size v2 (unitsF (fun i => pts.getD i 0) (k + 1))) := hid0 (by rw [HTK.out]; exact g1)
      have HB4 := hid0 g2
      clear hown' hgrow g1 g2 HOO HO HB
      go_wp2
      go_roundw
      case rel => exact ⟨k + 1, by omega, by go_num, HO4, HB4⟩
      case measure => simp [intOf]; omega
    · have hkI : ¬ (k : Int) < (pts.length : Int) := by omega
      have hkn : k = pts.length := by omega
      subst hkn
      obtain ⟨f, hf⟩ : ∃ f : Nat → Int, f = (fun i => pts.getD i 0) := ⟨_, rfl⟩
      rw [← hf] at HO HTL HOO
      have HFA : Hid (∀ k (h : k < pts.length), f k = pts[k]) := hid0 (fun k h => by rw [hf]; simp [List.getD, h])
      clear hf
      obtain ⟨Y, hY⟩ : ∃ Y : List Int, Y = ((List.range pts.length).map f).map (cls ss) := ⟨_, rfl⟩
      have hYl : Y.length ≤ 100000000 := by rw [hY]; simp; exact hp
      have HT1 : Hid (∀ W g cap m, Below w.heap.size w W → OwnT W w.heap.size (.slice (some ⟨g, 0, none⟩) (pts.length + 1) cap) (unitsF f pts.length ++ [m]) → Calls Tryd.prog 11 #[.pointer (some ⟨T, 0, none⟩), .slice (some ⟨g, 0, none⟩) pts.length cap] W fun e w' => ∃ v, e = .returned v ∧ OwnI w' W.heap.size v Y ∧ Below W.heap.size W w') := hid0 (fun W g cap m h1 h2 => by rw [hY]; exact HTW.out W g pts.length cap f m h1 h2 hp)
      have HU1 : Hid (∀ W g cap m, Below w.heap.size w W → OwnT W w.heap.size (.slice (some ⟨g, 0, none⟩) (pts.length + 1) cap) (unitsF f pts.length ++ [m]) → Calls Tryd.prog 36 #[.pointer (some ⟨U, 0, none⟩), .slice (some ⟨g, 0, none⟩) pts.length cap] W fun e w' => ∃ v, e = .returned v ∧ OwnI w' W.heap.size v Y ∧ Below W.heap.size W w') := hid0 (fun W g cap m h1 h2 => by rw [hY]; exact HUW.out W g pts.length cap f m h1 h2 hp)
      clear hY
      obtain ⟨a7, c7, rfl⟩ := own_slice HOO.out
      have HML : Hid (pts.length + 1 ≤ maxLen) := hid0 (by unfold maxLen; omega)
      have HWS : Hid (w.heap.size ≤ (wr.alloc (.cells #[.int .i64 (-77), .int .i64 (-77), .int .i64 0] 43)).heap.size) := hid0 (by simp; omega)
      have hn0 : (0 : Int) ≤ (pts.length : Int) := by omega
      have M0 : Hid True := trivial
      go_wp2_with (first
        | (at_builtin; clear M0; refine wpList_append_own _ rfl _ _ 41 rfl w.heap.size 43 i0 (.agg #[.int .i64 0, .int .i64 0, .int .i64 0]) 3 24 Tryd.underlying41 hi0 hz0 hz1 hz2 rfl (by decide) _ _ _ rfl (HOO.out.alloc _) ⟨wr.heap.size, 0, none⟩ 1 1 [.int .i64 (-77), .int .i64 (-77), .int .i64 0] rfl rfl (cell3_new _ _ _ _ _) (by simp [Value.oneCell']) HML.out (by omega) HWS.out ?_
           intro v2 w1 hown' hgrow hjunk
           obtain ⟨g1, g2⟩ := ownT_snoc (w := w) (base := w.heap.size) (us := unitsF f pts.length) (u := (-77, -77, 0)) (n := pts.length) HTL.out.symm HO.out hown' hgrow HB.out (Nat.le_refl _)
           obtain ⟨g, cap, rfl, hge, hju2, hcap⟩ := own_form hown' (Nat.succ_pos _)
           have hcI : (pts.length : Int) ≤ (cap : Int) := (by omega)
           have HO1 := hid0 g1
           have HB1 := hid0 g2
           have M1 : Hid True := trivial
           clear hown' hgrow g1 g2 hjunk hju2 hcap HOO HO HB)
        | (go_at_call 36; clear M1; refine (HU1.out w1 g cap (-77, -77, 0) HB1.out HO1.out).mono ?_; rintro e w2 ⟨vb, rfl, h1, h2⟩; obtain ⟨ab, cb, rfl, hj⟩ := h1.ia; have HOB := hid0 h1; have HO2 := hid0 (HO1.out.later h2); have HB2 := hid0 (Below.later HB1.out h2); have M2 : Hid True := trivial; clear h1 h2 hj)
        | (go_at_call 11; clear M2; refine (HT1.out w2 g cap (-77, -77, 0) HB2.out HO2.out).mono ?_; rintro e w3 ⟨va, rfl, h1, h2⟩; obtain ⟨aa, ca, rfl, hia⟩ := h1.ia; obtain ⟨ab', cb', heq, hib⟩ := (HOB.out.later h2).ia; cases heq; have HIA := hid0 hia; have HIB := hid0 hib; have HO3 := hid0 (HO2.out.later h2); have HB3 := hid0 (Below.later HB2.out h2); clear h1 h2 hia hib))
      have HP3 : Hid (IA w3 aP pts) := hid0 (HA.out.later' HB3.out)
      clear HA HTL
      go_loopw [12] (fun i wr => ∃ k q : Nat, k ≤ pts.length ∧ i = .int .i64 (k : Int) ∧ wr = w3.drewN q) (fun i _ => pts.length - (intOf i).toNat)
      case atStart => exact ⟨0, 0, Nat.zero_le _, rfl, rfl⟩
      case round =>
        obtain ⟨k, q, hk2, rfl, rfl⟩ := hrel
        by_cases hlt2 : k < pts.length
        · obtain ⟨b, off, rfl, hbw, hc⟩ := HP3.out.at' k hlt2
          obtain ⟨c0, c1, _⟩ := (unit_cells HO3.out).1 k hlt2
          rw [HFA.out k hlt2] at c0
          have hkI2 : (k : Int) < (pts.length : Int) := by omega
          have hkI3 : (k : Int) < (pts.length : Int) + 1 := by omega
          have hkI0 : (0 : Int) ≤ (k : Int) := by omega
          generalize pts[k] = s at *
          have hss : (s == s) = true := by simp
          have hkk : ((k : Int) == (k : Int)) = true := by simp
          go_wp2
          go_quiet ((fail))
          go_wp2
          go_roundw
          case rel => exact ⟨k + 1, _, hlt2, by go_num, rfl⟩
          case measure => simp [intOf]; omega
        · have hkI2 : ¬ (k : Int) < (pts.length : Int) := by omega
          obtain ⟨_, c0, c1⟩ := unit_cells HO3.out
          have hkI3 : (pts.length : Int) < (pts.length : Int) + 1 := by omega
          have HDB : Hid (∀ n, Below w3.heap.size w3 ((w3.drewN q).drewN n)) := hid0 (fun n => ⟨rfl, rfl, rfl, Nat.le_refl _, fun _ _ => rfl⟩)
          have HSI : Hid (Calls Tryd.prog 16 #[.slice aa Y.length ca, .slice ab Y.length cb] (w3.drewN q) fun e w' => e = .returned (.bool true) ∧ ∃ n, w' = (w3.drewN q).drewN n) := hid0 (sameI Y aa ab ca cb (w3.drewN q) (by omega) (HIA.out.later' (HDB.out 0)) (HIB.out.later' (HDB.out 0)))
          go_wp2_with (go_at_call 16; refine HSI.out.mono ?_; rintro e w4 ⟨rfl, n4, rfl⟩)
          obtain ⟨f2, hf2⟩ : ∃ f2 : Nat → Int, f2 = (fun i => 60 + ((i % 40 : Nat) : Int)) := ⟨_, rfl⟩
          obtain ⟨Z, hZ⟩ : ∃ Z : List Int, Z = ((List.range pts.length).map f2).map (cls ss) := ⟨_, rfl⟩
          have hZl : Z.length ≤ 100000000 := by rw [hZ]; simp; exact hp
          have HT2 : Hid (∀ W, Below w.heap.size w W → OwnT W w.heap.size (.slice (some ⟨g, 0, none⟩) (pts.length + 1) cap) (unitsF f2 pts.length ++ [(-77, -77, 0)]) → Calls Tryd.prog 11 #[.pointer (some ⟨T, 0, none⟩), .slice (some ⟨g, 0, none⟩) pts.length cap] W fun e w' => ∃ v, e = .returned v ∧ OwnI w' W.heap.size v Z ∧ Below W.heap.size W w') := hid0 (fun W h1 h2 => by rw [hZ]; exact HTW.out W g pts.length cap f2 _ h1 h2 hp)
          have HU2 : Hid (∀ W, Below w.heap.size w W → OwnT W w.heap.size (.slice (some ⟨g, 0, none⟩) (pts.length + 1) cap) (unitsF f2 pts.length ++ [(-77, -77, 0)]) → Calls Tryd.prog 36 #[.pointer (some ⟨U, 0, none⟩), .slice (some ⟨g, 0, none⟩) pts.length cap] W fun e w' => ∃ v, e = .returned v ∧ OwnI w' W.heap.size v Z ∧ Below W.heap.size W w') := hid0 (fun W h1 h2 => by rw [hZ]; exact HUW.out W g pts.length cap f2 _ h1 h2 hp)
          have HF2 : Hid (∀ i, f2 i = 60 + ((i % 40 : Nat) : Int)) := hid0 (fun i => by rw [hf2])
          have HDE : Hid (Below w3.heap.size w3 (w3.drewN (q + n4))) := hid0 ⟨rfl, rfl, rfl, Nat.le_refl _, fun _ _ => rfl⟩
          have HO4 : Hid (OwnT (w3.drewN (q + n4)) w.heap.size (.slice (some ⟨g, 0, none⟩) (pts.length + 1) cap) (unitsF (fun i => if i < 0 then f2 i else f i) pts.length ++ [(-77, -77, 0)])) := hid0 (by
            rw [unitsF_congr (g := f) (fun i _ => by simp)]
            exact HO3.out.later HDE.out)
          have HB4 : Hid (Below w.heap.size w (w3.drewN (q + n4))) := hid0 (Below.later HB3.out HDE.out)
          clear hZ hf2 HT1 HU1 HTW HUW HSI HIA HIB HP3 HFA c0 c1
          go_loopw [14] (fun i wr => ∃ k : Nat, k ≤ pts.length ∧ i = .int .i64 (k : Int) ∧ Hid (OwnT wr w.heap.size (.slice (some ⟨g, 0, none⟩) (pts.length + 1) cap) (unitsF (fun i => if i < k then f2 i else f i) pts.length ++ [(-77, -77, 0)])) ∧ Hid (Below w.heap.size w wr)) (fun i _ => pts.length - (intOf i).toNat)
          case atStart => exact ⟨0, Nat.zero_le _, rfl, HO4, HB4⟩
          case round =>
            clear HO4 HB4
            obtain ⟨k, hk3, rfl, HO5, HB5⟩ := hrel
            by_cases hlt3 : k < pts.length
            · obtain ⟨c0, c1, f0⟩ := (unit_cells HO5.out).1 k hlt3
              have hkI4 : (k : Int) < (pts.length : Int) := by omega
              have hkI5 : (k : Int) < (pts.length : Int) + 1 := by omega
              have hkI0 : (0 : Int) ≤ (k : Int) := by omega
              have HO6 : Hid (OwnT (wr.setCell ⟨g, k * 3, none⟩ (.int .i64 (f2 k))) w.heap.size (.slice (some ⟨g, 0, none⟩) (pts.length + 1) cap) (unitsF (fun i => if i < k + 1 then f2 i else f i) pts.length ++ [(-77, -77, 0)])) := hid0 (by
                have h := ownT_stored (x := f2 k) HO5.out hlt3
                rw [unitsF_congr (g := fun i => if i < k + 1 then f2 i else f i) (fun i _ => by
                  by_cases e : i = k
                  · subst e; simp
                  · by_cases e2 : i < k
                    · rw [if_neg e, if_pos e2, if_pos (by omega)]
                    · rw [if_neg e, if_neg e2, if_neg (by omega)])] at h
                exact h)
              have HB6 : Hid (Below w.heap.size w (wr.setCell ⟨g, k * 3, none⟩ (.int .i64 (f2 k)))) := hid0 (HB5.out.setCell hge _)
              have hv := HF2.out k
              have hd2 : (k : Int).tmod 40 = ((k % 40 : Nat) : Int) := by rw [Int.tmod_eq_emod_of_nonneg (by omega)]; omega
              have hj40 : k % 40 < 40 := Nat.mod_lt _ (by omega)
              generalize k % 40 = j at *
              have hw1 : IntKind.i64.wrap (60 + (j : Int)) = f2 k := by rw [hv]; simp [IntKind.wrap, IntKind.bits, IntKind.signed]; omega
              have hw2 : IntKind.i64.wrap (j : Int) = (j : Int) := by simp [IntKind.wrap, IntKind.bits, IntKind.signed]; omega
              clear hv HO5 HB5
              go_wp2
              go_roundw
              case rel => exact ⟨k + 1, hlt3, by go_num, HO6, HB6⟩
              case measure => simp [intOf]; omega
            · have hkI4 : ¬ (k : Int) < (pts.length : Int) := by omega
              have hkn : k = pts.length := by omega
              have HO6 : Hid (OwnT wr w.heap.size (.slice (some ⟨g, 0, none⟩) (pts.length + 1) cap) (unitsF f2 pts.length ++ [(-77, -77, 0)])) := hid0 (by
                have h := HO5.out
                rw [unitsF_congr (g := f2) (fun i hi => by rw [if_pos (by omega)])] at h
                exact h)
              clear HO5 hkn
              have M3 : Hid True := trivial
              go_wp2_with (first
                | (go_at_call 36; clear M3; refine (HU2.out wr HB5.out HO6.out).mono ?_; rintro e w5 ⟨vb, rfl, h1, h2⟩; obtain ⟨ax, cx, rfl, hj⟩ := h1.ia; have HOX := hid0 h1; have HO7 := hid0 (HO6.out.later h2); have HB7 := hid0 (Below.later HB5.out h2); have M4 : Hid True := trivial; clear h1 h2 hj)
                | (go_at_call 11; clear M4; refine (HT2.out w5 HB7.out HO7.out).mono ?_; rintro e w6 ⟨va, rfl, h1, h2⟩; obtain ⟨ay, cy, rfl, hia⟩ := h1.ia; obtain ⟨ax', cx', heq, hib⟩ := (HOX.out.later h2).ia; cases heq; have HSJ := hid0 (sameI Z ay ax cy cx w6 (by omega) hia hib); have HB8 := hid0 (Below.later HB7.out h2); clear h1 h2 hia hib)
                | (go_at_call 16; refine HSJ.out.mono ?_; rintro e w7 ⟨rfl, n7, rfl⟩))
              go_ret
              exact ⟨rfl, ⟨HB8.out.os, HB8.out.tape, HB8.out.output, HB8.out.size, HB8.out.block⟩⟩
end Go.Proofs.YtpimameogmkpcaaDoor
