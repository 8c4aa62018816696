/-
  MiPM, MiNM, MiGW, MiPW, MiJW, MiIW, MiKW, MiLM, MiLW, MiDW.
-/
import Derived.Test.YthoogkpiacopiaaDoorMva
import Derived.HandedShaped
import Derived.Laws.MakeOwn
import Derived.BigRegion
namespace Go.Proofs.YthoogkpiacopiaaDoor
open Go.RowKit Go.Shelf
theorem row_later {w w' : World} {base : Nat} {t : TypeId} {size n : Nat} {v : Value} {xs : List Value} (h : w.ownsRow base t size v n xs) (hb : Below w.heap.size w w') : w'.ownsRow base t size v n xs := own_blk h (fun k hk => hb.block k (World.ownsRow.lt h k hk).2)
theorem own_typ {w : World} {base : Nat} {t : TypeId} {size n : Nat} {v : Value} {xs : List Value} (h : w.ownsRow base t size v n xs) {g : Nat} (hg : v.ownBlock = some g) : ∃ cs, w.heap[g]? = some (.cells cs t (0, 0)) := by
  rcases h.2 with ⟨e, _⟩ | ⟨g', cap, cur, e, _, hr, _⟩
  · rw [e] at hg; cases hg
  · rw [e] at hg
    obtain rfl : g' = g := by simpa [Value.ownBlock] using hg
    exact ⟨cur, hr⟩
/-- Rows of unlike types lie in unlike blocks. -/
theorem own_unlike {w : World} {b1 b2 : Nat} {t1 t2 : TypeId} {s1 s2 n1 n2 : Nat} {v1 v2 : Value} {x1 x2 : List Value} (h1 : w.ownsRow b1 t1 s1 v1 n1 x1) (h2 : w.ownsRow b2 t2 s2 v2 n2 x2) (ht : t1 ≠ t2) : ∀ g, v1.ownBlock = some g → v2.ownBlock ≠ some g := fun g h3 h4 => by
  obtain ⟨c1, e1⟩ := own_typ h1 h3
  obtain ⟨c2, e2⟩ := own_typ h2 h4
  rw [e1] at e2
  cases e2
  exact ht rfl
abbrev Lz := List (Value × Nat × List Int)
/-- A slice of lists: each shows its beginning alone. -/
structure Pz (w : World) (base : Nat) (v : Value) (qs : Lz) : Prop where
  outer : w.ownsRow base 25 1 v qs.length (qs.map (·.1))
  row : ∀ x ∈ qs, ∃ g c, x.1 = .slice (some ⟨g, 0, none⟩) x.2.1 c ∧ x.2.1 ≤ x.2.2.length ∧ OwnI w base (.slice (some ⟨g, 0, none⟩) x.2.2.length c) x.2.2
theorem Pz.nil (w : World) (base : Nat) : Pz w base (.slice none 0 0) [] := ⟨World.ownsRow_nil _ _ _ _, fun x h => by cases h⟩
theorem Pz.later {w w' : World} {base : Nat} {v : Value} {qs : Lz} (h : Pz w base v qs) (hb : Below w.heap.size w w') : Pz w' base v qs :=
  ⟨row_later h.outer hb, fun x hx => by obtain ⟨g, c, e, hl, ho⟩ := h.row x hx; exact ⟨g, c, e, hl, row_later ho hb⟩⟩
/-- One more, made behind. -/
theorem Pz.snoc {W wr w1 w : World} {base : Nat} {v v' : Value} {qs : Lz} {r : List Int} {g c m : Nat} {o : Obj} {n : Nat} (hn : n = qs.length) (h : Pz W base v qs) (hk : Below W.heap.size W wr) (hm : m ≤ r.length) (hx : OwnI wr W.heap.size (.slice (some ⟨g, 0, none⟩) r.length c) r) (hbase : base ≤ W.heap.size)
    (hown' : w1.ownsRow base 25 1 v' (n + 1) (qs.map (·.1) ++ [.slice (some ⟨g, 0, none⟩) m c])) (hgrow : (wr.alloc o).grownBy w1 v.ownBlock) (hb : Below base w W) :
    Pz w1 base v' (qs ++ [(.slice (some ⟨g, 0, none⟩) m c, m, r)]) ∧ Below base w w1 := by
  subst hn
  have h2 := h.later hk
  have hs := hk.size
  have old : ∀ {n : Nat} {u : Value} {xs : List Value} {b : Nat}, wr.ownsRow b 3 1 u n xs → w1.ownsRow b 3 1 u n xs := fun {n u xs b} hu => by
    refine World.ownsRow.kept (World.ownsRow.alloc hu o) hgrow ?_
    cases e : u.ownBlock with
    | none => exact .inl rfl
    | some g => exact .inr fun hc => own_unlike h2.outer hu (by decide) g hc.symm e
  refine ⟨⟨?_, ?_⟩, ?_⟩
  · rw [List.length_append, List.map_append]
    exact hown'
  · intro y hy
    rcases List.mem_append.1 hy with hy | hy
    · obtain ⟨g1, c1, e1, hl1, ho1⟩ := h2.row y hy
      exact ⟨g1, c1, e1, hl1, old ho1⟩
    · rw [List.mem_singleton] at hy
      subst hy
      exact ⟨g, c, rfl, hm, owns_lower (old hx) hbase⟩
  · refine ((hb.trans (hk.mono hbase)).alloc ?_ o).grown hgrow ?_ (fun k hk' => (World.ownsRow.lt h.outer k hk').1)
    · omega
    · simp; omega
def m77 : List Int := List.replicate 64 (-77)
def rowZ (r : List Int) : Nat × List Int := (r.length, r ++ m77)
/-- The lists, and the marks behind them. -/
def Fits (qs : Lz) (L : List (List Int)) (m : Nat) : Prop := qs.map (·.2) = L.map rowZ ++ List.replicate m (1, [(-78 : Int)])
theorem Fits.len {qs : Lz} {L : List (List Int)} {m : Nat} (h : Fits qs L m) : qs.length = L.length + m := by
  have := congrArg List.length h
  simpa using this
theorem Fits.row {qs : Lz} {L : List (List Int)} {m k : Nat} (h : Fits qs L m) (hk : k < L.length) : ∃ x, qs[k]? = some x ∧ x.2 = rowZ L[k] := by
  have h1 : (qs.map (·.2))[k]? = some (rowZ L[k]) := by
    rw [h, List.getElem?_append_left (by simpa using hk)]
    simp [hk]
  rw [List.getElem?_map, Option.map_eq_some_iff] at h1
  obtain ⟨x, h2, h3⟩ := h1
  exact ⟨x, h2, h3⟩
theorem Fits.mark {qs : Lz} {L : List (List Int)} {m k : Nat} (h : Fits qs L m) (hk : k < m) : ∃ x, qs[L.length + k]? = some x ∧ x.2 = (1, [(-78 : Int)]) := by
  have h1 : (qs.map (·.2))[L.length + k]? = some (1, [(-78 : Int)]) := by
    rw [h, List.getElem?_append_right (by simp), List.length_map, Nat.add_sub_cancel_left, List.getElem?_replicate, if_pos hk]
  rw [List.getElem?_map, Option.map_eq_some_iff] at h1
  obtain ⟨x, h2, h3⟩ := h1
  exact ⟨x, h2, h3⟩
theorem Fits.snoc {qs : Lz} {L : List (List Int)} {v : Value} {r : List Int} (h : Fits qs L 0) : Fits (qs ++ [(v, r.length, r ++ m77)]) (L ++ [r]) 0 := by
  unfold Fits at *
  rw [List.map_append, h, List.map_append]
  simp [rowZ]
theorem Fits.more {qs : Lz} {L : List (List Int)} {v : Value} {m : Nat} (h : Fits qs L m) : Fits (qs ++ [(v, 1, [-78])]) L (m + 1) := by
  unfold Fits at *
  rw [List.map_append, h, List.append_assoc, List.replicate_succ']
  rfl
theorem Pz.cell {w : World} {base g n c : Nat} {qs : Lz} (h : Pz w base (.slice (some ⟨g, 0, none⟩) n c) qs) (hn : n = qs.length) {k : Nat} {x : Value × Nat × List Int} (hx : qs[k]? = some x) : w.cell? ⟨g, k, none⟩ = some x.1 := by
  subst hn
  obtain ⟨hk, e⟩ := List.getElem?_eq_some_iff.1 hx
  rw [World.ownsRow.cellAt h.outer k (by omega), List.getElem?_map, hx]
  rfl
/-- A machine's lists, as twin made them. -/
structure Tz (w : World) (base G c : Nat) (L : List (List Int)) : Prop where
  at' : ∃ qs, Pz w base (.slice (some ⟨G, 0, none⟩) (L.length + 64) c) qs ∧ Fits qs L 64
theorem Tz.later {w w' : World} {base G c : Nat} {L : List (List Int)} (h : Tz w base G c L) (hb : Below w.heap.size w w') : Tz w' base G c L := by
  obtain ⟨qs, h1, h2⟩ := h.at'
  exact ⟨qs, h1.later hb, h2⟩
theorem Tz.cap {w : World} {base G c : Nat} {L : List (List Int)} (h : Tz w base G c L) : L.length + 64 ≤ c ∧ base ≤ G ∧ G < w.heap.size := by
  obtain ⟨qs, h1, h2⟩ := h.at'
  have h3 := World.ownsRow.lt h1.outer G rfl
  have hl := h2.len
  obtain ⟨g', cap, e, _, _, h4⟩ := own_form h1.outer (by omega)
  simp only [Value.slice.injEq] at e
  obtain ⟨_, _, rfl⟩ := e
  exact ⟨by omega, h3⟩
theorem Tz.row {w : World} {base G c : Nat} {L : List (List Int)} (h : Tz w base G c L) {k : Nat} (hk : k < L.length) : ∃ g cg, w.cell? ⟨G, k, none⟩ = some (.slice (some ⟨g, 0, none⟩) L[k].length cg) ∧ L[k].length + 64 ≤ cg ∧ IA w (some ⟨g, 0, none⟩) L[k] ∧ (∀ j, j < 64 → w.cell? ⟨g, L[k].length + j, none⟩ = some (.int .i64 (-77))) ∧ base ≤ g ∧ g < w.heap.size ∧ ∀ j, w.frozen? ⟨g, j, none⟩ = false := by
  obtain ⟨qs, h1, h2⟩ := h.at'
  obtain ⟨x, hx, ex⟩ := h2.row hk
  obtain ⟨g, cg, e1, hl, ho⟩ := h1.row x (List.mem_of_getElem? hx)
  have hc := h1.cell h2.len.symm hx
  rw [e1] at hc
  rw [ex] at hc hl ho
  simp only [rowZ] at hc hl ho
  have hlen : (L[k] ++ m77).length = L[k].length + 64 := by rw [List.length_append]; simp [m77]
  have hca : L[k].length + 64 ≤ cg := by
    obtain ⟨g', cap, e, _, _, h4⟩ := own_form ho (by omega)
    simp only [Value.slice.injEq] at e
    obtain ⟨_, _, rfl⟩ := e
    omega
  have hcell : ∀ j (hj : j < (L[k] ++ m77).length), w.cell? ⟨g, j, none⟩ = some (.int .i64 (L[k] ++ m77)[j]) := fun j hj => by
    rw [World.ownsRow.cellAt ho j (by omega), List.getElem?_map, List.getElem?_eq_getElem hj]
    rfl
  have hgl := World.ownsRow.lt ho g rfl
  refine ⟨g, cg, hc, hca, ⟨fun j hj => ⟨g, 0, rfl, hgl.2, ?_⟩⟩, fun j hj => ?_, hgl.1, hgl.2, fun j => World.ownsRow.frozenAt ho j⟩
  · rw [Nat.zero_add, hcell j (by omega), List.getElem_append_left hj]
  · have e77 : ∀ (i : Nat) (h : i < m77.length), m77[i] = -77 := fun i h => by unfold m77; exact List.getElem_replicate _
    rw [hcell (L[k].length + j) (by omega), List.getElem_append_right (by omega), e77]
theorem Tz.mark {w : World} {base G c : Nat} {L : List (List Int)} (h : Tz w base G c L) {k : Nat} (hk : k < 64) : ∃ g cg, w.cell? ⟨G, L.length + k, none⟩ = some (.slice (some ⟨g, 0, none⟩) 1 cg) ∧ w.cell? ⟨g, 0, none⟩ = some (.int .i64 (-78)) := by
  obtain ⟨qs, h1, h2⟩ := h.at'
  obtain ⟨x, hx, ex⟩ := h2.mark hk
  obtain ⟨g, cg, e1, hl, ho⟩ := h1.row x (List.mem_of_getElem? hx)
  have hc := h1.cell h2.len.symm hx
  rw [e1] at hc
  rw [ex] at hc ho
  simp only at hc ho
  refine ⟨g, cg, hc, ?_⟩
  rw [World.ownsRow.cellAt ho 0 (by simp)]
  rfl
theorem Tz.rwa {w : World} {base G c : Nat} {L : List (List Int)} (h : Tz w base G c L) : RwA w (some ⟨G, 0, none⟩) L := ⟨fun k hk => by
  obtain ⟨g, cg, h1, _, h2, _⟩ := h.row hk
  exact ⟨G, 0, rfl, h.cap.2.2, some ⟨g, 0, none⟩, cg, by rw [Nat.zero_add]; exact h1, h2⟩⟩
end Go.Proofs.YthoogkpiacopiaaDoor
namespace Go.Proofs.YthoogkpiacopiaaDoor
theorem apA_ex (T : Two) : ∃ r, ApA T r := by
  by_cases h : ∃ z, T.ok z ∧ T.dis T.sa T.sb z
  · obtain ⟨z, hz⟩ := h
    have key : ∀ z, T.ok z ∧ T.dis T.sa T.sb z → ∃ u, T.Best u := by
      intro z
      induction z using (slx_wf T.m).induction with
      | _ z ih =>
        intro hz
        by_cases h2 : ∃ y, slx T.m y z ∧ T.ok y ∧ T.dis T.sa T.sb y
        · obtain ⟨y, h3, h4⟩ := h2
          exact ih y h3 h4
        · exact ⟨z, hz.1, hz.2, fun y hy hd hl => h2 ⟨y, hl, hy, hd⟩⟩
    obtain ⟨u, hu⟩ := key z hz
    exact ⟨some u, ⟨fun w e => (by cases e; exact hu), fun e => (by cases e)⟩⟩
  · exact ⟨none, ⟨fun w e => (by cases e), fun _ z h1 h2 => h ⟨z, h1, h2⟩⟩⟩
/-- What both say: none: it is refused. -/
inductive ApR (sa sb sy : Int) (N O N' O' : List (List Int)) : Option (Option (List Nat)) → Prop
  | bad (h : mayF sa N O sy = true → mayF sb N' O' sy = true → False) : ApR sa sb sy N O N' O' none
  | good (m : Nat) (r : Option (List Nat)) (hm : sy = (m : Int)) (h1 : mayF sa N O sy = true) (h2 : mayF sb N' O' sy = true) (h3 : May sa N O m) (h4 : May sb N' O' m) (h : ApA (twoF m sa sb N O N' O') r) : ApR sa sb sy N O N' O' (some r)
theorem apR_ex (sa sb sy : Int) (N O N' O' : List (List Int)) : ∃ res, ApR sa sb sy N O N' O' res := by
  by_cases h1 : mayF sa N O sy = true
  · by_cases h2 : mayF sb N' O' sy = true
    · obtain ⟨m, hm, h3⟩ := mayF_may h1
      obtain ⟨m', hm', h4⟩ := mayF_may h2
      obtain rfl : m = m' := by omega
      obtain ⟨r, hr⟩ := apA_ex (twoF m sa sb N O N' O')
      exact ⟨some r, .good m r hm h1 h2 h3 h4 hr⟩
    · exact ⟨none, .bad (fun _ h => h2 h)⟩
  · exact ⟨none, .bad (fun h _ => h1 h)⟩
def nums (w : List Nat) : List Int := w.map Int.ofNat
/-- The word, whether there is one, the number of the refusal. -/
def apW : Option (Option (List Nat)) → List Int
  | some (some u) => nums u
  | _ => []
def apB : Option (Option (List Nat)) → Bool
  | some (some _) => true
  | _ => false
def apE : Option (Option (List Nat)) → Int
  | none => 1
  | _ => 0
theorem nodup_le : ∀ (n : Nat) (l : List Nat), l.Nodup → (∀ x ∈ l, x < n) → l.length ≤ n
  | 0, l, _, h => by
    cases l with
    | nil => exact Nat.le_refl _
    | cons x r => exact absurd (h x (.head _)) (Nat.not_lt_zero _)
  | n + 1, l, hd, h => by
    have h1 := nodup_le n (l.erase n) (hd.erase n) (fun x hx => by
      have h2 := h x (List.mem_of_mem_erase hx)
      have h3 : x ≠ n := fun e => by subst e; exact absurd hx hd.not_mem_erase
      omega)
    have h4 : l.length - 1 ≤ (l.erase n).length := by rw [List.length_erase]; split <;> omega
    omega
end Go.Proofs.YthoogkpiacopiaaDoor
namespace Go.Proofs.YthoogkpiacopiaaDoor
open Go.RowKit Go.Shelf
/-- Pairs in memory: what leads to each. -/
structure TwA (W : World) (a : Option Addr) (l : List Mt) : Prop where
  at' : ∀ k, k < l.length → ∃ b off, a = some ⟨b, off, none⟩ ∧ b < W.heap.size ∧ W.cell? ⟨b, off + k * 4 + 2, none⟩ = some (.int .i64 (if k = 0 then -1 else ((l.getD k default).fr : Int))) ∧ W.cell? ⟨b, off + k * 4 + 3, none⟩ = some (.int .i64 ((l.getD k default).sy : Int))
theorem TwA.past {W W' : World} {a : Option Addr} {l : List Mt} (h : TwA W a l) (hb : Below W.heap.size W W') : TwA W' a l := ⟨fun k hk => by
  obtain ⟨b, off, e, h1, h2, h3⟩ := h.at' k hk
  exact ⟨b, off, e, Nat.lt_of_lt_of_le h1 hb.size, (hb.cell (p := ⟨b, off + k * 4 + 2, none⟩) h1).trans h2, (hb.cell (p := ⟨b, off + k * 4 + 3, none⟩) h1).trans h3⟩⟩
theorem Met.len {T : Two} {l : List Mt} {W : Nat → List Nat} (h : Met T l W) : ∀ k, k < l.length → (W k).length ≤ k := by
  intro k
  induction k using Nat.strongRecOn with
  | _ k ih =>
    intro hk
    by_cases h0 : k = 0
    · subst h0; rw [h.z.1]; simp
    · obtain ⟨h1, _, h3, _⟩ := h.st k (by omega) hk
      have := ih _ h1 (by omega)
      rw [h3, List.length_append, List.length_singleton]
      omega
set_option maxRecDepth 10000 in
set_option maxHeartbeats 800000 in
theorem refWord_any (T : Two) (l : List Mt) (Wd : Nat → List Nat) (a : Option Addr) (c i : Nat) (w : World) (hm : Met T l Wd) (hl : l.length ≤ 1000000000000) (ha : TwA w a l) (hil : i < l.length) :
    Calls Tryd.prog 36 #[.slice a l.length c, .int .i64 (i : Int)] w fun e w' => ∃ v, e = .returned v ∧ OwnI w' w.heap.size v (nums (Wd i)) ∧ Below w.heap.size w w' := by
  obtain ⟨i0, hi, hz0, hz1, hz2⟩ := info_parts infoInt
  have HA := hid0 ha
  have HM := hid0 hm
  clear ha hm
  go_enter Tryd.func36, Tryd.ntmps36
  go_wp2
  go_loopw [5, 6] (fun v k wr => ∃ (j : Nat) (acc : List Nat), j ≤ i ∧ acc.length + j ≤ i ∧ k = .int .i64 (j : Int) ∧ Hid (Wd i = Wd j ++ acc.reverse) ∧ Hid (OwnI wr w.heap.size v (nums acc)) ∧ Hid (Below w.heap.size w wr)) (fun _ k _ => (intOf k).toNat)
  case atStart => exact ⟨i, [], Nat.le_refl _, by simp, rfl, hid0 (by simp), hid0 (World.ownsRow_nil _ _ _ _), hid0 (Below.refl _ _)⟩
  case round =>
    obtain ⟨j, acc, hj, hacc, rfl, HW, HO, HB⟩ := hrel
    have hjl : j < l.length := by omega
    obtain ⟨b, off, rfl, _, d2, d3⟩ := (HA.out.past HB.out).at' j hjl
    have hjI : (j : Int) < (l.length : Int) := by omega
    have hjI0 : (0 : Int) ≤ (j : Int) := by omega
    have hsz := HB.out.size
    by_cases h0 : j = 0
    · have HE : Hid (Wd i = acc.reverse) := hid0 (by rw [HW.out, h0, HM.out.z.1]; rfl)
      rw [if_pos h0] at d2
      clear h0
      obtain ⟨av, cv, ev, hia⟩ := HO.out.ia
      have HIa := hid0 hia
      subst ev
      clear hia
      have hln : (nums acc).length ≤ 1000000000000 := by unfold nums; rw [List.length_map]; omega
      have HN : Hid ((nums acc).reverse = nums (Wd i)) := hid0 (by rw [HE.out]; unfold nums; rw [List.map_reverse])
      generalize nums acc = Y at *
      obtain ⟨wo, hwo⟩ : ∃ wo, wo = wr := ⟨_, rfl⟩
      subst hwo
      go_wp2
      go_loopw [7, 8] (fun v k w2 => ∃ q : Nat, q ≤ Y.length ∧ k = .int .i64 ((q : Int) - 1) ∧ Hid (OwnI w2 wo.heap.size v (Y.drop q).reverse) ∧ Hid (Below wo.heap.size wo w2)) (fun _ k _ => (intOf k + 1).toNat)
      case atStart => exact ⟨Y.length, Nat.le_refl _, rfl, hid0 (by rw [List.drop_length]; exact World.ownsRow_nil _ _ _ _), hid0 (Below.refl _ _)⟩
      case round =>
        obtain ⟨q, hq, rfl, HO2, HB2⟩ := hrel
        by_cases hq0 : q = 0
        · subst hq0
          go_wp2
          go_ret
          exact ⟨_, rfl, owns_lower (by have h := HO2.out; rw [List.drop_zero, HN.out] at h; exact h) hsz, Below.later HB.out HB2.out⟩
        · obtain ⟨r, rfl⟩ : ∃ r, q = r + 1 := ⟨q - 1, by omega⟩
          have hrl : r < Y.length := by omega
          obtain ⟨b4, off4, rfl, _, d4⟩ := (HIa.out.past HB2.out).at' r hrl
          have hrI : (r : Int) < (Y.length : Int) := by omega
          have hrI0 : (0 : Int) ≤ (r : Int) := by omega
          have hsz2 := HB2.out.size
          have HD : Hid ((Y.drop r).reverse = (Y.drop (r + 1)).reverse ++ [Y[r]]) := hid0 (by rw [List.drop_eq_getElem_cons hrl, List.reverse_cons])
          have hll : (Y.drop (r + 1)).reverse.length ≤ 1000000000000 := by rw [List.length_reverse, List.length_drop]; omega
          generalize Y[r] = x at *
          obtain ⟨av3, cv3, ev3, _⟩ := HO2.out.ia
          subst ev3
          have ej : ((r + 1 : Nat) : Int) - 1 = (r : Int) := by omega
          rw [ej]
          generalize (Y.drop (r + 1)).reverse = X at *
          go_wp2_with (at_builtin; go_loud ((
            refine wpList_append_own_at _ rfl _ _ 25 rfl wo.heap.size 3 i0 (.int .i64 0) 1 8 Tryd.underlying25 hi hz0 hz1 hz2 rfl (by decide) _ X.length (X.map (Value.int .i64)) rfl (World.ownsRow.alloc HO2.out _) ⟨wr.heap.size, 0, none⟩ 1 1 [.int .i64 x] rfl rfl (cell_one_new _ _ _) (by simp [Value.oneCell']) (by unfold maxLen; omega) (by omega) (by simp; omega) ?_
            intro v2 w3 hown2 hgrow2 _ _
            have R := ownI_snoc rfl HO2.out hown2 hgrow2 HB2.out (Nat.le_refl _)
            have HO3 := hid0 R.1
            have HB3 := hid0 R.2
            obtain ⟨av2, cv2, ev2, _⟩ := R.1.ia
            rw [List.length_append, List.length_singleton] at ev2
            subst ev2
            clear R hown2 hgrow2)))
          go_roundw
          case rel => exact ⟨r, by omega, by go_num, hid0 (by rw [HD.out]; exact HO3.out), HB3⟩
          case measure => simp [intOf]
    · have hj0 : ((l.getD j default).fr : Int) ≥ 0 := by omega
      rw [if_neg h0] at d2
      obtain ⟨s1, s2, s3, _, _⟩ := HM.out.st j (by omega) hjl
      have HW2 : Hid (Wd i = Wd (l.getD j default).fr ++ (acc ++ [(l.getD j default).sy]).reverse) := hid0 (by rw [HW.out, s3, List.reverse_append, List.append_assoc]; rfl)
      have HN : Hid (nums (acc ++ [(l.getD j default).sy]) = nums acc ++ [((l.getD j default).sy : Int)]) := hid0 (by unfold nums; rw [List.map_append]; rfl)
      have hln : (nums acc).length ≤ 1000000000000 := by unfold nums; rw [List.length_map]; omega
      have HD5 : Hid (∀ V, Below w.heap.size w V → V.cell? ⟨b, off + j * 4 + 2, none⟩ = some (.int .i64 ((l.getD j default).fr : Int))) := hid0 (fun V hV => by
        obtain ⟨b5, off5, e5, _, d5, _⟩ := (HA.out.past hV).at' j hjl
        cases e5
        rw [if_neg h0] at d5
        exact d5)
      obtain ⟨av, cv, ev, _⟩ := HO.out.ia
      subst ev
      generalize (l.getD j default).fr = f at *
      generalize (l.getD j default).sy = y at *
      generalize hX : nums acc = X at *
      clear h0 s2 s3
      go_wp2_with (at_builtin; go_loud ((
        refine wpList_append_own_at _ rfl _ _ 25 rfl w.heap.size 3 i0 (.int .i64 0) 1 8 Tryd.underlying25 hi hz0 hz1 hz2 rfl (by decide) _ X.length (X.map (Value.int .i64)) rfl (World.ownsRow.alloc HO.out _) ⟨wr.heap.size, 0, none⟩ 1 1 [.int .i64 (y : Int)] rfl rfl (cell_one_new _ _ _) (by simp [Value.oneCell']) (by unfold maxLen; omega) (by omega) (by simp; omega) ?_
        intro v2 w3 hown2 hgrow2 _ _
        have R := ownI_snoc rfl HO.out hown2 hgrow2 HB.out (Nat.le_refl _)
        have HO3 := hid0 R.1
        have HB3 := hid0 R.2
        obtain ⟨av2, cv2, ev2, _⟩ := R.1.ia
        rw [List.length_append, List.length_singleton] at ev2
        subst ev2
        have d5 := HD5.out _ R.2
        clear R hown2 hgrow2)))
      go_roundw
      case rel => exact ⟨f, acc ++ [y], by omega, by rw [List.length_append, List.length_singleton]; omega, rfl, HW2, hid0 (by rw [HN.out]; exact HO3.out), HB3⟩
      case measure => simpa [intOf] using s1
end Go.Proofs.YthoogkpiacopiaaDoor
namespace Go.Proofs.YthoogkpiacopiaaDoor
open Go.RowKit Go.Shelf
theorem app_nilI (w : World) (ty : TypeId) : (Builtin.append_ #[25, 25] ty #[.slice none 0 0, .slice none 0 0]).run Tryd.prog w = .ok (.slice none 0 0) w := by
  go_simp
theorem wpList_spreadI {ops : Array Oper} {rest : List Oper} {op : Oper} {a : Act} {w : World} {Q : Exit → Act → World → Prop} (hgd : op.guard = none) (s x : Operand) (ho : op.op = .call { callee := .builtin .append, args := #[s, x], argTypes := #[25, 25] })
    (aN : Option Addr) (L : List Int) (cN base : Nat) (hs : a.eval s = .slice none 0 0) (hx : a.eval x = .slice aN L.length cN) (hnil : aN = none → cN = 0) (ha : IA w aN L) (hl : L.length ≤ 17592186044416) (hb : base ≤ w.heap.size)
    (h : ∀ v' w', OwnI w' base v' L → w.grownBy w' none → wpList Tryd.prog ops Q rest (a.put op.dst v') w') : wpList Tryd.prog ops Q (op :: rest) a w := by
  obtain ⟨i0, hi, hz0, hz1, hz2⟩ := info_parts infoInt
  cases aN with
  | none =>
    have hL : L = [] := by
      cases L with
      | nil => rfl
      | cons y r => obtain ⟨b, off, e, _⟩ := ha.at' 0 (by simp); cases e
    subst hL
    have hc := hnil rfl
    subst hc
    refine wpList_plain hgd fun K hK => ?_
    have hr := app_nilI w op.type
    unfold Oper.wp execOp
    simp only [ho, resolve, invoke, builtin, Sem.run_bind, Sem.run_pure, Result.andThen_ok, List.map_toArray, List.map_cons, List.map_nil, hs, hx, List.length_nil, hr]
    exact hK _ _ (h _ _ (World.ownsRow_nil _ _ _ _) ⟨rfl, rfl, rfl, Nat.le_refl _, fun _ _ _ => rfl⟩)
  | some ad =>
    refine wpList_append_own _ hgd s x 25 ho base 3 i0 (.int .i64 0) 1 8 Tryd.underlying25 hi hz0 hz1 hz2 rfl (by decide) (.slice none 0 0) 0 [] hs (World.ownsRow_nil _ _ _ _) ad L.length cN (L.map (Value.int .i64)) hx (by simp) (fun j u hu => ?_) (fun u hu => by obtain ⟨y, _, rfl⟩ := List.mem_map.1 hu; rfl) (by unfold maxLen; omega) (by omega) hb (fun v' w' h1 h2 _ => h v' w' (by rw [Nat.zero_add, List.nil_append] at h1; exact h1) h2)
    have hj : j < L.length := by have := (List.getElem?_eq_some_iff.1 hu).1; simpa using this
    obtain ⟨b, off, e, h1, h2⟩ := ha.at' j hj
    cases e
    rw [Addr.add_mid, h2]
    have : (L.map (Value.int .i64))[j]? = some (.int .i64 L[j]) := by simp [hj]
    rw [this] at hu
    exact hu
/-- Lists that are handed in: those without memory have no room. -/
structure RwN (w : World) (a : Option Addr) (L : List (List Int)) : Prop where
  at' : ∀ k (h : k < L.length), ∃ b off, a = some ⟨b, off, none⟩ ∧ b < w.heap.size ∧ ∃ a1 c1, w.cell? ⟨b, off + k, none⟩ = some (.slice a1 (L[k]).length c1) ∧ IA w a1 L[k] ∧ (a1 = none → c1 = 0)
theorem RwN.rwa {w : World} {a : Option Addr} {L : List (List Int)} (h : RwN w a L) : RwA w a L := ⟨fun k hk => by
  obtain ⟨b, off, e, h1, a1, c1, h2, h3, _⟩ := h.at' k hk
  exact ⟨b, off, e, h1, a1, c1, h2, h3⟩⟩
theorem RwN.past {w w' : World} {a : Option Addr} {L : List (List Int)} (h : RwN w a L) (hb : Below w.heap.size w w') : RwN w' a L := ⟨fun k hk => by
  obtain ⟨b, off, rfl, h1, a1, c1, h2, h3, h4⟩ := h.at' k hk
  exact ⟨b, off, rfl, Nat.lt_of_lt_of_le h1 hb.size, a1, c1, (hb.cell (p := ⟨b, off + k, none⟩) h1).trans h2, h3.past hb, h4⟩⟩
set_option maxRecDepth 10000 in
set_option maxHeartbeats 1600000 in
theorem rows_any (L : List (List Int)) (a : Option Addr) (cap : Nat) (w : World) (hl : L.length ≤ 2000000) (hr : ∀ r ∈ L, r.length ≤ 2000000) (ha : RwN w a L) :
    Calls Tryd.prog 29 #[.slice a L.length cap] w fun r w' => ∃ G c, r = .returned (.slice (some ⟨G, 0, none⟩) L.length c) ∧ Tz w' w.heap.size G c L ∧ Below w.heap.size w w' := by
  obtain ⟨i0, hi, hz0, hz1, hz2⟩ := info_parts infoInts
  obtain ⟨j0, hj, hy0, hy1, hy2⟩ := info_parts infoInt
  have HA := hid0 ha
  have HR := hid0 hr
  clear ha hr
  go_enter Tryd.func29, Tryd.ntmps29
  go_wp2
  go_loopw [3, 4] (fun v i wr => ∃ (k : Nat) (qs : Lz), k ≤ L.length ∧ i = .int .i64 (k : Int) ∧ Hid (Fits qs (L.take k) 0) ∧ Hid (qs.length = k) ∧ Hid (Pz wr w.heap.size v qs) ∧ Hid (Below w.heap.size w wr)) (fun _ i _ => L.length - (intOf i).toNat)
  case atStart => exact ⟨0, [], Nat.zero_le _, rfl, hid0 rfl, hid0 rfl, hid0 (Pz.nil _ _), hid0 (Below.refl _ _)⟩
  case round =>
    obtain ⟨wo, hwo⟩ : ∃ wo, wo = wr := ⟨_, rfl⟩
    subst hwo
    obtain ⟨k, qs, hk, rfl, HF, HK, HP, HB⟩ := hrel
    have hbs := HB.out.size
    by_cases hlt : k < L.length
    · obtain ⟨b, off, rfl, _, a1, c1, d1, i1, n1⟩ := (HA.out.past HB.out).at' k hlt
      have hkI : (k : Int) < (L.length : Int) := by omega
      have hkI0 : (0 : Int) ≤ (k : Int) := by omega
      have HTK : Hid (L.take (k + 1) = L.take k ++ [L[k]]) := hid0 (by rw [List.take_add_one, List.getElem?_eq_getElem hlt]; rfl)
      have hsl := HR.out _ (List.getElem_mem hlt)
      have HI1 := hid0 i1
      have HN1 := hid0 n1
      have HD1 : Hid (∀ V : World, Below wo.heap.size wo V → V.cell? ⟨b, off + k, none⟩ = some (.slice a1 (L[k]).length c1)) := hid0 (fun V hV => (hV.cell (p := ⟨b, off + k, none⟩) (World.block_lt_of_cell? _ _ d1)).trans d1)
      clear i1 n1
      generalize L[k] = s at *
      have HOO : Hid (wo.ownsRow w.heap.size 25 1 u3 k (qs.map (·.1))) := hid0 (by have h := HP.out.outer; rw [HK.out] at h; exact h)
      go_wp2_with (at_builtin; refine wpList_spreadI rfl _ _ rfl a1 s c1 wo.heap.size rfl rfl HN1.out HI1.out (by omega) (Nat.le_refl _) ?_; intro v1 w1 hown1 hgrow1; have HO1 := hid0 hown1; have HB1 := hid0 ((Below.refl wo.heap.size wo).grown hgrow1 (Nat.le_refl _) (fun k hk => by cases hk)); clear hown1 hgrow1)
      go_loopw [5, 6] (fun v i wr => ∃ m : Nat, m ≤ 64 ∧ i = .int .i64 (m : Int) ∧ Hid (OwnI wr wo.heap.size v (s ++ List.replicate m (-77))) ∧ Hid (Below wo.heap.size wo wr)) (fun _ i _ => 64 - (intOf i).toNat)
      case atStart => exact ⟨0, Nat.zero_le _, rfl, hid0 (by rw [List.replicate_zero, List.append_nil]; exact HO1.out), HB1⟩
      case round =>
        obtain ⟨m, hm, rfl, HO2, HB2⟩ := hrel
        have hs2 := HB2.out.size
        by_cases hm64 : m < 64
        · have hmI : (m : Int) < 64 := by omega
          have HE : Hid (s ++ List.replicate (m + 1) (-77) = (s ++ List.replicate m (-77)) ++ [(-77 : Int)]) := hid0 (by rw [List.replicate_succ', List.append_assoc])
          have hxl : (s ++ List.replicate m (-77 : Int)).length ≤ 3000000 := by rw [List.length_append, List.length_replicate]; omega
          obtain ⟨av, cv, ev, _⟩ := HO2.out.ia
          subst ev
          generalize (s ++ List.replicate m (-77 : Int)) = X at *
          go_wp2_with (at_builtin; go_loud ((
            refine wpList_append_own_at _ rfl _ _ 25 rfl wo.heap.size 3 j0 (.int .i64 0) 1 8 Tryd.underlying25 hj hy0 hy1 hy2 rfl (by decide) _ X.length (X.map (Value.int .i64)) rfl (World.ownsRow.alloc HO2.out _) ⟨wr.heap.size, 0, none⟩ 1 1 [.int .i64 (-77)] rfl rfl (cell_one_new _ _ _) (by simp [Value.oneCell']) (by unfold maxLen; omega) (by omega) (by simp; omega) ?_
            intro v2 w3 hown2 hgrow2 _ _
            have R := ownI_snoc rfl HO2.out hown2 hgrow2 HB2.out (Nat.le_refl _)
            have HO3 := hid0 R.1
            have HB3 := hid0 R.2
            obtain ⟨av2, cv2, ev2, _⟩ := R.1.ia
            rw [List.length_append, List.length_singleton] at ev2
            subst ev2
            clear R hown2 hgrow2)))
          go_roundw
          case rel => exact ⟨m + 1, by omega, by go_num, hid0 (by rw [HE.out]; exact HO3.out), HB3⟩
          case measure => simp [intOf]; omega
        · have hmI : ¬ (m : Int) < 64 := by omega
          obtain rfl : m = 64 := by omega
          have hO4 : OwnI wr wo.heap.size u5 (s ++ m77) := HO2.out
          have hl77 : (s ++ m77).length = s.length + 64 := by rw [List.length_append]; simp [m77]
          obtain ⟨g, c, e5, hg1, hg2, hg3⟩ := own_form hO4 (by omega)
          subst e5
          have HO4 := hid0 hO4
          have d2 := HD1.out wr HB2.out
          rw [hl77] at hg3
          have HL77 := hid0 hl77
          have hcapI : (s.length : Int) ≤ (c : Int) := by omega
          clear hO4 HO2
          rw [hl77]
          clear hl77
          go_wp2_with (at_builtin; go_loud ((
            refine wpList_append_own_at _ rfl _ _ 22 rfl w.heap.size 25 i0 (.slice none 0 0) 1 24 Tryd.underlying22 hi hz0 hz1 hz2 rfl (by decide) _ k (qs.map (·.1)) rfl (World.ownsRow.alloc (row_later HOO.out HB2.out) _) ⟨wr.heap.size, 0, none⟩ 1 1 [.slice (some ⟨g, 0, none⟩) s.length c] rfl rfl (cell_one_new _ _ _) (by simp [Value.oneCell']) (by unfold maxLen; omega) (by omega) (by simp; omega) ?_
            intro v2 w3 hown2 hgrow2 _ _
            have R := Pz.snoc HK.out.symm HP.out HB2.out (by have := HL77.out; omega) HO4.out hbs hown2 hgrow2 HB.out
            have HP3 := hid0 R.1
            have HB3 := hid0 R.2
            clear R hown2 hgrow2)))
          have HF3 : Hid (Fits (qs ++ [(Value.slice (some ⟨g, 0, none⟩) s.length c, s.length, s ++ m77)]) (L.take (k + 1)) 0) := hid0 (by rw [HTK.out]; exact HF.out.snoc)
          have HK3 : Hid ((qs ++ [(Value.slice (some ⟨g, 0, none⟩) s.length c, s.length, s ++ m77)]).length = k + 1) := hid0 (by rw [List.length_append, HK.out]; rfl)
          clear HP HB HF HK HOO HTK
          go_roundw
          case rel => exact ⟨k + 1, _, by omega, by go_num, HF3, HK3, HP3, HB3⟩
          case measure => simp [intOf]; omega
    · have hkI : ¬ (k : Int) < (L.length : Int) := by omega
      have HF2 : Hid (Fits qs L 0) := hid0 (by have h := HF.out; rw [List.take_of_length_le (by omega)] at h; exact h)
      have hkL : k = L.length := by omega
      have HKL := hid0 hkL
      clear HF hkL
      go_wp2
      go_loopw [3, 7] (fun v i wr => ∃ (m : Nat) (qs : Lz), m ≤ 64 ∧ i = .int .i64 (m : Int) ∧ Hid (Fits qs L m) ∧ Hid (Pz wr w.heap.size v qs) ∧ Hid (Below w.heap.size w wr)) (fun _ i _ => 64 - (intOf i).toNat)
      case atStart => exact ⟨0, qs, Nat.zero_le _, rfl, HF2, HP, HB⟩
      case round =>
        clear HF2 HP HB HK
        obtain ⟨m, qs, hm, rfl, HF, HP, HB⟩ := hrel
        have hbs := HB.out.size
        have hql := HF.out.len
        by_cases hm64 : m < 64
        · have hmI : (m : Int) < 64 := by omega
          obtain ⟨w5, hw5⟩ : ∃ w5, w5 = wr.alloc (.cells #[.int .i64 (-78)] 3) := ⟨_, rfl⟩
          have hb5 : Below wr.heap.size wr w5 := by rw [hw5]; exact (Below.refl _ _).alloc (Nat.le_refl _) _
          have HO5 : Hid (OwnI w5 wr.heap.size (.slice (some ⟨wr.heap.size, 0, none⟩) 1 1) [-78]) := hid0 (by rw [hw5]; exact ⟨rfl, .inr ⟨wr.heap.size, 1, _, rfl, Nat.le_refl _, heap_alloc_new wr _, Nat.le_refl _, by decide, rfl, rfl⟩⟩)
          have HB5 := hid0 hb5
          have hs5 := hb5.size
          have hf5 := hw5.symm
          have HQL := hid0 hql
          clear hw5 hb5
          obtain ⟨n, hn⟩ : ∃ n, n = qs.length := ⟨_, rfl⟩
          have hnb : n ≤ 3000000 := by omega
          have HN := hid0 hn
          have HOO : Hid (w5.ownsRow w.heap.size 25 1 u3 n (qs.map (·.1))) := hid0 (by rw [hn]; exact row_later HP.out.outer HB5.out)
          clear hql hn
          go_wp2_with (at_builtin; go_loud ((
            refine wpList_append_own_at _ rfl _ _ 22 rfl w.heap.size 25 i0 (.slice none 0 0) 1 24 Tryd.underlying22 hi hz0 hz1 hz2 rfl (by decide) _ n (qs.map (·.1)) rfl (World.ownsRow.alloc HOO.out _) ⟨w5.heap.size, 0, none⟩ 1 1 [.slice (some ⟨wr.heap.size, 0, none⟩) 1 1] rfl rfl (cell_one_new _ _ _) (by simp [Value.oneCell']) (by unfold maxLen; omega) (by omega) (by simp; omega) ?_
            intro v2 w6 hown2 hgrow2 _ _
            have R := Pz.snoc (r := [-78]) (m := 1) HN.out HP.out HB5.out (Nat.le_refl _) HO5.out hbs hown2 hgrow2 HB.out
            have HP3 := hid0 R.1
            have HB3 := hid0 R.2
            clear R hown2 hgrow2)))
          go_roundw
          case rel => exact ⟨m + 1, _, by omega, by go_num, hid0 HF.out.more, HP3, HB3⟩
          case measure => simp [intOf]; omega
        · have hmI : ¬ (m : Int) < 64 := by omega
          obtain rfl : m = 64 := by omega
          obtain ⟨G, c, e3, hg1, hg2, hg3⟩ := own_form HP.out.outer (by omega)
          rw [hql] at hg3 e3
          subst e3
          have HTz : Hid (Tz wr w.heap.size G c L) := hid0 ⟨qs, HP.out, HF.out⟩
          have hcapI : (L.length : Int) ≤ (c : Int) := by omega
          clear hql
          go_wp2
          go_ret
          exact ⟨G, c, rfl, HTz.out, HB.out⟩
end Go.Proofs.YthoogkpiacopiaaDoor
namespace Go.Proofs.YthoogkpiacopiaaDoor
open Go.RowKit Go.Shelf
theorem make_ints (n : Nat) (w : World) (hn : n ≤ 100000000000) : ∃ w', (Instr.makeSlice 25 (.int .i64 (n : Int)) (.int .i64 (n : Int))).run Tryd.prog w = .ok (.slice (some ⟨w.heap.size, 0, none⟩) n n) w' ∧ Ov w' w.heap.size n (fun _ => 0) ∧ w'.heap.size = w.heap.size + 1 ∧ Below w.heap.size w w' := by
  obtain ⟨i, hi, hz0, hz1, hz2⟩ := info_parts infoInt
  have hr := run_make (P := Tryd.prog) w 25 3 i (.int .i64 0) Tryd.underlying25 hi hz0 .i64 .i64 n n (by omega) (by omega) (by rw [hz2]; omega) (by omega)
  have e2 : ((n : Int)).toNat = n := Int.toNat_natCast n
  simp only [e2, hz1] at hr
  refine ⟨_, hr, ⟨?_⟩, by simp, (Below.refl _ _).alloc (Nat.le_refl _) _⟩
  refine (heap_alloc_new w _).trans ?_
  congr 2
  apply Array.ext
  · rw [size_madeCells]; simp [ovF]
  · intro k h1 h2
    simp [madeCells, ovF, Value.cells, Nat.mod_one]
theorem Ov.congr {W : World} {G n : Nat} {p q : Nat → Nat} (h : Ov W G n p) (e : ∀ s, s < n → p s = q s) : Ov W G n q := ⟨by
  have : ovF n p = ovF n q := by
    unfold ovF
    exact List.map_congr_left (fun s hs => by rw [e s (List.mem_range.1 hs)])
  rw [← this]
  exact h.blk⟩
set_option maxRecDepth 10000 in
set_option maxHeartbeats 1600000 in
theorem newWalk_any (s0 s1 : Int) (aN aO aM aP : Option Addr) (na nb nO nP cN cO cM cP : Nat) (w : World) (hbig : na + nb ≤ 100000000000) :
    Calls Tryd.prog 31 #[.agg #[.int .i64 s0, .slice aN na cN, .slice aO nO cO], .agg #[.int .i64 s1, .slice aM nb cM, .slice aP nP cP]] w fun e w' => ∃ X, e = .returned (.pointer (some ⟨X, 0, none⟩)) ∧ (∃ G B, Wk w' w.heap.size X G B (na + nb) (.int .i64 s0) (.slice aN na cN) (.slice aO nO cO) (.int .i64 s1) (.slice aM nb cM) (.slice aP nP cP) (.slice none 0 0) (fun s => s) []) ∧ Below w.heap.size w w' := by
  obtain ⟨w0, hw0⟩ : ∃ w0, w0 = (w.alloc (.cells #[.int .i64 s0, .slice aN na cN, .slice aO nO cO] 24)).alloc (.cells #[.int .i64 s1, .slice aM nb cM, .slice aP nP cP] 24) := ⟨_, rfl⟩
  have hB0 : Below w.heap.size w w0 := by rw [hw0]; exact ((Below.refl _ _).alloc (Nat.le_refl _) _).alloc (by simp) _
  have hsz0 : w0.heap.size = w.heap.size + 1 + 1 := by rw [hw0]; simp
  have hb0 : w0.heap[w.heap.size + 1]? = some (.cells #[.int .i64 s1, .slice aM nb cM, .slice aP nP cP] 24 (0, 0)) := by
    have h := heap_alloc_new (w.alloc (.cells #[.int .i64 s0, .slice aN na cN, .slice aO nO cO] 24)) (.cells #[.int .i64 s1, .slice aM nb cM, .slice aP nP cP] 24)
    rw [← hw0] at h
    simpa using h
  have ha0 : w0.heap[w.heap.size]? = some (.cells #[.int .i64 s0, .slice aN na cN, .slice aO nO cO] 24 (0, 0)) := by
    rw [hw0, Below.heap_alloc _ _ _ (by simp)]
    exact heap_alloc_new w _
  have HSt : Hid (∀ V : World, Below w0.drew.heap.size w0.drew V → V.cell? ⟨w.heap.size, 0, none⟩ = some (.int .i64 s0) ∧ V.cell? ⟨w.heap.size, 1, none⟩ = some (.slice aN na cN) ∧ V.cell? ⟨w.heap.size, 2, none⟩ = some (.slice aO nO cO) ∧ V.cell? ⟨w.heap.size + 1, 0, none⟩ = some (.int .i64 s1) ∧ V.cell? ⟨w.heap.size + 1, 1, none⟩ = some (.slice aM nb cM) ∧ V.cell? ⟨w.heap.size + 1, 2, none⟩ = some (.slice aP nP cP)) := hid0 (fun V hV => by
    have h1 := (hV.block w.heap.size (by show w.heap.size < w0.heap.size; omega)).trans ha0
    have h2 := (hV.block (w.heap.size + 1) (by show w.heap.size + 1 < w0.heap.size; omega)).trans hb0
    refine ⟨?_, ?_, ?_, ?_, ?_, ?_⟩
    · rw [cell_of_row _ _ _ _ _ _ h1]; rfl
    · rw [cell_of_row _ _ _ _ _ _ h1]; rfl
    · rw [cell_of_row _ _ _ _ _ _ h1]; rfl
    · rw [cell_of_row _ _ _ _ _ _ h2]; rfl
    · rw [cell_of_row _ _ _ _ _ _ h2]; rfl
    · rw [cell_of_row _ _ _ _ _ _ h2]; rfl)
  obtain ⟨n, hn⟩ : ∃ n, n = na + nb := ⟨_, rfl⟩
  have hnI : (na : Int) + (nb : Int) = (n : Int) := by omega
  have hnW : IntKind.i64.wrap (n : Int) = (n : Int) := by simp [IntKind.wrap, IntKind.bits, IntKind.signed]; omega
  have hnb : n ≤ 100000000000 := by omega
  rw [← hn]
  have HB0 := hid0 hB0
  have HZ0 := hid0 hsz0
  have hfold := hw0.symm
  clear hw0 hB0 hsz0 hb0 ha0 hn hbig
  go_enter Tryd.func31, Tryd.ntmps31
  go_wp2
  refine wp_region_noPanic ?_
  refine wp_region_held_drew (S := (fun V => V.cell? ⟨w.heap.size, 0, none⟩ = some (.int .i64 s0) ∧ V.cell? ⟨w.heap.size, 1, none⟩ = some (.slice aN na cN) ∧ V.cell? ⟨w.heap.size, 2, none⟩ = some (.slice aO nO cO) ∧ V.cell? ⟨w.heap.size + 1, 0, none⟩ = some (.int .i64 s1) ∧ V.cell? ⟨w.heap.size + 1, 1, none⟩ = some (.slice aM nb cM) ∧ V.cell? ⟨w.heap.size + 1, 2, none⟩ = some (.slice aP nP cP))) (by kernel_rfl) ?_ (fun hHeld => ?_)
  · exact HSt.out w0.drew (Below.refl _ _)
  refine tkV (i := 0) (d := some 7) (v := ?_) rfl (by kernel_rfl) (by kernel_rfl) (by kernel_rfl) rfl (fun _ _ _ h => h) (by rfl) ?_ (by assumption) ?_
  rotate_left
  · (intro w hSw; (try dsimp only at hSw); (try simp only [List.getElem_toArray, List.getElem_cons_zero]); go_simp; try with_reducible rfl)
  try simp only [Act.put, List.setIfInBounds_toArray, List.set_cons_zero, List.set_cons_succ]
  refine tkV (i := 1) (d := some 8) (v := ?_) rfl (by kernel_rfl) (by kernel_rfl) (by kernel_rfl) rfl (fun _ _ _ h => h) (by rfl) ?_ (by assumption) ?_
  rotate_left
  · (intro w hSw; (try dsimp only at hSw); (try simp only [List.getElem_toArray, List.getElem_cons_zero, List.getElem_cons_succ]); go_simp; try with_reducible rfl)
  try simp only [Act.put, List.setIfInBounds_toArray, List.set_cons_zero, List.set_cons_succ]
  refine tkV (i := 2) (d := some 9) (v := ?_) rfl (by kernel_rfl) (by kernel_rfl) (by kernel_rfl) rfl (fun _ _ _ h => h) (by rfl) ?_ (by assumption) ?_
  rotate_left
  · (intro w hSw; (try dsimp only at hSw); (try simp only [List.getElem_toArray, List.getElem_cons_zero, List.getElem_cons_succ]); go_simp; try with_reducible rfl)
  try simp only [Act.put, List.setIfInBounds_toArray, List.set_cons_zero, List.set_cons_succ]
  refine tkV (i := 3) (d := some 10) (v := ?_) rfl (by kernel_rfl) (by kernel_rfl) (by kernel_rfl) rfl (fun _ _ _ h => h) (by rfl) ?_ (by assumption) ?_
  rotate_left
  · (intro w hSw; (try dsimp only at hSw); (try simp only [List.getElem_toArray, List.getElem_cons_zero, List.getElem_cons_succ]); go_simp; try with_reducible rfl)
  try simp only [Act.put, List.setIfInBounds_toArray, List.set_cons_zero, List.set_cons_succ]
  refine tkV (i := 4) (d := some 11) (v := ?_) rfl (by kernel_rfl) (by kernel_rfl) (by kernel_rfl) rfl (fun _ _ _ h => h) (by rfl) ?_ (by assumption) ?_
  rotate_left
  · (intro w hSw; (try dsimp only at hSw); (try simp only [List.getElem_toArray, List.getElem_cons_zero, List.getElem_cons_succ]); go_simp; try with_reducible rfl)
  try simp only [Act.put, List.setIfInBounds_toArray, List.set_cons_zero, List.set_cons_succ]
  refine tkV (i := 5) (d := some 12) (v := ?_) rfl (by kernel_rfl) (by kernel_rfl) (by kernel_rfl) rfl (fun _ _ _ h => h) (by rfl) ?_ (by assumption) ?_
  rotate_left
  · (intro w hSw; (try dsimp only at hSw); (try simp only [List.getElem_toArray, List.getElem_cons_zero, List.getElem_cons_succ]); go_simp; try with_reducible rfl)
  try simp only [Act.put, List.setIfInBounds_toArray, List.set_cons_zero, List.set_cons_succ]
  refine tkV (i := 6) (d := some 13) (v := ?_) rfl (by kernel_rfl) (by kernel_rfl) (by kernel_rfl) rfl (fun _ _ _ h => h) (by rfl) ?_ (by assumption) ?_
  rotate_left
  · (intro w hSw; (try dsimp only at hSw); (try simp only [List.getElem_toArray, List.getElem_cons_zero, List.getElem_cons_succ]); go_simp; try with_reducible rfl)
  try simp only [Act.put, List.setIfInBounds_toArray, List.set_cons_zero, List.set_cons_succ]
  refine tkV (i := 7) (d := some 14) (v := ?_) rfl (by kernel_rfl) (by kernel_rfl) (by kernel_rfl) rfl (fun _ _ _ h => h) (by rfl) ?_ (by assumption) ?_
  rotate_left
  · (intro w hSw; (try dsimp only at hSw); (try simp only [List.getElem_toArray, List.getElem_cons_zero, List.getElem_cons_succ]); go_simp; try with_reducible rfl)
  try simp only [Act.put, List.setIfInBounds_toArray, List.set_cons_zero, List.set_cons_succ]
  refine tkV (i := 8) (d := some 15) (v := ?_) rfl (by kernel_rfl) (by kernel_rfl) (by kernel_rfl) rfl (fun _ _ _ h => h) (by rfl) ?_ (by assumption) ?_
  rotate_left
  · (intro w hSw; (try dsimp only at hSw); (try simp only [List.getElem_toArray, List.getElem_cons_zero, List.getElem_cons_succ]); go_simp; try with_reducible rfl)
  try simp only [Act.put, List.setIfInBounds_toArray, List.set_cons_zero, List.set_cons_succ]
  refine wpAnyH_ready (rs := [9]) (by kernel_rfl) (by simp) (AllReadyH.cons rfl (fun K hK => ?_) AllReadyH.nil)
  try simp only [List.getElem_toArray, List.getElem_cons_zero, List.getElem_cons_succ]
  obtain ⟨w1, hrun, hov1, hsz1, hb1⟩ := make_ints n w0.drew hnb
  go_simp
  have HS1 := hid0 (HSt.out w1 hb1)
  have HO1 := hid0 hov1
  have HZ1 := hid0 hsz1
  have HB1 := hid0 hb1
  clear hrun hov1 hsz1 hb1
  refine hK.out _ _ ?_ (fun hHeld9 => ?_)
  · exact HS1.out
  clear hK K
  (try simp only [Act.put]); (try simp only [List.setIfInBounds_toArray]); (try simp only [List.set_cons_succ]); (try simp only [List.set_cons_zero])
  refine tkV (i := 10) (d := some 17) (v := ?_) rfl (by kernel_rfl) (by kernel_rfl) (by kernel_rfl) rfl (fun _ _ _ h => h) (by rfl) ?_ (by assumption) ?_
  rotate_left
  · (intro w hSw; (try dsimp only at hSw); (try simp only [List.getElem_toArray, List.getElem_cons_zero, List.getElem_cons_succ]); go_simp; try with_reducible rfl)
  try simp only [Act.put, List.setIfInBounds_toArray, List.set_cons_zero, List.set_cons_succ]
  refine wpAnyH_ready (rs := [11]) (by kernel_rfl) (by simp) (AllReadyH.cons rfl (fun K hK => ?_) AllReadyH.nil)
  try simp only [List.getElem_toArray, List.getElem_cons_zero, List.getElem_cons_succ]
  obtain ⟨w2, hw2⟩ : ∃ w2, w2 = w1.alloc (.cells #[.int .i64 s0, .slice aN na cN, .slice aO nO cO, .int .i64 s1, .slice aM nb cM, .slice aP nP cP, .slice none 0 0, .slice (some ⟨w0.heap.size, 0, none⟩) n n] 85) := ⟨_, rfl⟩
  have hf2 := hw2.symm
  have HB2 : Hid (Below w1.heap.size w1 w2) := hid0 (by rw [hw2]; exact (Below.refl _ _).alloc (Nat.le_refl _) _)
  have HX2 : Hid (w2.heap[w1.heap.size]? = some (.cells #[.int .i64 s0, .slice aN na cN, .slice aO nO cO, .int .i64 s1, .slice aM nb cM, .slice aP nP cP, .slice none 0 0, .slice (some ⟨w0.heap.size, 0, none⟩) n n] 85 (0, 0))) := hid0 (by rw [hw2]; exact heap_alloc_new w1 _)
  have HS2 := hid0 (HSt.out w2 (HB1.out.trans (HB2.out.mono HB1.out.size)))
  clear hw2
  go_simp
  refine hK.out _ _ ?_ (fun hHeld11 => ?_)
  · exact HS2.out
  clear hK K
  (try simp only [Act.put]); (try simp only [List.setIfInBounds_toArray]); (try simp only [List.set_cons_succ]); (try simp only [List.set_cons_zero])
  refine tkV (i := 12) (d := some 5) (v := ?_) rfl (by kernel_rfl) (by kernel_rfl) (by kernel_rfl) rfl (fun _ _ _ h => h) (by rfl) ?_ (by assumption) ?_
  rotate_left
  · (intro w hSw; (try dsimp only at hSw); (try simp only [List.getElem_toArray, List.getElem_cons_zero, List.getElem_cons_succ]); go_simp; try with_reducible rfl)
  try simp only [Act.put, List.setIfInBounds_toArray, List.set_cons_zero, List.set_cons_succ]
  refine wpAnyH_done (by kernel_rfl) ?_ _
  refine NoPanic.normal ?_
  have hz1 : w1.heap.size = w0.heap.size + 1 := HZ1.out
  have hz0 := HZ0.out
  have hk2 : Wk w2 w.heap.size w1.heap.size w0.heap.size (w1.heap.size + 1) n (.int .i64 s0) (.slice aN na cN) (.slice aO nO cO) (.int .i64 s1) (.slice aM nb cM) (.slice aP nP cP) (.slice none 0 0) (fun _ => 0) [] :=
    ⟨HX2.out, (HO1.out.keep (HB2.out.block _ (by show w0.heap.size < w1.heap.size; omega))), World.ownsRow_nil _ _ _ _, by omega, by omega, by omega, (Array.getElem?_eq_some_iff.1 HX2.out).1, by omega, by omega⟩
  have HK2 := hid0 hk2
  have HBw : Hid (Below w.heap.size w w2) := hid0 (by
    have h1 : Below w.heap.size w w1 := (show Below w.heap.size w w0.drew from ⟨HB0.out.os, HB0.out.tape, HB0.out.output, HB0.out.size, HB0.out.block⟩).trans ((HB1.out.mono (by show w.heap.size ≤ w0.heap.size; omega)))
    exact h1.trans (HB2.out.mono (by omega)))
  obtain ⟨_, _, _, _, _, _, _, x7⟩ := hk2.cell
  have hXG : ¬ w1.heap.size = w0.heap.size := by omega
  have hlG : w.heap.size ≤ w0.heap.size := by omega
  generalize w1.heap.size = X at *
  generalize w0.heap.size = G at *
  clear hk2 hz1 hz0 HSt HB0 HZ0 hfold HS1 HO1 HZ1 HB1 hf2 HB2 HX2 HS2 hHeld hHeld9 hHeld11
  go_wp2
  go_loopw [24] (fun i wr => ∃ k : Nat, k ≤ n ∧ i = .int .i64 (k : Int) ∧ Hid (Wk wr w.heap.size X G (X + 1) n (.int .i64 s0) (.slice aN na cN) (.slice aO nO cO) (.int .i64 s1) (.slice aM nb cM) (.slice aP nP cP) (.slice none 0 0) (fun s => if s < k then s else 0) []) ∧ Hid (Below w.heap.size w wr)) (fun i _ => n - (intOf i).toNat)
  case atStart => exact ⟨0, Nat.zero_le _, rfl, HK2, HBw⟩
  case round =>
    obtain ⟨k, hk, rfl, HK, HB⟩ := hrel
    obtain ⟨_, _, _, _, _, _, _, y7⟩ := HK.out.cell
    by_cases hlt : k < n
    · have hkI : (k : Int) < (n : Int) := by omega
      have hkI0 : (0 : Int) ≤ (k : Int) := by omega
      have fz := HK.out.ov.frozen k
      have cz := HK.out.ov.cell hlt
      obtain ⟨w3, hw3⟩ : ∃ w3, w3 = wr.setCell ⟨G, k, none⟩ (.int .i64 (k : Int)) := ⟨_, rfl⟩
      have ho3 : Oth1 wr w3 G := by rw [hw3]; exact Oth1.setCell _ _ _ _
      have HK3 := hid0 (HK.out.over ho3 ((by rw [hw3]; exact HK.out.ov.put k : Ov w3 G n (putF (fun s => if s < k then s else 0) k k)).congr (q := fun s => if s < k + 1 then s else 0) (fun s hs => by
        unfold putF
        by_cases e : s = k
        · subst e; rw [if_pos rfl, if_pos (by omega)]
        · rw [if_neg e]
          show (if s < k then s else 0) = _
          by_cases e2 : s < k
          · rw [if_pos e2, if_pos (by omega)]
          · rw [if_neg e2, if_neg (by omega)])))
      have HB3 : Hid (Below w.heap.size w w3) := hid0 (HB.out.trans (ho3.below hlG))
      have hfold3 := hw3.symm
      clear hw3 ho3
      go_wp2
      go_roundw
      case rel => exact ⟨k + 1, by omega, by go_num, HK3, HB3⟩
      case measure => simp [intOf]; omega
    · have hkI : ¬ (k : Int) < (n : Int) := by omega
      have HKe : Hid (Wk wr w.heap.size X G (X + 1) n (.int .i64 s0) (.slice aN na cN) (.slice aO nO cO) (.int .i64 s1) (.slice aM nb cM) (.slice aP nP cP) (.slice none 0 0) (fun s => s) []) := hid0 (HK.out.over (Oth1.refl _ _) (HK.out.ov.congr (fun s hs => by rw [if_pos (by omega)])))
      go_wp2
      go_ret
      exact ⟨X, rfl, ⟨G, X + 1, HKe.out⟩, HB.out⟩
end Go.Proofs.YthoogkpiacopiaaDoor
namespace Go.Proofs.YthoogkpiacopiaaDoor
open Go.RowKit Go.Shelf
theorem eq_upto {L M : List Int} (hl : L.length = M.length) (h : ∀ k, k < L.length → L[k]? = M[k]?) : L = M := by
  apply List.ext_getElem?
  intro k
  rcases Nat.lt_or_ge k L.length with hk | hk
  · exact h k hk
  · rw [List.getElem?_eq_none hk, List.getElem?_eq_none (by omega)]
set_option maxRecDepth 10000 in
set_option maxHeartbeats 800000 in
theorem equal_any (L M : List Int) (a b : Option Addr) (ca cb : Nat) (w : World) (hl : L.length ≤ 17592186044000) (ha : IA w a L) (hb : IA w b M) :
    Calls Tryd.prog 58 #[.slice a L.length ca, .slice b M.length cb] w fun e w' => e = .returned (.bool (decide (L = M))) ∧ ∃ n, w' = w.drewN n := by
  have HA := hid0 ha
  have HB := hid0 hb
  clear ha hb
  by_cases hlen : L.length = M.length
  · have hlI : (L.length : Int) = (M.length : Int) := by omega
    have HL := hid0 hlen
    clear hlen
    go_enter Tryd.func58, Tryd.ntmps58
    go_wp2
    go_loopw [13] (fun i wr => ∃ k : Nat, k ≤ L.length ∧ i = .int .i64 (k : Int) ∧ (∃ n, wr = w.drewN n) ∧ Hid (∀ j, j < k → L[j]? = M[j]?)) (fun i _ => L.length - (intOf i).toNat)
    case atStart => exact ⟨0, Nat.zero_le _, rfl, ⟨0, rfl⟩, hid0 (fun j h => absurd h (Nat.not_lt_zero _))⟩
    case round =>
      obtain ⟨k, hk, rfl, ⟨nd, rfl⟩, HE⟩ := hrel
      by_cases hlt : k < L.length
      · have hltM : k < M.length := by have := HL.out; omega
        obtain ⟨b1, o1, rfl, _, d1⟩ := HA.out.at' k hlt
        obtain ⟨b2, o2, rfl, _, d2⟩ := HB.out.at' k hltM
        have hkI : (k : Int) < (L.length : Int) := by omega
        have hkM : (k : Int) < (M.length : Int) := by omega
        have hkI0 : (0 : Int) ≤ (k : Int) := by omega
        have HG1 : Hid (L[k]? = some L[k]) := hid0 (List.getElem?_eq_getElem hlt)
        have HG2 : Hid (M[k]? = some M[k]) := hid0 (List.getElem?_eq_getElem hltM)
        generalize L[k] = s at *
        generalize M[k] = u at *
        by_cases hsu : s = u
        · subst hsu
          have hself : (s == s) = true := by simp
          have hself2 : (s != s) = false := by simp
          have HE2 : Hid (∀ j, j < k + 1 → L[j]? = M[j]?) := hid0 (fun j hj => by
            by_cases e : j = k
            · subst e; rw [HG1.out, HG2.out]
            · exact HE.out j (by omega))
          clear HE HG1 HG2
          go_wp2
          go_quiet ((fail))
          go_wp2
          go_roundw
          case rel => exact ⟨k + 1, by omega, by go_num, ⟨_, rfl⟩, HE2⟩
          case measure => simp [intOf]; omega
        · have hne : (s == u) = false := by simpa using hsu
          have hne2 : (s != u) = true := by simpa using hsu
          have HV : Hid (decide (L = M) = false) := hid0 (decide_eq_false (fun e => by
            subst e
            rw [HG1.out] at HG2
            exact hsu (by have := HG2.out; cases this; rfl)))
          clear HE HG1 HG2
          go_wp2
          go_quiet ((fail))
          go_wp2
          go_ret
          exact ⟨by rw [HV.out]; rfl, _, World.drewN_drewN _ _ _⟩
      · have hkI : ¬ (k : Int) < (L.length : Int) := by omega
        have HV : Hid (decide (L = M) = true) := hid0 (decide_eq_true (eq_upto HL.out (fun j hj => HE.out j (by omega))))
        clear HE
        go_wp2
        go_ret
        exact ⟨by rw [HV.out]; rfl, nd, rfl⟩
  · have hlI : ¬ (L.length : Int) = (M.length : Int) := by omega
    have HV : Hid (decide (L = M) = false) := hid0 (decide_eq_false (fun e => hlen (by rw [e])))
    clear hlen
    go_enter Tryd.func58, Tryd.ntmps58
    go_wp2
    go_ret
    exact ⟨by rw [HV.out]; rfl, 0, rfl⟩
set_option maxRecDepth 10000 in
set_option maxHeartbeats 800000 in
theorem sameInts_any (L M : List Int) (a b : Option Addr) (ca cb : Nat) (w : World) (hl : L.length ≤ 17592186044000) (ha : IA w a L) (hb : IA w b M) :
    Calls Tryd.prog 9 #[.slice a L.length ca, .slice b M.length cb] w fun e w' => e = .returned (.bool (decide (L = M))) ∧ ∃ n, w' = w.drewN n := by
  have HA := hid0 ha
  have HB := hid0 hb
  clear ha hb
  by_cases hlen : L.length = M.length
  · have hlI : (L.length : Int) = (M.length : Int) := by omega
    have HL := hid0 hlen
    clear hlen
    go_enter Tryd.func9, Tryd.ntmps9
    go_wp2
    go_loopw [5] (fun i wr => ∃ k : Nat, k ≤ L.length ∧ i = .int .i64 (k : Int) ∧ (∃ n, wr = w.drewN n) ∧ Hid (∀ j, j < k → L[j]? = M[j]?)) (fun i _ => L.length - (intOf i).toNat)
    case atStart => exact ⟨0, Nat.zero_le _, rfl, ⟨0, rfl⟩, hid0 (fun j h => absurd h (Nat.not_lt_zero _))⟩
    case round =>
      obtain ⟨k, hk, rfl, ⟨nd, rfl⟩, HE⟩ := hrel
      by_cases hlt : k < L.length
      · have hltM : k < M.length := by have := HL.out; omega
        obtain ⟨b1, o1, rfl, _, d1⟩ := HA.out.at' k hlt
        obtain ⟨b2, o2, rfl, _, d2⟩ := HB.out.at' k hltM
        have hkI : (k : Int) < (L.length : Int) := by omega
        have hkM : (k : Int) < (M.length : Int) := by omega
        have hkI0 : (0 : Int) ≤ (k : Int) := by omega
        have HG1 : Hid (L[k]? = some L[k]) := hid0 (List.getElem?_eq_getElem hlt)
        have HG2 : Hid (M[k]? = some M[k]) := hid0 (List.getElem?_eq_getElem hltM)
        generalize L[k] = s at *
        generalize M[k] = u at *
        by_cases hsu : s = u
        · subst hsu
          have hself : (s == s) = true := by simp
          have hself2 : (s != s) = false := by simp
          have HE2 : Hid (∀ j, j < k + 1 → L[j]? = M[j]?) := hid0 (fun j hj => by
            by_cases e : j = k
            · subst e; rw [HG1.out, HG2.out]
            · exact HE.out j (by omega))
          clear HE HG1 HG2
          go_wp2
          go_quiet ((fail))
          go_wp2
          go_roundw
          case rel => exact ⟨k + 1, by omega, by go_num, ⟨_, rfl⟩, HE2⟩
          case measure => simp [intOf]; omega
        · have hne : (s == u) = false := by simpa using hsu
          have hne2 : (s != u) = true := by simpa using hsu
          have HV : Hid (decide (L = M) = false) := hid0 (decide_eq_false (fun e => by
            subst e
            rw [HG1.out] at HG2
            exact hsu (by have := HG2.out; cases this; rfl)))
          clear HE HG1 HG2
          go_wp2
          go_quiet ((fail))
          go_wp2
          go_ret
          exact ⟨by rw [HV.out]; rfl, _, World.drewN_drewN _ _ _⟩
      · have hkI : ¬ (k : Int) < (L.length : Int) := by omega
        have HV : Hid (decide (L = M) = true) := hid0 (decide_eq_true (eq_upto HL.out (fun j hj => HE.out j (by omega))))
        clear HE
        go_wp2
        go_ret
        exact ⟨by rw [HV.out]; rfl, nd, rfl⟩
  · have hlI : ¬ (L.length : Int) = (M.length : Int) := by omega
    have HV : Hid (decide (L = M) = false) := hid0 (decide_eq_false (fun e => hlen (by rw [e])))
    clear hlen
    go_enter Tryd.func9, Tryd.ntmps9
    go_wp2
    go_ret
    exact ⟨by rw [HV.out]; rfl, 0, rfl⟩
/-- A list whose first so many places, and last so many, are turned. -/
structure RevI (xs ys : List Int) (i : Nat) : Prop where
  len : ys.length = xs.length
  at' : ∀ k, k < xs.length → ys[k]? = if k < i ∨ xs.length - i ≤ k then xs[xs.length - 1 - k]? else xs[k]?
theorem RevI.first (xs : List Int) : RevI xs xs 0 := ⟨rfl, fun k hk => by rw [if_neg (by omega)]⟩
theorem RevI.step {xs ys : List Int} {i j : Nat} (h : RevI xs ys i) (hj : j = xs.length - 1 - i) (hij : i < j) (hi' : i < ys.length) (hj' : j < ys.length) : RevI xs ((ys.set i ys[j]).set j ys[i]) (i + 1) := by
  have hl := h.len
  have ai := h.at' i (by omega)
  have aj := h.at' j (by omega)
  rw [if_neg (by omega)] at ai aj
  refine ⟨by simp [hl], fun k hk => ?_⟩
  rw [List.getElem?_set]
  by_cases hkj : j = k
  · subst hkj
    rw [if_pos rfl, if_pos (by simp; omega), if_pos (by omega), ← List.getElem?_eq_getElem hi', ai]
    congr 1
    omega
  · rw [if_neg hkj, List.getElem?_set]
    by_cases hki : i = k
    · subst hki
      rw [if_pos rfl, if_pos (by omega), if_pos (by omega), ← List.getElem?_eq_getElem hj', aj]
      congr 1
    · rw [if_neg hki, h.at' k hk]
      by_cases hc : k < i ∨ xs.length - i ≤ k
      · rw [if_pos hc, if_pos (by omega)]
      · rw [if_neg hc, if_neg (by omega)]
theorem RevI.last {xs ys : List Int} {i : Nat} (h : RevI xs ys i) (hi : xs.length ≤ 2 * i + 1) : ys = xs.reverse := by
  apply List.ext_getElem?
  intro k
  rcases Nat.lt_or_ge k xs.length with hk | hk
  · rw [h.at' k hk, List.getElem?_reverse hk]
    by_cases hc : k < i ∨ xs.length - i ≤ k
    · rw [if_pos hc]
    · rw [if_neg hc]
      congr 1
      omega
  · rw [List.getElem?_eq_none (by rw [h.len]; exact hk), List.getElem?_eq_none (by simpa using hk)]
theorem own_two {w : World} {m g n c : Nat} {ys : List Int} (h : w.ownsRow m 3 1 (.slice (some ⟨g, 0, none⟩) n c) n (ys.map (Value.int .i64))) (i j : Nat) (x y : Int) : ((w.setCell ⟨g, i, none⟩ (.int .i64 x)).setCell ⟨g, j, none⟩ (.int .i64 y)).ownsRow m 3 1 (.slice (some ⟨g, 0, none⟩) n c) n (((ys.set i x).set j y).map (Value.int .i64)) := by
  have h1 := World.ownsRow.stored h i (.int .i64 x)
  have h2 := World.ownsRow.stored h1.1 j (.int .i64 y)
  have e : ((ys.map (Value.int .i64)).set i (.int .i64 x)).set j (.int .i64 y) = ((ys.set i x).set j y).map (Value.int .i64) := by rw [List.map_set, List.map_set]
  rw [← e]
  exact h2.1
set_option maxRecDepth 10000 in
set_option maxHeartbeats 1600000 in
theorem reverseI_some (xs : List Int) (g c m : Nat) (w : World) (hl : xs.length ≤ 100000000000) (ho : OwnI w m (.slice (some ⟨g, 0, none⟩) xs.length c) xs) :
    Calls Tryd.prog 59 #[.slice (some ⟨g, 0, none⟩) xs.length c] w fun r w' => r = .returned (.tuple #[]) ∧ OwnI w' m (.slice (some ⟨g, 0, none⟩) xs.length c) xs.reverse ∧ Below m w w' := by
  obtain ⟨n, hn⟩ : ∃ n, xs.length = n := ⟨_, rfl⟩
  have HO : Hid (w.ownsRow m 3 1 (.slice (some ⟨g, 0, none⟩) n c) n (xs.map (Value.int .i64))) := hid0 (by rw [← hn]; exact ho)
  have hmg : m ≤ g := (World.ownsRow.lt ho g rfl).1
  have HN := hid0 hn
  rw [hn] at hl ⊢
  clear ho hn
  have hsub : IntKind.i64.wrap ((n : Int) - 1) = (n : Int) - 1 := by simp [IntKind.wrap, IntKind.bits, IntKind.signed]; omega
  go_enter Tryd.func59, Tryd.ntmps59
  go_wp2
  go_loopw [2, 3] (fun a b wr => ∃ (i : Nat) (ys : List Int), 2 * i ≤ n ∧ a = .int .i64 (i : Int) ∧ b = .int .i64 ((n : Int) - 1 - (i : Int)) ∧ Hid (RevI xs ys i) ∧ Hid (wr.ownsRow m 3 1 (.slice (some ⟨g, 0, none⟩) n c) n (ys.map (Value.int .i64))) ∧ Hid (Below m w wr)) (fun a _ _ => n - (intOf a).toNat)
  case atStart => exact ⟨0, xs, by omega, rfl, by simp, hid0 (RevI.first xs), HO, hid0 (Below.refl _ _)⟩
  case round =>
    obtain ⟨i, ys, hi, rfl, rfl, HR, HOy, HG⟩ := hrel
    by_cases hlt : 2 * i + 1 < n
    · obtain ⟨j, hj⟩ : ∃ j, j = n - 1 - i := ⟨_, rfl⟩
      have hji : ((n : Int) - 1 - (i : Int)) = (j : Int) := by omega
      rw [hji]
      have hij : i < j := by omega
      have hjn : j < n := by omega
      have hyl : ys.length = n := by rw [HR.out.len, HN.out]
      have hI : (i : Int) < (j : Int) := by omega
      have hI0 : (0 : Int) ≤ (i : Int) := by omega
      have hJ0 : (0 : Int) ≤ (j : Int) := by omega
      have hIn : (i : Int) < (n : Int) := by omega
      have hJn : (j : Int) < (n : Int) := by omega
      have p0 : wr.cell? ⟨g, i, none⟩ = some (.int .i64 (ys[i]'(by omega))) := by
        have h1 := World.ownsRow.cellAt HOy.out i (by omega)
        rw [h1]; simp
      have q0 : wr.cell? ⟨g, j, none⟩ = some (.int .i64 (ys[j]'(by omega))) := by
        have h1 := World.ownsRow.cellAt HOy.out j (by omega)
        rw [h1]; simp
      have F0 := World.ownsRow.frozenAt HOy.out i
      have G0 := World.ownsRow.frozenAt HOy.out j
      have HSt := hid0 (HR.out.step (j := j) (by rw [HN.out]; exact hj) hij (by omega) (by omega))
      generalize (ys[i]'(by omega)) = x at *
      generalize (ys[j]'(by omega)) = y at *
      have hsub2 : IntKind.i64.wrap ((j : Int) - 1) = (j : Int) - 1 := by simp [IntKind.wrap, IntKind.bits, IntKind.signed]; omega
      have HOn := hid0 (own_two HOy.out i j y x)
      have HGn : Hid (Below m w ((wr.setCell ⟨g, i, none⟩ (.int .i64 y)).setCell ⟨g, j, none⟩ (.int .i64 x))) := hid0 ((HG.out.setCell (p := ⟨g, i, none⟩) hmg _).setCell (p := ⟨g, j, none⟩) hmg _)
      have HJ := hid0 hj
      clear hj hyl HR HG
      go_wp2
      go_region
      go_wp2
      go_roundw
      case rel => exact ⟨i + 1, _, by omega, by go_num, by have := HJ.out; go_num, HSt, hid0 (own_blk HOn.out (fun _ _ => rfl)), hid0 (HGn.out.trans ⟨rfl, rfl, rfl, Nat.le_refl _, fun _ _ => rfl⟩)⟩
      case measure => simp [intOf]; omega
    · have hI : ¬ (i : Int) < ((n : Int) - 1 - (i : Int)) := by omega
      have HV := hid0 (HR.out.last (by rw [HN.out]; omega))
      go_wp2
      refine bodyPost_end (results_none rfl _ _ _) rfl ?_
      refine ⟨rfl, ?_, HG.out⟩
      have h := HOy.out
      rw [HV.out] at h
      have hq : xs.reverse.length = n := by rw [List.length_reverse, HN.out]
      unfold OwnI
      rw [hq]
      exact h
set_option maxRecDepth 10000 in
set_option maxHeartbeats 800000 in
theorem reverseI_nil (w : World) : Calls Tryd.prog 59 #[.slice none 0 0] w fun r w' => r = .returned (.tuple #[]) ∧ w' = w := by
  go_enter Tryd.func59, Tryd.ntmps59
  go_wp2
  go_loopw [2, 3] (fun a b wr => a = .int .i64 0 ∧ b = .int .i64 (-1) ∧ wr = w) (fun _ _ _ => 0)
  case atStart => exact ⟨rfl, rfl, rfl⟩
  case round =>
    obtain ⟨rfl, rfl, rfl⟩ := hrel
    go_wp2
    refine bodyPost_end (results_none rfl _ _ _) rfl ?_
    exact ⟨rfl, rfl⟩
/-- A list of one's own turned round. -/
theorem reverseI_any (xs : List Int) (v : Value) (m : Nat) (w : World) (hl : xs.length ≤ 100000000000) (ho : OwnI w m v xs) :
    Calls Tryd.prog 59 #[v] w fun r w' => r = .returned (.tuple #[]) ∧ OwnI w' m v xs.reverse ∧ Below m w w' := by
  rcases ho.2 with ⟨e, hn⟩ | ⟨g, cap, cur, e, _⟩
  · have hx : xs = [] := List.eq_nil_of_length_eq_zero hn
    subst hx e
    refine (reverseI_nil w).mono ?_
    rintro r w' ⟨rfl, rfl⟩
    exact ⟨rfl, ho, Below.refl _ _⟩
  · subst e
    exact reverseI_some xs g cap m w hl ho
end Go.Proofs.YthoogkpiacopiaaDoor
namespace Go.Proofs.YthoogkpiacopiaaDoor
open Go.RowKit Go.Shelf
set_option maxRecDepth 10000 in
set_option maxHeartbeats 500000 in
theorem wordTo_any (T : Two) (l : List Mt) (Wd : Nat → List Nat) (lo X G B n i : Nat) (v0 v1 v2 v3 v4 v5 vm : Value) (p : Nat → Nat) (w : World) (hm : Met T l Wd) (hl : l.length ≤ 100000000000) (hk : Wk w lo X G B n v0 v1 v2 v3 v4 v5 vm p l) (hil : i < l.length) :
    Calls Tryd.prog 33 #[.pointer (some ⟨X, 0, none⟩), .int .i64 (i : Int)] w fun e w' => ∃ v, e = .returned v ∧ OwnI w' w.heap.size v (nums (Wd i)) ∧ Below w.heap.size w w' := by
  obtain ⟨i0, hi, hz0, hz1, hz2⟩ := info_parts infoInt
  have HK := hid0 hk
  have HM := hid0 hm
  obtain ⟨am, cm, rfl, _⟩ := hk.form
  clear hk hm
  go_enter Tryd.func33, Tryd.ntmps33
  go_wp2
  go_loopw [1, 5] (fun k v wr => ∃ (j : Nat) (acc : List Nat), j ≤ i ∧ acc.length + j ≤ i ∧ k = .int .i64 (j : Int) ∧ Hid (Wd i = Wd j ++ acc.reverse) ∧ Hid (OwnI wr w.heap.size v (nums acc)) ∧ Hid (Below w.heap.size w wr)) (fun k _ _ => (intOf k).toNat)
  case atStart => exact ⟨i, [], Nat.le_refl _, by simp, rfl, hid0 (by simp), hid0 (World.ownsRow_nil _ _ _ _), hid0 (Below.refl _ _)⟩
  case round =>
    obtain ⟨j, acc, hj, hacc, rfl, HW, HO, HB⟩ := hrel
    have hjl : j < l.length := by omega
    have hjI : (j : Int) < (l.length : Int) := by omega
    have hjI0 : (0 : Int) ≤ (j : Int) := by omega
    have hsz := HB.out.size
    have hln : (nums acc).length ≤ 100000000000 := by unfold nums; rw [List.length_map]; omega
    obtain ⟨_, _, _, _, _, _, x6, _⟩ := (HK.out.past HB.out).cell
    by_cases h0 : j = 0
    · have HE : Hid (nums acc.reverse = nums (Wd i)) := hid0 (by rw [HW.out, h0, HM.out.z.1]; rfl)
      have HN : Hid ((nums acc).reverse = nums (Wd i)) := hid0 (by rw [← HE.out]; unfold nums; rw [List.map_reverse])
      have hj0 : ¬ (j : Int) > 0 := by omega
      clear h0 hjI hjl
      obtain ⟨av, cv, ev, _⟩ := HO.out.ia
      subst ev
      have HC := hid0 (reverseI_any (nums acc) _ w.heap.size wr hln HO.out)
      generalize nums acc = Y at *
      go_wp2_with (go_at_call 59; refine HC.out.mono ?_; rintro e w2 ⟨rfl, ho2, hb2⟩; have HO2 := hid0 ho2; have HB2 := hid0 hb2; clear ho2 hb2)
      go_ret
      exact ⟨_, rfl, by rw [← HN.out]; exact HO2.out, HB.out.trans HB2.out⟩
    · have hj0 : (j : Int) > 0 := by omega
      obtain ⟨s1, s2, s3, _, _⟩ := HM.out.st j (by omega) hjl
      have HW2 : Hid (Wd i = Wd (l.getD j default).fr ++ (acc ++ [(l.getD j default).sy]).reverse) := hid0 (by rw [HW.out, s3, List.reverse_append, List.append_assoc]; rfl)
      have HN : Hid (nums (acc ++ [(l.getD j default).sy]) = nums acc ++ [((l.getD j default).sy : Int)]) := hid0 (by unfold nums; rw [List.map_append]; rfl)
      have HD5 : Hid (∀ V : World, Below w.heap.size w V → V.cell? ⟨X, 6, none⟩ = some (.slice am l.length cm) ∧ ∃ g, am = some ⟨g, 0, none⟩ ∧ V.cell? ⟨g, j * 4 + 2, none⟩ = some (.int .i64 ((l.getD j default).fr : Int)) ∧ V.cell? ⟨g, j * 4 + 3, none⟩ = some (.int .i64 ((l.getD j default).sy : Int))) := hid0 (fun V hV => by
        have hk := HK.out.past hV
        obtain ⟨a', c', e', hc⟩ := hk.form
        cases e'
        obtain ⟨_, _, _, _, _, _, y6, _⟩ := hk.cell
        obtain ⟨g, eg, _, _, q2, q3⟩ := hc j hjl
        exact ⟨y6, g, eg, q2, q3⟩)
      obtain ⟨y6, g, rfl, d2, d3⟩ := HD5.out wr HB.out
      obtain ⟨av, cv, ev, _⟩ := HO.out.ia
      subst ev
      generalize (l.getD j default).fr = f at *
      generalize (l.getD j default).sy = y at *
      generalize hX : nums acc = Xs at *
      clear h0 s2 s3
      go_wp2_with (at_builtin; go_loud ((
        refine wpList_append_own_at _ rfl _ _ 25 rfl w.heap.size 3 i0 (.int .i64 0) 1 8 Tryd.underlying25 hi hz0 hz1 hz2 rfl (by decide) _ Xs.length (Xs.map (Value.int .i64)) rfl (World.ownsRow.alloc HO.out _) ⟨wr.heap.size, 0, none⟩ 1 1 [.int .i64 (y : Int)] rfl rfl (cell_one_new _ _ _) (by simp [Value.oneCell']) (by unfold maxLen; omega) (by omega) (by simp; omega) ?_
        intro v2 w3 hown2 hgrow2 _ _
        have R := ownI_snoc rfl HO.out hown2 hgrow2 HB.out (Nat.le_refl _)
        have HO3 := hid0 R.1
        have HB3 := hid0 R.2
        obtain ⟨av2, cv2, ev2, _⟩ := R.1.ia
        rw [List.length_append, List.length_singleton] at ev2
        subst ev2
        obtain ⟨z6, g', eg, d5, _⟩ := HD5.out _ R.2
        cases eg
        clear R hown2 hgrow2)))
      go_roundw
      case rel => exact ⟨f, acc ++ [y], by omega, by rw [List.length_append, List.length_singleton]; omega, rfl, HW2, hid0 (by rw [HN.out]; exact HO3.out), HB3⟩
      case measure => simpa [intOf] using s1
end Go.Proofs.YthoogkpiacopiaaDoor
namespace Go.Proofs.YthoogkpiacopiaaDoor
open Go.RowKit Go.Shelf
/-- The rows of a machine, as they lie below. -/
structure MaA (w : World) (aN aO : Option Addr) (N O : List (List Int)) : Prop where
  n : RwA w aN N
  o : RwA w aO O
theorem MaA.past {w w' : World} {aN aO : Option Addr} {N O : List (List Int)} (h : MaA w aN aO N O) (hb : Below w.heap.size w w') : MaA w' aN aO N O := ⟨h.n.past hb, h.o.past hb⟩
/-- The queue, or nothing: they never part. -/
def Inv (T : Two) (l : List Mt) (Wd : Nat → List Nat) (i : Nat) : Prop := (l = [] ∧ i = 0 ∧ ∀ z, ¬ T.dis T.sa T.sb z) ∨ (Que T l Wd i 0 ∧ i ≤ l.length)
theorem Inv.le {T : Two} {l : List Mt} {Wd : Nat → List Nat} {i : Nat} (h : Inv T l Wd i) : i ≤ l.length := by
  rcases h with ⟨rfl, rfl, _⟩ | h
  · exact Nat.le_refl _
  · exact h.2
theorem Inv.none {T : Two} {l : List Mt} {Wd : Nat → List Nat} {i : Nat} (h : Inv T l Wd i) (hi : i = l.length) : ∀ z, T.ok z → ¬ T.dis T.sa T.sb z := by
  rcases h with ⟨_, _, h⟩ | h
  · exact fun z _ => h z
  · subst hi; exact h.1.none
theorem Inv.que {T : Two} {l : List Mt} {Wd : Nat → List Nat} {i : Nat} (h : Inv T l Wd i) (hi : i < l.length) : Que T l Wd i 0 := by
  rcases h with ⟨rfl, _, _⟩ | h
  · exact absurd hi (Nat.not_lt_zero _)
  · exact h.1
/-- What firstUnlike leaves. -/
def FuR (T : Two) (lo X G B n : Nat) (v0 v1 v2 v3 v4 v5 : Value) (w : World) (e : Ending) (w' : World) : Prop :=
  (∃ i p vm l Wd, e = .returned (.tuple #[.int .i64 ((i : Nat) : Int), .bool true]) ∧ Wk w' lo X G B n v0 v1 v2 v3 v4 v5 vm p l ∧ Met T l Wd ∧ i < l.length ∧ l.length ≤ n ∧ T.Best (Wd i) ∧ Below lo w w') ∨
  (e = .returned (.tuple #[.int .i64 0, .bool false]) ∧ (∀ z, T.ok z → ¬ T.dis T.sa T.sb z) ∧ Below lo w w')
/-- All of it at a meeting and a symbol. -/
structure Fst (T : Two) (na nb lo X G B : Nat) (v0 v1 v2 v3 v4 v5 : Value) (wb W : World) (l : List Mt) : Prop where
  at' : ∃ p rt d vm, Wk W lo X G B (na + nb) v0 v1 v2 v3 v4 v5 vm p l ∧ Lg T na nb p rt d l
  bel : Below lo wb W
theorem Fst.len {T : Two} {na nb lo X G B : Nat} {v0 v1 v2 v3 v4 v5 : Value} {wb W : World} {l : List Mt} (h : Fst T na nb lo X G B v0 v1 v2 v3 v4 v5 wb W l) (hn : 0 < na) : l.length < na + nb := by
  obtain ⟨p, rt, d, vm, _, hg⟩ := h.at'
  have h1 := hg.rc
  have h2 := rootsF_pos hg.fr (by omega)
  omega
theorem Fst.past {T : Two} {na nb lo X G B : Nat} {v0 v1 v2 v3 v4 v5 : Value} {wb W W' : World} {l : List Mt} (h : Fst T na nb lo X G B v0 v1 v2 v3 v4 v5 wb W l) (hl : lo ≤ W.heap.size) (hb : Below W.heap.size W W') : Fst T na nb lo X G B v0 v1 v2 v3 v4 v5 wb W' l := by
  obtain ⟨p, rt, d, vm, hk, hg⟩ := h.at'
  exact ⟨⟨p, rt, d, vm, hk.past hb, hg⟩, h.bel.trans (hb.mono hl)⟩
theorem Fst.low {T : Two} {na nb lo X G B : Nat} {v0 v1 v2 v3 v4 v5 : Value} {wb W : World} {l : List Mt} (h : Fst T na nb lo X G B v0 v1 v2 v3 v4 v5 wb W l) : lo ≤ W.heap.size := by
  obtain ⟨p, rt, d, vm, hk, hg⟩ := h.at'
  have := hk.lx; have := hk.xb; have := hk.bs; omega
theorem fst_meet {T : Two} {na nb lo X G B : Nat} {v0 v1 v2 v3 v4 v5 : Value} {wb W W' : World} {l : List Mt} {x : Mt} (hb : Below lo wb W) (h : MeetR T na nb lo X G B v0 v1 v2 v3 v4 v5 l x W W') : ∃ l', Fst T na nb lo X G B v0 v1 v2 v3 v4 v5 wb W' l' ∧ ((l' = l ∧ ∀ v, T.dis x.a x.b v → ∃ k, k < l.length ∧ T.dis (l.getD k default).a (l.getD k default).b v) ∨ l' = l ++ [x]) := by
  obtain ⟨p, rt, d, l', vm, h1, h2, h3, h4⟩ := h
  exact ⟨l', ⟨⟨p, rt, d, vm, h1, h2⟩, hb.trans h4⟩, h3⟩
theorem fst_first {T : Two} {na nb lo X G B f s : Nat} {v0 v1 v2 v3 v4 v5 : Value} {wb W W' : World} (hb : Below lo wb W) (h : MeetR T na nb lo X G B v0 v1 v2 v3 v4 v5 [] ⟨T.sa, T.sb, f, s⟩ W W') : ∃ l' Wd, Fst T na nb lo X G B v0 v1 v2 v3 v4 v5 wb W' l' ∧ Inv T l' Wd 0 := by
  obtain ⟨l', h1, h2⟩ := fst_meet hb h
  refine ⟨l', fun _ => [], h1, ?_⟩
  rcases h2 with ⟨rfl, h2⟩ | rfl
  · refine .inl ⟨rfl, rfl, fun z hz => ?_⟩
    obtain ⟨k, hk, _⟩ := h2 z hz
    exact absurd hk (Nat.not_lt_zero _)
  · exact .inr ⟨Que.start T f s, Nat.zero_le _⟩
theorem que_meet {T : Two} {l l' : List Mt} {Wd : Nat → List Nat} {i c : Nat} {x : Mt} (hq : Que T l Wd i c) (hi : i < l.length) (hc : c < T.m) (hx : x = ⟨T.fa (l.getD i default).a c, T.fb (l.getD i default).b c, i, c⟩)
    (h : (l' = l ∧ ∀ v, T.dis x.a x.b v → ∃ k, k < l.length ∧ T.dis (l.getD k default).a (l.getD k default).b v) ∨ l' = l ++ [x]) : ∃ Wd', Que T l' Wd' i (c + 1) ∧ i < l'.length ∧ l'.getD i default = l.getD i default := by
  rcases h with ⟨rfl, h⟩ | rfl
  · subst hx
    exact ⟨Wd, hq.keep hi h, hi, rfl⟩
  · subst hx
    obtain ⟨W', h'⟩ := hq.push hi hc
    exact ⟨W', h', by rw [List.length_append]; omega, getD_snoc_old hi⟩
end Go.Proofs.YthoogkpiacopiaaDoor
namespace Go.Proofs.YthoogkpiacopiaaDoor
open Go.RowKit Go.Shelf
theorem getD_at {L : List (List Int)} {k : Nat} (h : k < L.length) : L.getD k [] = L[k] := by rw [List.getD_eq_getElem?_getD, List.getElem?_eq_getElem h]; rfl
set_option maxRecDepth 10000 in
set_option maxHeartbeats 3200000 in
theorem firstUnlike_any (m sa sb lo X G B cN cO cM cP : Nat) (N O N' O' : List (List Int)) (aN aO aM aP : Option Addr) (wb w : World) (hlo : lo = wb.heap.size) (ha : MaA wb aN aO N O) (hb : MaA wb aM aP N' O') (hma : May (sa : Int) N O m) (hmb : May (sb : Int) N' O' m)
    (hbig : N.length + N'.length ≤ 100000000000) (hm64 : m ≤ 100000000000) (hOr : ∀ r ∈ O, r.length ≤ 17592186044000) (hB : Below lo wb w) (hk : Wk w lo X G B (N.length + N'.length) (.int .i64 (sa : Int)) (.slice aN N.length cN) (.slice aO O.length cO) (.int .i64 (sb : Int)) (.slice aM N'.length cM) (.slice aP O'.length cP) (.slice none 0 0) (fun s => s) []) :
    Calls Tryd.prog 32 #[.pointer (some ⟨X, 0, none⟩)] w fun e w' => FuR (twoF m (sa : Int) (sb : Int) N O N' O') lo X G B (N.length + N'.length) (.int .i64 (sa : Int)) (.slice aN N.length cN) (.slice aO O.length cO) (.int .i64 (sb : Int)) (.slice aM N'.length cM) (.slice aP O'.length cP) wb e w' := by
  have hsa : sa < N.length := by have := hma.start; omega
  have hsb : sb < N'.length := by have := hmb.start; omega
  have hoa := hma.out
  have hob := hmb.out
  have HMa := hid0 hma
  have HMb := hid0 hmb
  have HA := hid0 ha
  have HA' := hid0 hb
  have HB := hid0 hB
  have HLo := hid0 hlo
  have HOr := hid0 hOr
  obtain ⟨T, hT⟩ : ∃ T, T = twoF m (sa : Int) (sb : Int) N O N' O' := ⟨_, rfl⟩
  have HT := hid0 hT
  have eTa : T.sa = sa := by rw [hT]; exact Int.toNat_natCast sa
  have eTb : T.sb = sb := by rw [hT]; exact Int.toNat_natCast sb
  have HM : Hid (Calls Tryd.prog 57 #[.pointer (some ⟨X, 0, none⟩), .agg #[.int .i64 (sa : Int), .int .i64 (sb : Int), .int .i64 0, .int .i64 0]] w.drew fun e w' => e = .returned (.tuple #[]) ∧ MeetR T N.length N'.length lo X G B (.int .i64 (sa : Int)) (.slice aN N.length cN) (.slice aO O.length cO) (.int .i64 (sb : Int)) (.slice aM N'.length cM) (.slice aP O'.length cP) [] ⟨T.sa, T.sb, 0, 0⟩ w w') := hid0 (by
    rw [eTa, eTb]
    have hd : Below w.heap.size w w.drew := ⟨rfl, rfl, rfl, Nat.le_refl _, fun _ _ => rfl⟩
    refine (meet_any T N.length N'.length lo X G B sa sb 0 0 cN _ _ _ _ _ _ aN _ (fun s => s) (fun _ => 0) [] w.drew hsa hsb hbig (hk.past hd) ⟨Frst.one _, Circ.one T _ _, by rw [rootsF_one]; simp, fun k hk => absurd hk (Nat.not_lt_zero _)⟩).mono ?_
    rintro e w' ⟨h1, p, rt, d, l', vm, h2, h3, h4, h5⟩
    exact ⟨h1, p, rt, d, l', vm, h2, h3, h4, (hd.mono (by have := hk.lx; have := hk.xb; have := hk.bs; omega)).trans h5⟩)
  obtain ⟨x0, _, _, x3, _⟩ := hk.cell
  rw [← hT]
  clear hk hB hlo ha hb hma hmb hOr hT eTa eTb
  go_enter Tryd.func32, Tryd.ntmps32
  go_wp2
  refine wp_region_noPanic ?_
  refine wp_region_held_drew (S := (fun V => V.cell? ⟨X, 0, none⟩ = some (.int .i64 (sa : Int)) ∧ V.cell? ⟨X, 3, none⟩ = some (.int .i64 (sb : Int)))) (by kernel_rfl) ?_ (fun hHeld => ?_)
  · exact ⟨x0, x3⟩
  refine tkV (i := 0) (d := some 9) (v := ?_) rfl (by kernel_rfl) (by kernel_rfl) (by kernel_rfl) rfl (fun _ _ _ h => h) (by rfl) ?_ (by assumption) ?_
  rotate_left
  · (intro w hSw; (try dsimp only at hSw); (try simp only [List.getElem_toArray, List.getElem_cons_zero]); go_simp; try with_reducible rfl)
  try simp only [Act.put, List.setIfInBounds_toArray, List.set_cons_zero, List.set_cons_succ]
  refine tkV (i := 1) (d := some 10) (v := ?_) rfl (by kernel_rfl) (by kernel_rfl) (by kernel_rfl) rfl (fun _ _ _ h => h) (by rfl) ?_ (by assumption) ?_
  rotate_left
  · (intro w hSw; (try dsimp only at hSw); (try simp only [List.getElem_toArray, List.getElem_cons_zero, List.getElem_cons_succ]); go_simp; try with_reducible rfl)
  try simp only [Act.put, List.setIfInBounds_toArray, List.set_cons_zero, List.set_cons_succ]
  refine tkV (i := 2) (d := some 11) (v := ?_) rfl (by kernel_rfl) (by kernel_rfl) (by kernel_rfl) rfl (fun _ _ _ h => h) (by rfl) ?_ (by assumption) ?_
  rotate_left
  · (intro w hSw; (try dsimp only at hSw); (try simp only [List.getElem_toArray, List.getElem_cons_zero, List.getElem_cons_succ]); go_simp; try with_reducible rfl)
  try simp only [Act.put, List.setIfInBounds_toArray, List.set_cons_zero, List.set_cons_succ]
  refine tkV (i := 3) (d := some 12) (v := ?_) rfl (by kernel_rfl) (by kernel_rfl) (by kernel_rfl) rfl (fun _ _ _ h => h) (by rfl) ?_ (by assumption) ?_
  rotate_left
  · (intro w hSw; (try dsimp only at hSw); (try simp only [List.getElem_toArray, List.getElem_cons_zero, List.getElem_cons_succ]); go_simp; try with_reducible rfl)
  try simp only [Act.put, List.setIfInBounds_toArray, List.set_cons_zero, List.set_cons_succ]
  refine tkV (i := 4) (d := some 13) (v := ?_) rfl (by kernel_rfl) (by kernel_rfl) (by kernel_rfl) rfl (fun _ _ _ h => h) (by rfl) ?_ (by assumption) ?_
  rotate_left
  · (intro w hSw; (try dsimp only at hSw); (try simp only [List.getElem_toArray, List.getElem_cons_zero, List.getElem_cons_succ]); go_simp; try with_reducible rfl)
  try simp only [Act.put, List.setIfInBounds_toArray, List.set_cons_zero, List.set_cons_succ]
  refine tkV (i := 5) (d := some 14) (v := ?_) rfl (by kernel_rfl) (by kernel_rfl) (by kernel_rfl) rfl (fun _ _ _ h => h) (by rfl) ?_ (by assumption) ?_
  rotate_left
  · (intro w hSw; (try dsimp only at hSw); (try simp only [List.getElem_toArray, List.getElem_cons_zero, List.getElem_cons_succ]); go_simp; try with_reducible rfl)
  try simp only [Act.put, List.setIfInBounds_toArray, List.set_cons_zero, List.set_cons_succ]
  refine tkV (i := 6) (d := some 15) (v := ?_) rfl (by kernel_rfl) (by kernel_rfl) (by kernel_rfl) rfl (fun _ _ _ h => h) (by rfl) ?_ (by assumption) ?_
  rotate_left
  · (intro w hSw; (try dsimp only at hSw); (try simp only [List.getElem_toArray, List.getElem_cons_zero, List.getElem_cons_succ]); go_simp; try with_reducible rfl)
  try simp only [Act.put, List.setIfInBounds_toArray, List.set_cons_zero, List.set_cons_succ]
  refine tkV (i := 7) (d := some 16) (v := ?_) rfl (by kernel_rfl) (by kernel_rfl) (by kernel_rfl) rfl (fun _ _ _ h => h) (by rfl) ?_ (by assumption) ?_
  rotate_left
  · (intro w hSw; (try dsimp only at hSw); (try simp only [List.getElem_toArray, List.getElem_cons_zero, List.getElem_cons_succ]); go_simp; try with_reducible rfl)
  try simp only [Act.put, List.setIfInBounds_toArray, List.set_cons_zero, List.set_cons_succ]
  refine tkV (i := 8) (d := some 17) (v := ?_) rfl (by kernel_rfl) (by kernel_rfl) (by kernel_rfl) rfl (fun _ _ _ h => h) (by rfl) ?_ (by assumption) ?_
  rotate_left
  · (intro w hSw; (try dsimp only at hSw); (try simp only [List.getElem_toArray, List.getElem_cons_zero, List.getElem_cons_succ]); go_simp; try with_reducible rfl)
  try simp only [Act.put, List.setIfInBounds_toArray, List.set_cons_zero, List.set_cons_succ]
  refine tkV (i := 9) (d := some 18) (v := ?_) rfl (by kernel_rfl) (by kernel_rfl) (by kernel_rfl) rfl (fun _ _ _ h => h) (by rfl) ?_ (by assumption) ?_
  rotate_left
  · (intro w hSw; (try dsimp only at hSw); (try simp only [List.getElem_toArray, List.getElem_cons_zero, List.getElem_cons_succ]); go_simp; try with_reducible rfl)
  try simp only [Act.put, List.setIfInBounds_toArray, List.set_cons_zero, List.set_cons_succ]
  refine tkV (i := 10) (d := some 19) (v := ?_) rfl (by kernel_rfl) (by kernel_rfl) (by kernel_rfl) rfl (fun _ _ _ h => h) (by rfl) ?_ (by assumption) ?_
  rotate_left
  · (intro w hSw; (try dsimp only at hSw); (try simp only [List.getElem_toArray, List.getElem_cons_zero, List.getElem_cons_succ]); go_simp; try with_reducible rfl)
  try simp only [Act.put, List.setIfInBounds_toArray, List.set_cons_zero, List.set_cons_succ]
  refine tkV (i := 11) (d := some 20) (v := ?_) rfl (by kernel_rfl) (by kernel_rfl) (by kernel_rfl) rfl (fun _ _ _ h => h) (by rfl) ?_ (by assumption) ?_
  rotate_left
  · (intro w hSw; (try dsimp only at hSw); (try simp only [List.getElem_toArray, List.getElem_cons_zero, List.getElem_cons_succ]); go_simp; try with_reducible rfl)
  try simp only [Act.put, List.setIfInBounds_toArray, List.set_cons_zero, List.set_cons_succ]
  refine wpAnyH_ready (rs := [12]) (by kernel_rfl) (by simp) (AllReadyH.cons rfl (fun K hK => ?_) AllReadyH.nil)
  try simp only [List.getElem_toArray, List.getElem_cons_zero, List.getElem_cons_succ]
  go_simp
  refine HM.out.mono ?_
  rintro e w1 ⟨rfl, hr1⟩
  obtain ⟨l1, Wd1, hf1, hi1⟩ := fst_first HB.out hr1
  have HF1 := hid0 hf1
  have HI1 := hid0 hi1
  have HS1 : Hid (w1.cell? ⟨X, 0, none⟩ = some (.int .i64 (sa : Int)) ∧ w1.cell? ⟨X, 3, none⟩ = some (.int .i64 (sb : Int))) := hid0 (by obtain ⟨_, _, _, _, hk, _⟩ := hf1.at'; obtain ⟨q0, _, _, q3, _⟩ := hk.cell; exact ⟨q0, q3⟩)
  clear hf1 hi1 hr1
  go_wp2_with fail
  refine hK.out _ _ ?_ (fun hHeld12 => ?_)
  · exact HS1.out
  clear hK K
  (try simp only [Act.put]); (try simp only [List.setIfInBounds_toArray]); (try simp only [List.set_cons_succ]); (try simp only [List.set_cons_zero])
  refine wpAnyH_done (by kernel_rfl) ?_ _
  refine NoPanic.normal ?_
  obtain ⟨z0, z1, z2, z3, z4, z5, z7⟩ : w1.cell? ⟨X, 0, none⟩ = some (.int .i64 (sa : Int)) ∧ w1.cell? ⟨X, 1, none⟩ = some (.slice aN N.length cN) ∧ w1.cell? ⟨X, 2, none⟩ = some (.slice aO O.length cO) ∧ w1.cell? ⟨X, 3, none⟩ = some (.int .i64 (sb : Int)) ∧ w1.cell? ⟨X, 4, none⟩ = some (.slice aM N'.length cM) ∧ w1.cell? ⟨X, 5, none⟩ = some (.slice aP O'.length cP) ∧ w1.cell? ⟨X, 7, none⟩ = some (.slice (some ⟨G, 0, none⟩) (N.length + N'.length) (N.length + N'.length)) := by
    obtain ⟨_, _, _, _, hk, _⟩ := HF1.out.at'
    obtain ⟨q0, q1, q2, q3, q4, q5, _, q7⟩ := hk.cell
    exact ⟨q0, q1, q2, q3, q4, q5, q7⟩
  clear hHeld hHeld12 HS1 HM HB x0 x3
  go_wp2
  clear z0 z1 z2 z3 z4 z5 z7
  go_loopw [27] (fun i wr => ∃ (k : Nat) (l : List Mt) (Wd : Nat → List Nat), k < N.length + N'.length ∧ i = .int .i64 (k : Int) ∧ Hid (Fst T N.length N'.length lo X G B (.int .i64 (sa : Int)) (.slice aN N.length cN) (.slice aO O.length cO) (.int .i64 (sb : Int)) (.slice aM N'.length cM) (.slice aP O'.length cP) wb wr l) ∧ Hid (Inv T l Wd k)) (fun i _ => N.length + N'.length - (intOf i).toNat)
  case atStart => exact ⟨0, l1, Wd1, by omega, rfl, HF1, HI1⟩
  case round =>
    clear HF1 HI1
    obtain ⟨wo, hwo⟩ : ∃ wo, wo = wr := ⟨_, rfl⟩
    subst hwo
    obtain ⟨i, l, Wd, hin, rfl, HF, HI⟩ := hrel
    have hiI : (i : Int) < ((N.length + N'.length : Nat) : Int) := by omega
    have hiI0 : (0 : Int) ≤ (i : Int) := by omega
    obtain ⟨p, rt, d, vm, hk, hg⟩ := HF.out.at'
    obtain ⟨am, cm, rfl, hform⟩ := hk.form
    obtain ⟨x0, x1, x2, x3, x4, x5, x6, x7⟩ := hk.cell
    have hll := HF.out.len (by omega)
    have hlw := HF.out.low
    by_cases hil : i < l.length
    · have hne : ¬ (i : Int) = (l.length : Int) := by omega
      have hilI : (i : Int) < (l.length : Int) := by omega
      obtain ⟨g, rfl, d0, d1, d2, d3⟩ := hform i hil
      obtain ⟨hxa, hxb⟩ := hg.inm i hil
      have HQ := hid0 (HI.out.que hil)
      obtain ⟨xa, exa⟩ : ∃ xa, xa = (l.getD i default).a := ⟨_, rfl⟩
      obtain ⟨xb, exb⟩ : ∃ xb, xb = (l.getD i default).b := ⟨_, rfl⟩
      have HXa := hid0 exa
      have HXb := hid0 exb
      rw [← exa] at d0 hxa
      rw [← exb] at d1 hxb
      generalize (l.getD i default).fr = fr at *
      generalize (l.getD i default).sy = sy at *
      obtain ⟨w4, hw4⟩ : ∃ w4, w4 = wo.alloc (.cells #[.int .i64 (xa : Int), .int .i64 (xb : Int), .int .i64 (fr : Int), .int .i64 (sy : Int)] 88) := ⟨_, rfl⟩
      have hB4 : Below wo.heap.size wo w4 := by rw [hw4]; exact (Below.refl _ _).alloc (Nat.le_refl _) _
      have hY4 : w4.heap[wo.heap.size]? = some (.cells #[.int .i64 (xa : Int), .int .i64 (xb : Int), .int .i64 (fr : Int), .int .i64 (sy : Int)] 88 (0, 0)) := by rw [hw4]; exact heap_alloc_new wo _
      have hk4 := hk.past hB4
      have hxO : xa < O.length := by omega
      have hxP : xb < O'.length := by omega
      have hbw : Below wb.heap.size wb wo := by rw [← HLo.out]; exact HF.out.bel
      have HMA4 := hid0 ((HA.out.past hbw).past hB4)
      have HMB4 := hid0 ((HA'.out.past hbw).past hB4)
      obtain ⟨bO, oO, rfl, _, a1, c1, e1, ia1⟩ := HMA4.out.o.at' xa hxO
      obtain ⟨bP, oP, rfl, _, a2, c2, e2, ia2⟩ := HMB4.out.o.at' xb hxP
      obtain ⟨ra, hra⟩ : ∃ ra, ra = O[xa] := ⟨_, rfl⟩
      obtain ⟨rb, hrb⟩ : ∃ rb, rb = O'[xb] := ⟨_, rfl⟩
      rw [← hra] at e1 ia1
      rw [← hrb] at e2 ia2
      have hral : ra.length ≤ 17592186044000 := HOr.out _ (by rw [hra]; exact List.getElem_mem _)
      have HS7 : Hid (∀ V : World, Below w4.heap.size w4 V → V.cell? ⟨X, 2, none⟩ = some (.slice (some ⟨bO, oO, none⟩) O.length cO) ∧ V.cell? ⟨X, 5, none⟩ = some (.slice (some ⟨bP, oP, none⟩) O'.length cP) ∧ V.cell? ⟨wo.heap.size, 0, none⟩ = some (.int .i64 (xa : Int)) ∧ V.cell? ⟨wo.heap.size, 1, none⟩ = some (.int .i64 (xb : Int)) ∧ V.cell? ⟨bO, oO + xa, none⟩ = some (.slice a1 ra.length c1) ∧ V.cell? ⟨bP, oP + xb, none⟩ = some (.slice a2 rb.length c2)) := hid0 (fun V hV => by
        obtain ⟨_, _, q2, _, _, q5, _⟩ := (hk4.past hV).cell
        have hy := (hV.block _ (Array.getElem?_eq_some_iff.1 hY4).1).trans hY4
        exact ⟨q2, q5, by rw [cell_of_row _ _ _ _ _ _ hy]; rfl, by rw [cell_of_row _ _ _ _ _ _ hy]; rfl, (hV.cell (p := ⟨bO, oO + xa, none⟩) (World.block_lt_of_cell? _ _ e1)).trans e1, (hV.cell (p := ⟨bP, oP + xb, none⟩) (World.block_lt_of_cell? _ _ e2)).trans e2⟩)
      have HEq : Hid (∀ V : World, Below w4.heap.size w4 V → Calls Tryd.prog 58 #[.slice a1 ra.length c1, .slice a2 rb.length c2] V fun e w' => e = .returned (.bool (decide (ra = rb))) ∧ ∃ n, w' = V.drewN n) := hid0 (fun V hV => equal_any ra rb a1 a2 c1 c2 V hral (ia1.past hV) (ia2.past hV))
      have hy0 : w4.cell? ⟨wo.heap.size, 0, none⟩ = some (.int .i64 (xa : Int)) := by rw [cell_of_row _ _ _ _ _ _ hY4]; rfl
      have hy1 : w4.cell? ⟨wo.heap.size, 1, none⟩ = some (.int .i64 (xb : Int)) := by rw [cell_of_row _ _ _ _ _ _ hY4]; rfl
      have hxOI : (xa : Int) < (O.length : Int) := by omega
      have hxPI : (xb : Int) < (O'.length : Int) := by omega
      have hxNI : (xa : Int) < (N.length : Int) := by omega
      have hxMI : (xb : Int) < (N'.length : Int) := by omega
      have hxa0 : (0 : Int) ≤ (xa : Int) := by omega
      have hxb0 : (0 : Int) ≤ (xb : Int) := by omega
      have HF4 := hid0 (HF.out.past hlw hB4)
      have HK4 := hid0 hk4
      have HTa : Hid (T.ta (l.getD i default).a = ra) := hid0 (by rw [← HXa.out, HT.out, hra]; exact getD_at hxO)
      have HTb : Hid (T.tb (l.getD i default).b = rb) := hid0 (by rw [← HXb.out, HT.out, hrb]; exact getD_at hxP)
      have HG := hid0 hg
      clear hk hk4 hg hform exa exb hbw hra hrb hoa hob
      have HW4 := hid0 hw4
      clear hw4 hB4 hY4 ia1 ia2
      by_cases hab : ra = rb
      · have HEq2 : Hid (∀ V : World, Below w4.heap.size w4 V → Calls Tryd.prog 58 #[.slice a1 ra.length c1, .slice a2 rb.length c2] V fun e w' => e = .returned (.bool true) ∧ ∃ n, w' = V.drewN n) := hid0 (fun V hV => by have h := HEq.out V hV; rw [decide_eq_true hab] at h; exact h)
        have HAb := hid0 hab
        clear HEq hab
        go_wp2
        rw [← HW4.out]
        refine wp_region_noPanic ?_
        refine wp_region_held_drew (S := (fun V => V.cell? ⟨X, 2, none⟩ = some (.slice (some ⟨bO, oO, none⟩) O.length cO) ∧ V.cell? ⟨X, 5, none⟩ = some (.slice (some ⟨bP, oP, none⟩) O'.length cP) ∧ V.cell? ⟨wo.heap.size, 0, none⟩ = some (.int .i64 (xa : Int)) ∧ V.cell? ⟨wo.heap.size, 1, none⟩ = some (.int .i64 (xb : Int)) ∧ V.cell? ⟨bO, oO + xa, none⟩ = some (.slice a1 ra.length c1) ∧ V.cell? ⟨bP, oP + xb, none⟩ = some (.slice a2 rb.length c2))) (by kernel_rfl) ?_ (fun hHeld => ?_)
        · exact HS7.out _ ⟨rfl, rfl, rfl, Nat.le_refl _, fun _ _ => rfl⟩
        refine tkV (i := 0) (d := some 44) (v := ?_) rfl (by kernel_rfl) (by kernel_rfl) (by kernel_rfl) rfl (fun _ _ _ h => h) (by rfl) ?_ (by assumption) ?_
        rotate_left
        · (intro w hSw; (try dsimp only at hSw); (try simp only [List.getElem_toArray, List.getElem_cons_zero]); go_simp; try with_reducible rfl)
        try simp only [Act.put, List.setIfInBounds_toArray, List.set_cons_zero, List.set_cons_succ]
        refine tkV (i := 1) (d := some 45) (v := ?_) rfl (by kernel_rfl) (by kernel_rfl) (by kernel_rfl) rfl (fun _ _ _ h => h) (by rfl) ?_ (by assumption) ?_
        rotate_left
        · (intro w hSw; (try dsimp only at hSw); (try simp only [List.getElem_toArray, List.getElem_cons_zero, List.getElem_cons_succ]); go_simp; try with_reducible rfl)
        try simp only [Act.put, List.setIfInBounds_toArray, List.set_cons_zero, List.set_cons_succ]
        refine tkV (i := 2) (d := some 46) (v := ?_) rfl (by kernel_rfl) (by kernel_rfl) (by kernel_rfl) rfl (fun _ _ _ h => h) (by rfl) ?_ (by assumption) ?_
        rotate_left
        · (intro w hSw; (try dsimp only at hSw); (try simp only [List.getElem_toArray, List.getElem_cons_zero, List.getElem_cons_succ]); go_simp; try with_reducible rfl)
        try simp only [Act.put, List.setIfInBounds_toArray, List.set_cons_zero, List.set_cons_succ]
        refine tkV (i := 3) (d := some 47) (v := ?_) rfl (by kernel_rfl) (by kernel_rfl) (by kernel_rfl) rfl (fun _ _ _ h => h) (by rfl) ?_ (by assumption) ?_
        rotate_left
        · (intro w hSw; (try dsimp only at hSw); (try simp only [List.getElem_toArray, List.getElem_cons_zero, List.getElem_cons_succ]); go_simp; try with_reducible rfl)
        try simp only [Act.put, List.setIfInBounds_toArray, List.set_cons_zero, List.set_cons_succ]
        refine tkV (i := 4) (d := some 48) (v := ?_) rfl (by kernel_rfl) (by kernel_rfl) (by kernel_rfl) rfl (fun _ _ _ h => h) (by rfl) ?_ (by assumption) ?_
        rotate_left
        · (intro w hSw; (try dsimp only at hSw); (try simp only [List.getElem_toArray, List.getElem_cons_zero, List.getElem_cons_succ]); go_simp; try with_reducible rfl)
        try simp only [Act.put, List.setIfInBounds_toArray, List.set_cons_zero, List.set_cons_succ]
        refine tkV (i := 5) (d := some 49) (v := ?_) rfl (by kernel_rfl) (by kernel_rfl) (by kernel_rfl) rfl (fun _ _ _ h => h) (by rfl) ?_ (by assumption) ?_
        rotate_left
        · (intro w hSw; (try dsimp only at hSw); (try simp only [List.getElem_toArray, List.getElem_cons_zero, List.getElem_cons_succ]); go_simp; try with_reducible rfl)
        try simp only [Act.put, List.setIfInBounds_toArray, List.set_cons_zero, List.set_cons_succ]
        refine tkV (i := 6) (d := some 50) (v := ?_) rfl (by kernel_rfl) (by kernel_rfl) (by kernel_rfl) rfl (fun _ _ _ h => h) (by rfl) ?_ (by assumption) ?_
        rotate_left
        · (intro w hSw; (try dsimp only at hSw); (try simp only [List.getElem_toArray, List.getElem_cons_zero, List.getElem_cons_succ]); go_simp; try with_reducible rfl)
        try simp only [Act.put, List.setIfInBounds_toArray, List.set_cons_zero, List.set_cons_succ]
        refine tkV (i := 7) (d := some 51) (v := ?_) rfl (by kernel_rfl) (by kernel_rfl) (by kernel_rfl) rfl (fun _ _ _ h => h) (by rfl) ?_ (by assumption) ?_
        rotate_left
        · (intro w hSw; (try dsimp only at hSw); (try simp only [List.getElem_toArray, List.getElem_cons_zero, List.getElem_cons_succ]); go_simp; try with_reducible rfl)
        try simp only [Act.put, List.setIfInBounds_toArray, List.set_cons_zero, List.set_cons_succ]
        refine tkV (i := 8) (d := some 52) (v := ?_) rfl (by kernel_rfl) (by kernel_rfl) (by kernel_rfl) rfl (fun _ _ _ h => h) (by rfl) ?_ (by assumption) ?_
        rotate_left
        · (intro w hSw; (try dsimp only at hSw); (try simp only [List.getElem_toArray, List.getElem_cons_zero, List.getElem_cons_succ]); go_simp; try with_reducible rfl)
        try simp only [Act.put, List.setIfInBounds_toArray, List.set_cons_zero, List.set_cons_succ]
        refine tkV (i := 9) (d := some 53) (v := ?_) rfl (by kernel_rfl) (by kernel_rfl) (by kernel_rfl) rfl (fun _ _ _ h => h) (by rfl) ?_ (by assumption) ?_
        rotate_left
        · (intro w hSw; (try dsimp only at hSw); (try simp only [List.getElem_toArray, List.getElem_cons_zero, List.getElem_cons_succ]); go_simp; try with_reducible rfl)
        try simp only [Act.put, List.setIfInBounds_toArray, List.set_cons_zero, List.set_cons_succ]
        refine tkV (i := 10) (d := some 54) (v := ?_) rfl (by kernel_rfl) (by kernel_rfl) (by kernel_rfl) rfl (fun _ _ _ h => h) (by rfl) ?_ (by assumption) ?_
        rotate_left
        · (intro w hSw; (try dsimp only at hSw); (try simp only [List.getElem_toArray, List.getElem_cons_zero, List.getElem_cons_succ]); go_simp; try with_reducible rfl)
        try simp only [Act.put, List.setIfInBounds_toArray, List.set_cons_zero, List.set_cons_succ]
        refine tkV (i := 11) (d := some 55) (v := ?_) rfl (by kernel_rfl) (by kernel_rfl) (by kernel_rfl) rfl (fun _ _ _ h => h) (by rfl) ?_ (by assumption) ?_
        rotate_left
        · (intro w hSw; (try dsimp only at hSw); (try simp only [List.getElem_toArray, List.getElem_cons_zero, List.getElem_cons_succ]); go_simp; try with_reducible rfl)
        try simp only [Act.put, List.setIfInBounds_toArray, List.set_cons_zero, List.set_cons_succ]
        refine tkV (i := 12) (d := some 56) (v := ?_) rfl (by kernel_rfl) (by kernel_rfl) (by kernel_rfl) rfl (fun _ _ _ h => h) (by rfl) ?_ (by assumption) ?_
        rotate_left
        · (intro w hSw; (try dsimp only at hSw); (try simp only [List.getElem_toArray, List.getElem_cons_zero, List.getElem_cons_succ]); go_simp; try with_reducible rfl)
        try simp only [Act.put, List.setIfInBounds_toArray, List.set_cons_zero, List.set_cons_succ]
        refine tkV (i := 13) (d := some 57) (v := ?_) rfl (by kernel_rfl) (by kernel_rfl) (by kernel_rfl) rfl (fun _ _ _ h => h) (by rfl) ?_ (by assumption) ?_
        rotate_left
        · (intro w hSw; (try dsimp only at hSw); (try simp only [List.getElem_toArray, List.getElem_cons_zero, List.getElem_cons_succ]); go_simp; try with_reducible rfl)
        try simp only [Act.put, List.setIfInBounds_toArray, List.set_cons_zero, List.set_cons_succ]
        refine tkV (i := 14) (d := some 58) (v := ?_) rfl (by kernel_rfl) (by kernel_rfl) (by kernel_rfl) rfl (fun _ _ _ h => h) (by rfl) ?_ (by assumption) ?_
        rotate_left
        · (intro w hSw; (try dsimp only at hSw); (try simp only [List.getElem_toArray, List.getElem_cons_zero, List.getElem_cons_succ]); go_simp; try with_reducible rfl)
        try simp only [Act.put, List.setIfInBounds_toArray, List.set_cons_zero, List.set_cons_succ]
        refine tkV (i := 15) (d := some 59) (v := ?_) rfl (by kernel_rfl) (by kernel_rfl) (by kernel_rfl) rfl (fun _ _ _ h => h) (by rfl) ?_ (by assumption) ?_
        rotate_left
        · (intro w hSw; (try dsimp only at hSw); (try simp only [List.getElem_toArray, List.getElem_cons_zero, List.getElem_cons_succ]); go_simp; try with_reducible rfl)
        try simp only [Act.put, List.setIfInBounds_toArray, List.set_cons_zero, List.set_cons_succ]
        refine tkV (i := 16) (d := some 60) (v := ?_) rfl (by kernel_rfl) (by kernel_rfl) (by kernel_rfl) rfl (fun _ _ _ h => h) (by rfl) ?_ (by assumption) ?_
        rotate_left
        · (intro w hSw; (try dsimp only at hSw); (try simp only [List.getElem_toArray, List.getElem_cons_zero, List.getElem_cons_succ]); go_simp; try with_reducible rfl)
        try simp only [Act.put, List.setIfInBounds_toArray, List.set_cons_zero, List.set_cons_succ]
        refine tkV (i := 17) (d := some 61) (v := ?_) rfl (by kernel_rfl) (by kernel_rfl) (by kernel_rfl) rfl (fun _ _ _ h => h) (by rfl) ?_ (by assumption) ?_
        rotate_left
        · (intro w hSw; (try dsimp only at hSw); (try simp only [List.getElem_toArray, List.getElem_cons_zero, List.getElem_cons_succ]); go_simp; try with_reducible rfl)
        try simp only [Act.put, List.setIfInBounds_toArray, List.set_cons_zero, List.set_cons_succ]
        refine wpAnyH_ready (rs := [18]) (by kernel_rfl) (by simp) (AllReadyH.cons rfl (fun K hK => ?_) AllReadyH.nil)
        try simp only [List.getElem_toArray, List.getElem_cons_zero, List.getElem_cons_succ]
        go_simp
        refine (HEq2.out _ (by first | exact Below.refl _ _ | exact ⟨rfl, rfl, rfl, Nat.le_refl _, fun _ _ => rfl⟩)).mono ?_
        rintro e w5 ⟨rfl, nq, hw5⟩
        have HS5 := hid0 (HS7.out w5 (by rw [hw5]; exact ⟨rfl, rfl, rfl, Nat.le_refl _, fun _ _ => rfl⟩))
        have HB5 : Hid (Below w4.heap.size w4 w5) := hid0 (by rw [hw5]; exact ⟨rfl, rfl, rfl, Nat.le_refl _, fun _ _ => rfl⟩)
        clear hw5
        go_wp2_with fail
        refine hK.out _ _ ?_ (fun hHeld18 => ?_)
        · exact HS5.out
        clear hK K
        (try simp only [Act.put]); (try simp only [List.setIfInBounds_toArray]); (try simp only [List.set_cons_succ]); (try simp only [List.set_cons_zero])
        refine tkV (i := 19) (d := some 63) (v := ?_) rfl (by kernel_rfl) (by kernel_rfl) (by kernel_rfl) rfl (fun _ _ _ h => h) (by rfl) ?_ (by assumption) ?_
        rotate_left
        · (intro w hSw; (try dsimp only at hSw); (try simp only [List.getElem_toArray, List.getElem_cons_zero, List.getElem_cons_succ]); go_simp; try with_reducible rfl)
        try simp only [Act.put, List.setIfInBounds_toArray, List.set_cons_zero, List.set_cons_succ]
        refine wpAnyH_done (by kernel_rfl) ?_ _
        refine NoPanic.normal ?_
        obtain ⟨_, x1w, _, _, x4w, _, _, _⟩ := (HK4.out.past HB5.out).cell
        obtain ⟨_, _, y0w, y1w, _, _⟩ := HS7.out w5 HB5.out
        have HF5 := hid0 (HF4.out.past HF4.out.low HB5.out)
        have hbw5 : Below wb.heap.size wb w5 := by have := HF5.out.bel; rw [HLo.out] at this; exact this
        obtain ⟨bN, oN, rfl, hlN, a3, c3, e3b, ia3⟩ := HA.out.n.at' xa hxa
        obtain ⟨bM, oM, rfl, hlM, a4, c4, e4b, ia4⟩ := HA'.out.n.at' xb hxb
        have e3 := (hbw5.cell (p := ⟨bN, oN + xa, none⟩) hlN).trans e3b
        have e4 := (hbw5.cell (p := ⟨bM, oM + xb, none⟩) hlM).trans e4b
        clear e3b e4b hbw5
        have hl3 : N[xa].length = m := HMa.out.row _ (List.getElem_mem _)
        have hl4 : N'[xb].length = m := HMb.out.row _ (List.getElem_mem _)
        have HN3 : Hid (N[xa] = N.getD xa []) := hid0 (getD_at hxa).symm
        have HN4 : Hid (N'[xb] = N'.getD xb []) := hid0 (getD_at hxb).symm
        rw [hl3] at e3
        rw [hl4] at e4
        have HI3 := hid0 ia3
        have HI4 := hid0 ia4
        have HL3 := hid0 hl3
        have HL4 := hid0 hl4
        have HTm : Hid (T.m = m) := hid0 (by rw [HT.out]; rfl)
        have HTf : Hid (T.fa = nxF N ∧ T.fb = nxF N') := hid0 (by rw [HT.out]; exact ⟨rfl, rfl⟩)
        clear hHeld hHeld18 ia3 ia4 hl3 hl4 HS7 HEq2 HS5
        generalize hR3 : N[xa] = r3 at *
        generalize hR4 : N'[xb] = r4 at *
        clear hR3 hR4
        go_wp2
        go_quiet ((fail))
        go_wp2
        go_quiet ((fail))
        go_wp2
        go_loopw [84] (fun k wr => ∃ (c : Nat) (l2 : List Mt) (Wd2 : Nat → List Nat), c ≤ m ∧ k = .int .i64 (c : Int) ∧ Hid (Fst T N.length N'.length lo X G B (.int .i64 (sa : Int)) (.slice (some ⟨bN, oN, none⟩) N.length cN) (.slice (some ⟨bO, oO, none⟩) O.length cO) (.int .i64 (sb : Int)) (.slice (some ⟨bM, oM, none⟩) N'.length cM) (.slice (some ⟨bP, oP, none⟩) O'.length cP) wb wr l2) ∧ Hid (Que T l2 Wd2 i c) ∧ Hid (i < l2.length) ∧ Hid (l2.getD i default = l.getD i default)) (fun k _ => m - (intOf k).toNat)
        case atStart => exact ⟨0, l, Wd, Nat.zero_le _, rfl, hid0 (HF5.out.past HF5.out.low ⟨rfl, rfl, rfl, Nat.le_refl _, fun _ _ => rfl⟩), HQ, hid0 hil, hid0 rfl⟩
        case round =>
          obtain ⟨c, l2, Wd2, hc, rfl, HF2, HQ2, HL2, HE2⟩ := hrel
          by_cases hcm : c < m
          · have hcI : (c : Int) < (m : Int) := by omega
            have hcI0 : (0 : Int) ≤ (c : Int) := by omega
            have hbw : Below wb.heap.size wb wr := by have := HF2.out.bel; rw [HLo.out] at this; exact this
            obtain ⟨b5, o5, rfl, _, d5⟩ := (HI3.out.past hbw).at' c (by have := HL3.out; omega)
            obtain ⟨b6, o6, rfl, _, d6⟩ := (HI4.out.past hbw).at' c (by have := HL4.out; omega)
            obtain ⟨n1, n2, _⟩ := HMa.out.next hxa hcm
            obtain ⟨n3, n4, _⟩ := HMb.out.next hxb hcm
            obtain ⟨ya, hya⟩ : ∃ ya, ya = nxF N xa c := ⟨_, rfl⟩
            obtain ⟨yb, hyb⟩ : ∃ yb, yb = nxF N' xb c := ⟨_, rfl⟩
            rw [← hya] at n1 n2
            rw [← hyb] at n3 n4
            have v5 : r3[c]'(by have := HL3.out; omega) = (ya : Int) := by
              rw [← n2, ← HN3.out, List.getD_eq_getElem?_getD, List.getElem?_eq_getElem (by have := HL3.out; omega)]; rfl
            have v6 : r4[c]'(by have := HL4.out; omega) = (yb : Int) := by
              rw [← n4, ← HN4.out, List.getD_eq_getElem?_getD, List.getElem?_eq_getElem (by have := HL4.out; omega)]; rfl
            rw [v5] at d5
            rw [v6] at d6
            obtain ⟨p2, rt2, dd2, vm2, hk2, hg2⟩ := HF2.out.at'
            have HM2 := hid0 (meet_any T N.length N'.length lo X G B ya yb i c cN _ _ _ _ _ vm2 _ p2 rt2 dd2 l2 wr n1 n3 hbig hk2 hg2)
            have HXe : Hid ((⟨ya, yb, i, c⟩ : Mt) = ⟨T.fa (l2.getD i default).a c, T.fb (l2.getD i default).b c, i, c⟩) := hid0 (by rw [HE2.out, ← HXa.out, ← HXb.out, HTf.out.1, HTf.out.2, hya, hyb])
            have HCm : Hid (c < T.m) := hid0 (by rw [HTm.out]; exact hcm)
            clear hk2 hg2 hya hyb n2 n4 v5 v6 hbw
            go_wp2_with (go_at_call 57; go_loud ((
              refine HM2.out.mono ?_
              rintro e w7 ⟨rfl, hr7⟩
              obtain ⟨l3, hf3, hor⟩ := fst_meet HF2.out.bel hr7
              obtain ⟨Wd3, hq3, hi3, he3⟩ := que_meet HQ2.out HL2.out HCm.out HXe.out hor
              have HF3 := hid0 hf3
              have HQ3 := hid0 hq3
              have HL3' := hid0 hi3
              have HE3 := hid0 (he3.trans HE2.out)
              clear hr7 hf3 hor hq3 hi3 he3)))
            go_roundw
            case rel => exact ⟨c + 1, l3, Wd3, by omega, by go_num, HF3, HQ3, HL3', HE3⟩
            case measure => simp [intOf]; omega
          · have hcI : ¬ (c : Int) < (m : Int) := by omega
            obtain rfl : c = m := by omega
            have HInv : Hid (Inv T l2 Wd2 (i + 1)) := hid0 (.inr ⟨(by rw [HTm.out]; exact HQ2.out : Que T l2 Wd2 i T.m).next (by rw [HE2.out, HTa.out, HTb.out]; exact HAb.out), HL2.out⟩)
            have hn2 := HF2.out.len (by omega)
            have hl2 := HL2.out
            go_wp2
            go_roundw
            case rel => exact ⟨i + 1, l2, Wd2, by omega, by go_num, HF2, HInv⟩
            case measure => simp [intOf]; omega
      · have HEq2 : Hid (∀ V : World, Below w4.heap.size w4 V → Calls Tryd.prog 58 #[.slice a1 ra.length c1, .slice a2 rb.length c2] V fun e w' => e = .returned (.bool false) ∧ ∃ n, w' = V.drewN n) := hid0 (fun V hV => by have h := HEq.out V hV; rw [decide_eq_false hab] at h; exact h)
        have HAb := hid0 hab
        clear HEq hab
        go_wp2
        rw [← HW4.out]
        refine wp_region_noPanic ?_
        refine wp_region_held_drew (S := (fun V => V.cell? ⟨X, 2, none⟩ = some (.slice (some ⟨bO, oO, none⟩) O.length cO) ∧ V.cell? ⟨X, 5, none⟩ = some (.slice (some ⟨bP, oP, none⟩) O'.length cP) ∧ V.cell? ⟨wo.heap.size, 0, none⟩ = some (.int .i64 (xa : Int)) ∧ V.cell? ⟨wo.heap.size, 1, none⟩ = some (.int .i64 (xb : Int)) ∧ V.cell? ⟨bO, oO + xa, none⟩ = some (.slice a1 ra.length c1) ∧ V.cell? ⟨bP, oP + xb, none⟩ = some (.slice a2 rb.length c2))) (by kernel_rfl) ?_ (fun hHeld => ?_)
        · exact HS7.out _ ⟨rfl, rfl, rfl, Nat.le_refl _, fun _ _ => rfl⟩
        refine tkV (i := 0) (d := some 44) (v := ?_) rfl (by kernel_rfl) (by kernel_rfl) (by kernel_rfl) rfl (fun _ _ _ h => h) (by rfl) ?_ (by assumption) ?_
        rotate_left
        · (intro w hSw; (try dsimp only at hSw); (try simp only [List.getElem_toArray, List.getElem_cons_zero]); go_simp; try with_reducible rfl)
        try simp only [Act.put, List.setIfInBounds_toArray, List.set_cons_zero, List.set_cons_succ]
        refine tkV (i := 1) (d := some 45) (v := ?_) rfl (by kernel_rfl) (by kernel_rfl) (by kernel_rfl) rfl (fun _ _ _ h => h) (by rfl) ?_ (by assumption) ?_
        rotate_left
        · (intro w hSw; (try dsimp only at hSw); (try simp only [List.getElem_toArray, List.getElem_cons_zero, List.getElem_cons_succ]); go_simp; try with_reducible rfl)
        try simp only [Act.put, List.setIfInBounds_toArray, List.set_cons_zero, List.set_cons_succ]
        refine tkV (i := 2) (d := some 46) (v := ?_) rfl (by kernel_rfl) (by kernel_rfl) (by kernel_rfl) rfl (fun _ _ _ h => h) (by rfl) ?_ (by assumption) ?_
        rotate_left
        · (intro w hSw; (try dsimp only at hSw); (try simp only [List.getElem_toArray, List.getElem_cons_zero, List.getElem_cons_succ]); go_simp; try with_reducible rfl)
        try simp only [Act.put, List.setIfInBounds_toArray, List.set_cons_zero, List.set_cons_succ]
        refine tkV (i := 3) (d := some 47) (v := ?_) rfl (by kernel_rfl) (by kernel_rfl) (by kernel_rfl) rfl (fun _ _ _ h => h) (by rfl) ?_ (by assumption) ?_
        rotate_left
        · (intro w hSw; (try dsimp only at hSw); (try simp only [List.getElem_toArray, List.getElem_cons_zero, List.getElem_cons_succ]); go_simp; try with_reducible rfl)
        try simp only [Act.put, List.setIfInBounds_toArray, List.set_cons_zero, List.set_cons_succ]
        refine tkV (i := 4) (d := some 48) (v := ?_) rfl (by kernel_rfl) (by kernel_rfl) (by kernel_rfl) rfl (fun _ _ _ h => h) (by rfl) ?_ (by assumption) ?_
        rotate_left
        · (intro w hSw; (try dsimp only at hSw); (try simp only [List.getElem_toArray, List.getElem_cons_zero, List.getElem_cons_succ]); go_simp; try with_reducible rfl)
        try simp only [Act.put, List.setIfInBounds_toArray, List.set_cons_zero, List.set_cons_succ]
        refine tkV (i := 5) (d := some 49) (v := ?_) rfl (by kernel_rfl) (by kernel_rfl) (by kernel_rfl) rfl (fun _ _ _ h => h) (by rfl) ?_ (by assumption) ?_
        rotate_left
        · (intro w hSw; (try dsimp only at hSw); (try simp only [List.getElem_toArray, List.getElem_cons_zero, List.getElem_cons_succ]); go_simp; try with_reducible rfl)
        try simp only [Act.put, List.setIfInBounds_toArray, List.set_cons_zero, List.set_cons_succ]
        refine tkV (i := 6) (d := some 50) (v := ?_) rfl (by kernel_rfl) (by kernel_rfl) (by kernel_rfl) rfl (fun _ _ _ h => h) (by rfl) ?_ (by assumption) ?_
        rotate_left
        · (intro w hSw; (try dsimp only at hSw); (try simp only [List.getElem_toArray, List.getElem_cons_zero, List.getElem_cons_succ]); go_simp; try with_reducible rfl)
        try simp only [Act.put, List.setIfInBounds_toArray, List.set_cons_zero, List.set_cons_succ]
        refine tkV (i := 7) (d := some 51) (v := ?_) rfl (by kernel_rfl) (by kernel_rfl) (by kernel_rfl) rfl (fun _ _ _ h => h) (by rfl) ?_ (by assumption) ?_
        rotate_left
        · (intro w hSw; (try dsimp only at hSw); (try simp only [List.getElem_toArray, List.getElem_cons_zero, List.getElem_cons_succ]); go_simp; try with_reducible rfl)
        try simp only [Act.put, List.setIfInBounds_toArray, List.set_cons_zero, List.set_cons_succ]
        refine tkV (i := 8) (d := some 52) (v := ?_) rfl (by kernel_rfl) (by kernel_rfl) (by kernel_rfl) rfl (fun _ _ _ h => h) (by rfl) ?_ (by assumption) ?_
        rotate_left
        · (intro w hSw; (try dsimp only at hSw); (try simp only [List.getElem_toArray, List.getElem_cons_zero, List.getElem_cons_succ]); go_simp; try with_reducible rfl)
        try simp only [Act.put, List.setIfInBounds_toArray, List.set_cons_zero, List.set_cons_succ]
        refine tkV (i := 9) (d := some 53) (v := ?_) rfl (by kernel_rfl) (by kernel_rfl) (by kernel_rfl) rfl (fun _ _ _ h => h) (by rfl) ?_ (by assumption) ?_
        rotate_left
        · (intro w hSw; (try dsimp only at hSw); (try simp only [List.getElem_toArray, List.getElem_cons_zero, List.getElem_cons_succ]); go_simp; try with_reducible rfl)
        try simp only [Act.put, List.setIfInBounds_toArray, List.set_cons_zero, List.set_cons_succ]
        refine tkV (i := 10) (d := some 54) (v := ?_) rfl (by kernel_rfl) (by kernel_rfl) (by kernel_rfl) rfl (fun _ _ _ h => h) (by rfl) ?_ (by assumption) ?_
        rotate_left
        · (intro w hSw; (try dsimp only at hSw); (try simp only [List.getElem_toArray, List.getElem_cons_zero, List.getElem_cons_succ]); go_simp; try with_reducible rfl)
        try simp only [Act.put, List.setIfInBounds_toArray, List.set_cons_zero, List.set_cons_succ]
        refine tkV (i := 11) (d := some 55) (v := ?_) rfl (by kernel_rfl) (by kernel_rfl) (by kernel_rfl) rfl (fun _ _ _ h => h) (by rfl) ?_ (by assumption) ?_
        rotate_left
        · (intro w hSw; (try dsimp only at hSw); (try simp only [List.getElem_toArray, List.getElem_cons_zero, List.getElem_cons_succ]); go_simp; try with_reducible rfl)
        try simp only [Act.put, List.setIfInBounds_toArray, List.set_cons_zero, List.set_cons_succ]
        refine tkV (i := 12) (d := some 56) (v := ?_) rfl (by kernel_rfl) (by kernel_rfl) (by kernel_rfl) rfl (fun _ _ _ h => h) (by rfl) ?_ (by assumption) ?_
        rotate_left
        · (intro w hSw; (try dsimp only at hSw); (try simp only [List.getElem_toArray, List.getElem_cons_zero, List.getElem_cons_succ]); go_simp; try with_reducible rfl)
        try simp only [Act.put, List.setIfInBounds_toArray, List.set_cons_zero, List.set_cons_succ]
        refine tkV (i := 13) (d := some 57) (v := ?_) rfl (by kernel_rfl) (by kernel_rfl) (by kernel_rfl) rfl (fun _ _ _ h => h) (by rfl) ?_ (by assumption) ?_
        rotate_left
        · (intro w hSw; (try dsimp only at hSw); (try simp only [List.getElem_toArray, List.getElem_cons_zero, List.getElem_cons_succ]); go_simp; try with_reducible rfl)
        try simp only [Act.put, List.setIfInBounds_toArray, List.set_cons_zero, List.set_cons_succ]
        refine tkV (i := 14) (d := some 58) (v := ?_) rfl (by kernel_rfl) (by kernel_rfl) (by kernel_rfl) rfl (fun _ _ _ h => h) (by rfl) ?_ (by assumption) ?_
        rotate_left
        · (intro w hSw; (try dsimp only at hSw); (try simp only [List.getElem_toArray, List.getElem_cons_zero, List.getElem_cons_succ]); go_simp; try with_reducible rfl)
        try simp only [Act.put, List.setIfInBounds_toArray, List.set_cons_zero, List.set_cons_succ]
        refine tkV (i := 15) (d := some 59) (v := ?_) rfl (by kernel_rfl) (by kernel_rfl) (by kernel_rfl) rfl (fun _ _ _ h => h) (by rfl) ?_ (by assumption) ?_
        rotate_left
        · (intro w hSw; (try dsimp only at hSw); (try simp only [List.getElem_toArray, List.getElem_cons_zero, List.getElem_cons_succ]); go_simp; try with_reducible rfl)
        try simp only [Act.put, List.setIfInBounds_toArray, List.set_cons_zero, List.set_cons_succ]
        refine tkV (i := 16) (d := some 60) (v := ?_) rfl (by kernel_rfl) (by kernel_rfl) (by kernel_rfl) rfl (fun _ _ _ h => h) (by rfl) ?_ (by assumption) ?_
        rotate_left
        · (intro w hSw; (try dsimp only at hSw); (try simp only [List.getElem_toArray, List.getElem_cons_zero, List.getElem_cons_succ]); go_simp; try with_reducible rfl)
        try simp only [Act.put, List.setIfInBounds_toArray, List.set_cons_zero, List.set_cons_succ]
        refine tkV (i := 17) (d := some 61) (v := ?_) rfl (by kernel_rfl) (by kernel_rfl) (by kernel_rfl) rfl (fun _ _ _ h => h) (by rfl) ?_ (by assumption) ?_
        rotate_left
        · (intro w hSw; (try dsimp only at hSw); (try simp only [List.getElem_toArray, List.getElem_cons_zero, List.getElem_cons_succ]); go_simp; try with_reducible rfl)
        try simp only [Act.put, List.setIfInBounds_toArray, List.set_cons_zero, List.set_cons_succ]
        refine wpAnyH_ready (rs := [18]) (by kernel_rfl) (by simp) (AllReadyH.cons rfl (fun K hK => ?_) AllReadyH.nil)
        try simp only [List.getElem_toArray, List.getElem_cons_zero, List.getElem_cons_succ]
        go_simp
        refine (HEq2.out _ (by first | exact Below.refl _ _ | exact ⟨rfl, rfl, rfl, Nat.le_refl _, fun _ _ => rfl⟩)).mono ?_
        rintro e w5 ⟨rfl, nq, hw5⟩
        have HS5 := hid0 (HS7.out w5 (by rw [hw5]; exact ⟨rfl, rfl, rfl, Nat.le_refl _, fun _ _ => rfl⟩))
        have HB5 : Hid (Below w4.heap.size w4 w5) := hid0 (by rw [hw5]; exact ⟨rfl, rfl, rfl, Nat.le_refl _, fun _ _ => rfl⟩)
        clear hw5
        go_wp2_with fail
        refine hK.out _ _ ?_ (fun hHeld18 => ?_)
        · exact HS5.out
        clear hK K
        (try simp only [Act.put]); (try simp only [List.setIfInBounds_toArray]); (try simp only [List.set_cons_succ]); (try simp only [List.set_cons_zero])
        refine tkV (i := 19) (d := some 63) (v := ?_) rfl (by kernel_rfl) (by kernel_rfl) (by kernel_rfl) rfl (fun _ _ _ h => h) (by rfl) ?_ (by assumption) ?_
        rotate_left
        · (intro w hSw; (try dsimp only at hSw); (try simp only [List.getElem_toArray, List.getElem_cons_zero, List.getElem_cons_succ]); go_simp; try with_reducible rfl)
        try simp only [Act.put, List.setIfInBounds_toArray, List.set_cons_zero, List.set_cons_succ]
        refine wpAnyH_done (by kernel_rfl) ?_ _
        refine NoPanic.normal ?_
        have HFin : Hid (FuR T lo X G B (N.length + N'.length) (.int .i64 (sa : Int)) (.slice aN N.length cN) (.slice (some ⟨bO, oO, none⟩) O.length cO) (.int .i64 (sb : Int)) (.slice aM N'.length cM) (.slice (some ⟨bP, oP, none⟩) O'.length cP) wb (.returned (.tuple #[.int .i64 (i : Int), .bool true])) w5) := hid0 (.inl ⟨i, _, _, l, Wd, rfl, HK4.out.past HB5.out, HQ.out.met, hil, by omega, HQ.out.found hil (by rw [HTa.out, HTb.out]; exact HAb.out), (HF4.out.past HF4.out.low HB5.out).bel⟩)
        clear hHeld hHeld18 HS7 HEq2 HS5
        go_wp2
        go_returns
        exact HFin.out
    · have he : i = l.length := by have := HI.out.le; omega
      have heI : (i : Int) = (l.length : Int) := by omega
      have HFin : Hid (FuR T lo X G B (N.length + N'.length) (.int .i64 (sa : Int)) (.slice aN N.length cN) (.slice aO O.length cO) (.int .i64 (sb : Int)) (.slice aM N'.length cM) (.slice aP O'.length cP) wb (.returned (.tuple #[.int .i64 0, .bool false])) wo) := hid0 (.inr ⟨rfl, HI.out.none he, HF.out.bel⟩)
      clear hform he hk hg
      go_wp2
      go_returns
      exact HFin.out
end Go.Proofs.YthoogkpiacopiaaDoor
namespace Go.Proofs.YthoogkpiacopiaaDoor
open Go.RowKit Go.Shelf
/-- What is asked of the rows from a place on. -/
def mayR (N O : List (List Int)) (m : Int) (k : Nat) : Bool := (N.drop k).all (fun r => decide ((r.length : Int) = m) && r.all (oneOf N.length)) && (O.drop k).all (upF 0)
theorem mayF_R {st m : Int} {N O : List (List Int)} (h0 : 0 ≤ m) (h1 : O.length = N.length) (h2 : oneOf N.length st = true) : mayF st N O m = mayR N O m 0 := by
  unfold mayF mayR
  rw [decide_eq_true h0, decide_eq_true h1, h2]
  simp
theorem mayR_step {N O : List (List Int)} {m : Int} {k : Nat} (hN : k < N.length) (hO : k < O.length) : mayR N O m k = ((decide ((N[k].length : Int) = m) && N[k].all (oneOf N.length) && upF 0 O[k]) && mayR N O m (k + 1)) := by
  unfold mayR
  rw [List.drop_eq_getElem_cons hN, List.drop_eq_getElem_cons hO, List.all_cons, List.all_cons]
  cases decide ((N[k].length : Int) = m) <;> cases N[k].all (oneOf N.length) <;> cases upF 0 O[k] <;> simp
theorem mayR_end {N O : List (List Int)} {m : Int} {k : Nat} (hN : N.length ≤ k) (hO : O.length ≤ k) : mayR N O m k = true := by
  unfold mayR
  rw [List.drop_eq_nil_of_le hN, List.drop_eq_nil_of_le hO]
  rfl
set_option maxRecDepth 10000 in
set_option maxHeartbeats 1600000 in
theorem mayBe_any (st sy : Int) (N O : List (List Int)) (aN aO : Option Addr) (cN cO : Nat) (w : World) (hN : N.length ≤ 17592186043904) (hNr : ∀ r ∈ N, r.length ≤ 17592186043904) (hOr : ∀ r ∈ O, r.length ≤ 17592186043904) (ha : RwA w aN N) (hb : RwA w aO O) :
    Calls Tryd.prog 30 #[.agg #[.int .i64 st, .slice aN N.length cN, .slice aO O.length cO], .int .i64 sy] w fun e w' => e = .returned (.bool (mayF st N O sy)) ∧ Below w.heap.size w w' := by
  obtain ⟨w0, hw0⟩ : ∃ w0, w0 = w.alloc (.cells #[.int .i64 st, .slice aN N.length cN, .slice aO O.length cO] 24) := ⟨_, rfl⟩
  have hB0 : Below w.heap.size w w0 := by rw [hw0]; exact (Below.refl _ _).alloc (Nat.le_refl _) _
  have hX0 : w0.heap[w.heap.size]? = some (.cells #[.int .i64 st, .slice aN N.length cN, .slice aO O.length cO] 24 (0, 0)) := by rw [hw0]; exact heap_alloc_new w _
  have HB0 := hid0 hB0
  have HA := hid0 (ha.past hB0)
  have HB := hid0 (hb.past hB0)
  have x0 : w0.cell? ⟨w.heap.size, 0, none⟩ = some (.int .i64 st) := by rw [cell_of_row _ _ _ _ _ _ hX0]; rfl
  have x1 : w0.cell? ⟨w.heap.size, 1, none⟩ = some (.slice aN N.length cN) := by rw [cell_of_row _ _ _ _ _ _ hX0]; rfl
  have x2 : w0.cell? ⟨w.heap.size, 2, none⟩ = some (.slice aO O.length cO) := by rw [cell_of_row _ _ _ _ _ _ hX0]; rfl
  have HNr := hid0 hNr
  have HOr := hid0 hOr
  have HOn := hid0 (isOneOf_any N.length st w0)
  clear ha hb hB0 hX0 hNr hOr
  have hfold := hw0.symm
  clear hw0
  by_cases h1 : sy < 0
  case pos =>
    have HV : Hid (mayF st N O sy = false) := hid0 (by unfold mayF; rw [decide_eq_false (by omega)]; rfl)
    go_enter Tryd.func30, Tryd.ntmps30
    go_wp2
    go_ret
    exact ⟨by rw [HV.out]; rfl, HB0.out⟩
  by_cases h2 : (O.length : Int) = (N.length : Int)
  case neg =>
    have HV : Hid (mayF st N O sy = false) := hid0 (by unfold mayF; rw [decide_eq_false (p := O.length = N.length) (by omega), Bool.and_false]; rfl)
    go_enter Tryd.func30, Tryd.ntmps30
    go_wp2
    go_ret
    exact ⟨by rw [HV.out]; rfl, HB0.out⟩
  have HL : Hid (O.length = N.length) := hid0 (by omega)
  cases h3 : oneOf N.length st with
  | false =>
    have HV : Hid (mayF st N O sy = false) := hid0 (by unfold mayF; rw [h3, Bool.and_false]; rfl)
    rw [h3] at HOn
    clear h3
    go_enter Tryd.func30, Tryd.ntmps30
    go_wp2_with (go_at_call 54; refine HOn.out.mono ?_; rintro e w1 ⟨rfl, hw⟩; have hw' := hw.symm; subst hw'; clear hw)
    go_ret
    exact ⟨by rw [HV.out]; rfl, HB0.out⟩
  | true =>
    have HV0 : Hid (mayF st N O sy = mayR N O sy 0) := hid0 (mayF_R (by omega) HL.out h3)
    rw [h3] at HOn
    clear h3
    go_enter Tryd.func30, Tryd.ntmps30
    go_wp2_with (go_at_call 54; refine HOn.out.mono ?_; rintro e w1 ⟨rfl, hw⟩; have hw' := hw.symm; subst hw'; clear hw)
    go_loopw [27] (fun i wr => ∃ k : Nat, k ≤ N.length ∧ i = .int .i64 (k : Int) ∧ wr = w0 ∧ Hid (mayR N O sy k = mayF st N O sy)) (fun i _ => N.length - (intOf i).toNat)
    case atStart => exact ⟨0, Nat.zero_le _, rfl, rfl, hid0 HV0.out.symm⟩
    case round =>
      obtain ⟨k, hk, rfl, rfl, HD⟩ := hrel
      by_cases hlt : k < N.length
      · obtain ⟨b, off, rfl, _, a1, c1, d1, i1⟩ := HA.out.at' k hlt
        have hlO : k < O.length := by have := HL.out; omega
        obtain ⟨b2, off2, rfl, _, a2, c2, d2, i2⟩ := HB.out.at' k hlO
        have hkI : (k : Int) < (N.length : Int) := by omega
        have hkO : (k : Int) < (O.length : Int) := by omega
        have hkI0 : (0 : Int) ≤ (k : Int) := by omega
        have HS := hid0 (mayR_step (m := sy) hlt hlO)
        have HC1 := hid0 (allOf_any N.length N[k] a1 c1 wr (HNr.out _ (List.getElem_mem hlt)) i1)
        have HC2 := hid0 (rises_any O[k] a2 c2 wr (HOr.out _ (List.getElem_mem hlO)) i2)
        clear i1 i2
        generalize N[k] = r at *
        generalize O[k] = o at *
        by_cases g1 : (r.length : Int) = sy
        · cases g2 : r.all (oneOf N.length) with
          | false =>
            have HV : Hid (mayF st N O sy = false) := hid0 (by rw [← HD.out, HS.out, g2, Bool.and_false]; rfl)
            rw [g2] at HC1
            clear g2 HS HD
            go_wp2_with (go_at_call 55; refine HC1.out.mono ?_; rintro e w1 ⟨rfl, hw⟩; have hw' := hw.symm; subst hw'; clear hw)
            go_ret
            exact ⟨by rw [HV.out]; rfl, HB0.out⟩
          | true =>
            rw [g2] at HC1
            cases g3 : upF 0 o with
            | false =>
              have HV : Hid (mayF st N O sy = false) := hid0 (by rw [← HD.out, HS.out, g3, Bool.and_false]; rfl)
              rw [g3] at HC2
              clear g2 g3 HS HD
              go_wp2_with (first | (go_at_call 55; refine HC1.out.mono ?_; rintro e w1 ⟨rfl, hw⟩; have hw' := hw.symm; subst hw'; clear hw) | (go_at_call 56; refine HC2.out.mono ?_; rintro e w1 ⟨rfl, hw⟩; have hw' := hw.symm; subst hw'; clear hw))
              go_ret
              exact ⟨by rw [HV.out]; rfl, HB0.out⟩
            | true =>
              have HV : Hid (mayR N O sy (k + 1) = mayF st N O sy) := hid0 (by rw [← HD.out, HS.out, g2, g3, decide_eq_true g1]; rfl)
              rw [g3] at HC2
              clear g2 g3 HS HD
              go_wp2_with (first | (go_at_call 55; refine HC1.out.mono ?_; rintro e w1 ⟨rfl, hw⟩; have hw' := hw.symm; subst hw'; clear hw) | (go_at_call 56; refine HC2.out.mono ?_; rintro e w1 ⟨rfl, hw⟩; have hw' := hw.symm; subst hw'; clear hw))
              go_roundw
              case rel => exact ⟨k + 1, by omega, by go_num, trivial, HV⟩
              case measure => simp [intOf]; omega
        · have HV : Hid (mayF st N O sy = false) := hid0 (by rw [← HD.out, HS.out, decide_eq_false g1]; rfl)
          clear HS HD
          go_wp2
          go_ret
          exact ⟨by rw [HV.out]; rfl, HB0.out⟩
      · have hkI : ¬ (k : Int) < (N.length : Int) := by omega
        have HV : Hid (mayF st N O sy = true) := hid0 (by rw [← HD.out]; exact mayR_end (by omega) (by have := HL.out; omega))
        clear HD
        go_wp2
        go_ret
        exact ⟨by rw [HV.out]; rfl, HB0.out⟩
end Go.Proofs.YthoogkpiacopiaaDoor
