/-
  PlFW, PlGM, PlGW, PlHW, PlIM, PlNM, ExTk, PlIW, PlJW, PlNW.
-/
import Derived.Test.YtbbejfkgopcjoaaDoorNeaa
import Derived.Deep.Cut
import Derived.Laws.CopyOwn
import Derived.Laws.OwnMore
import Derived.OwnWalk
import Derived.Test.YtbbejfkgopcjoaaDoorProg
import Derived.WalkKit
import Derived.Deep.RegionHeld3
import Derived.BigRegion
namespace Go.Proofs.YtbbejfkgopcjoaaDoor
open Go.RowKit Go.Shelf
theorem sumL_le {L : List (List Int)} (hr : ∀ r ∈ L, r.length ≤ 4000000) (hl : L.length ≤ 4000000) (k : Nat) : sumL (L.take k) ≤ 16000000000000 := by
  have key : ∀ M : List (List Int), (∀ r ∈ M, r.length ≤ 4000000) → sumL M ≤ M.length * 4000000 := by
    intro M
    induction M with
    | nil => intro _; simp [sumL]
    | cons x M ih =>
      intro h
      have h1 := ih (fun r hr => h r (List.mem_cons_of_mem _ hr))
      have h2 := h x List.mem_cons_self
      have e : sumL (x :: M) = x.length + sumL M := by simp [sumL]
      rw [e, List.length_cons]
      omega
  have h3 := key (L.take k) (fun r hr' => hr r (List.mem_of_mem_take hr'))
  have h4 : (L.take k).length ≤ L.length := by rw [List.length_take]; omega
  omega
set_option maxRecDepth 10000 in
set_option maxHeartbeats 6400000 in
theorem refCheck_any (sy : Int) (aL aF aA aO : Option Addr) (cL cF cA cO : Nat) (Le Fo : List (List Int)) (Fi La : List Int) (em : Bool) (w : World) (hp : PosA w aL aF aA aO Le Fo Fi La) :
    Calls Tryd.prog 61 #[posV aL aF aA aO cL cF cA cO Le Fo Fi La em, .int .i64 sy] w fun e w' => e = .returned (.int .i64 (numP (chkP Le Fo Fi La sy))) ∧ Below w.heap.size w w' := by
  unfold posV
  obtain ⟨w0, hw0⟩ : ∃ w0, w0 = w.alloc (.cells #[.slice aL Le.length cL, .slice aF Fi.length cF, .slice aA La.length cA, .slice aO Fo.length cO, .bool em] 46) := ⟨_, rfl⟩
  have hB0 : Below w.heap.size w w0 := by rw [hw0]; exact (Below.refl _ _).alloc (Nat.le_refl _) _
  have hX0 : w0.heap[w.heap.size]? = some (.cells #[.slice aL Le.length cL, .slice aF Fi.length cF, .slice aA La.length cA, .slice aO Fo.length cO, .bool em] 46 (0, 0)) := by rw [hw0]; exact heap_alloc_new w _
  have HB0 := hid0 hB0
  have hp0 := hp.past hB0
  obtain ⟨x0, x1, x2, x3, x4⟩ := row5 hX0
  have hl1 := hp.l1
  have hl4 := hp.l4
  have HFo := hid0 hp0.fo
  have HLe := hid0 hp0.le
  have HFoR := hid0 hp.r4
  have HLeR := hid0 hp.r1
  have HFoS := hid0 (fun k => sumL_le hp.r4 hp.l4 k)
  have HLeS := hid0 (fun k => sumL_le hp.r1 hp.l1 k)
  have R1 := hid0 (refAll_any sy Le aL cL w0 (by omega) (fun r hr => by have := hp.r1 r hr; omega) hp0.le)
  have R2 := hid0 (fun q => refAll_any Le.length Fo aO cO (w0.drewN q) (by omega) (fun r hr => by have := hp.r4 r hr; omega) (hp0.fo.drewN q))
  have R3 := hid0 (fun q => refRises_any Le.length Fi aF cF (w0.drewN q) (by have := hp.l2; omega) ⟨hp0.fi.at'⟩)
  have R4 := hid0 (fun q => refRises_any Le.length La aA cA (w0.drewN q) (by have := hp.l3; omega) ⟨hp0.la.at'⟩)
  have hfold := hw0.symm
  clear hw0 hp hp0 hB0 hX0
  go_enter Tryd.func61, Tryd.ntmps61
  go_wp2
  go_loopw [5, 6] (fun s i wr => ∃ (k : Nat), k ≤ Fo.length ∧ i = .int .i64 (k : Int) ∧ s = .int .i64 (sumL (Fo.take k) : Int) ∧ wr = w0) (fun _ i _ => Fo.length - (intOf i).toNat)
  case atStart => exact ⟨0, Nat.zero_le _, rfl, rfl, rfl⟩
  case round =>
    obtain ⟨k, hk, rfl, rfl, hwr⟩ := hrel
    have hwr' := hwr.symm
    subst hwr'
    clear hwr
    have hsm := HFoS.out k
    by_cases hlt : k < Fo.length
    · obtain ⟨b3, off, rfl, _, a1, c1, d1, i1⟩ := HFo.out.at' k hlt
      have hkI : (k : Int) < (Fo.length : Int) := by omega
      have hkI0 : (0 : Int) ≤ (k : Int) := by omega
      have hst := sumL_take hlt
      have hrl := HFoR.out _ (List.getElem_mem hlt)
      clear i1
      generalize (Fo[k]).length = n at *
      have HST := hid0 hst
      clear hst
      generalize sumL (Fo.take k) = m at *
      go_wp2
      go_roundw
      case rel => exact ⟨k + 1, by omega, by go_num, by rw [HST.out]; go_num, trivial⟩
      case measure => simp [intOf]; omega
    · have hkI : ¬ (k : Int) < (Fo.length : Int) := by omega
      have hkn : k = Fo.length := by omega
      have hfin : sumL (Fo.take k) = sumL Fo := by rw [hkn, List.take_length]
      have hqHFo : sumL Fo ≤ 16000000000000 := by rw [← hfin]; exact hsm
      rw [hfin]
      clear hsm hlt hkn hfin
      go_wp2
      go_loopw [7, 8] (fun s i wr => ∃ (k : Nat), k ≤ Le.length ∧ i = .int .i64 (k : Int) ∧ s = .int .i64 (sumL (Le.take k) : Int) ∧ wr = w0) (fun _ i _ => Le.length - (intOf i).toNat)
      case atStart => exact ⟨0, Nat.zero_le _, rfl, rfl, rfl⟩
      case round =>
        obtain ⟨k, hk, rfl, rfl, hwr⟩ := hrel
        have hwr' := hwr.symm
        subst hwr'
        clear hwr
        have hsm := HLeS.out k
        by_cases hlt : k < Le.length
        · obtain ⟨b3, off, rfl, _, a1, c1, d1, i1⟩ := HLe.out.at' k hlt
          have hkI : (k : Int) < (Le.length : Int) := by omega
          have hkI0 : (0 : Int) ≤ (k : Int) := by omega
          have hst := sumL_take hlt
          have hrl := HLeR.out _ (List.getElem_mem hlt)
          clear i1
          generalize (Le[k]).length = n at *
          have HST := hid0 hst
          clear hst
          generalize sumL (Le.take k) = m at *
          go_wp2
          go_roundw
          case rel => exact ⟨k + 1, by omega, by go_num, by rw [HST.out]; go_num, trivial⟩
          case measure => simp [intOf]; omega
        · have hkI : ¬ (k : Int) < (Le.length : Int) := by omega
          have hkn : k = Le.length := by omega
          have hfin : sumL (Le.take k) = sumL Le := by rw [hkn, List.take_length]
          have hqHLe : sumL Le ≤ 16000000000000 := by rw [← hfin]; exact hsm
          rw [hfin]
          clear hsm hlt hkn hfin
          by_cases h1 : (Le.length : Int) > 4000
          case pos =>
            have HV : Hid (chkP Le Fo Fi La sy = some 2) := hid0 (by unfold chkP; rw [if_pos (.inl (by omega))])
            go_wp2
            go_ret
            exact ⟨by rw [HV.out]; rfl, HB0.out⟩
          by_cases h2 : (sumL Le : Int) > 4194304
          case pos =>
            have HV : Hid (chkP Le Fo Fi La sy = some 2) := hid0 (by unfold chkP; rw [if_pos (.inr (.inl (by omega)))])
            go_wp2
            go_ret
            exact ⟨by rw [HV.out]; rfl, HB0.out⟩
          by_cases h3 : (sumL Fo : Int) > 1048576
          case pos =>
            have HV : Hid (chkP Le Fo Fi La sy = some 2) := hid0 (by unfold chkP; rw [if_pos (.inr (.inr (by omega)))])
            go_wp2
            go_ret
            exact ⟨by rw [HV.out]; rfl, HB0.out⟩
          have HC : Hid (chkP Le Fo Fi La sy = if sy < 1 ∨ 16384 < sy ∨ ¬ Fo.length = Le.length then some 0 else if riseA sy Le && plRise Le.length Fi La Fo then none else some 0) := hid0 (by unfold chkP; rw [if_neg (by omega)])
          by_cases h4 : sy < 1
          case pos =>
            have HV : Hid (chkP Le Fo Fi La sy = some 0) := hid0 (by rw [HC.out, if_pos (.inl h4)])
            go_wp2
            go_ret
            exact ⟨by rw [HV.out]; rfl, HB0.out⟩
          by_cases h5 : sy > 16384
          case pos =>
            have HV : Hid (chkP Le Fo Fi La sy = some 0) := hid0 (by rw [HC.out, if_pos (.inr (.inl h5))])
            go_wp2
            go_ret
            exact ⟨by rw [HV.out]; rfl, HB0.out⟩
          by_cases h6 : (Fo.length : Int) = (Le.length : Int)
          case neg =>
            have h6n : ¬ Fo.length = Le.length := by omega
            have h6b : ((Fo.length : Int) != (Le.length : Int)) = true := by simp; omega
            have h6c : (Fo.length != Le.length) = true := by simp; omega
            have HV : Hid (chkP Le Fo Fi La sy = some 0) := hid0 (by rw [HC.out, if_pos (.inr (.inr (by omega)))])
            go_wp2
            go_ret
            exact ⟨by rw [HV.out]; rfl, HB0.out⟩
          have HC2 : Hid (chkP Le Fo Fi La sy = if riseA sy Le && plRise Le.length Fi La Fo then none else some 0) := hid0 (by rw [HC.out, if_neg (by omega)])
          clear HC
          unfold plRise at HC2
          generalize riseA sy Le = g1 at *
          generalize riseA (Le.length : Int) Fo = g2 at *
          generalize riseF (Le.length : Int) 0 Fi = g3 at *
          generalize riseF (Le.length : Int) 0 La = g4 at *
          cases g1 <;> cases g2 <;> cases g3 <;> cases g4
          all_goals
            obtain ⟨vv, hvv⟩ : ∃ vv, chkP Le Fo Fi La sy = vv := ⟨_, rfl⟩
            have HV : Hid (chkP Le Fo Fi La sy = vv) := hid0 hvv
            rw [hvv] at HC2
            have hv2 := HC2.out
            simp at hv2
            clear hvv HC2
            subst hv2
            go_wp2_with (first
              | (go_at_call 86; have hq := HQ3.out; refine (R4.out _).mono ?_; rintro e w4 ⟨rfl, hw4⟩; obtain ⟨q4, rfl⟩ := drew_add hw4; clear hw4 hq)
              | (go_at_call 86; (fail_if_success (have hq := HQ3.out)); refine (R3.out _).mono ?_; rintro e w3 ⟨rfl, hw3⟩; obtain ⟨q3, rfl⟩ := drew_add hw3; clear hw3; have HQ3 : Hid True := hid0 trivial)
              | (go_at_call 85; have hq := HQ1.out; refine (R2.out _).mono ?_; rintro e w2 ⟨rfl, hw2⟩; obtain ⟨q2, rfl⟩ := drew_add hw2; clear hw2 hq)
              | (go_at_call 85; (fail_if_success (have hq := HQ1.out)); refine R1.out.mono ?_; rintro e w1 ⟨rfl, q1, hw1⟩; subst hw1; have HQ1 : Hid True := hid0 trivial)
              | fail)
            go_ret
            exact ⟨by rw [HV.out]; rfl, below_drew' HB0.out _⟩
end Go.Proofs.YtbbejfkgopcjoaaDoor
namespace Go.Proofs.YtbbejfkgopcjoaaDoor
open Go.RowKit Go.Shelf
/-- Numbers in memory, in a block from lo on. -/
structure IQ (w : World) (lo : Nat) (a : Option Addr) (L : List Int) : Prop where
  at' : ∀ k (h : k < L.length), ∃ b off, a = some ⟨b, off, none⟩ ∧ lo ≤ b ∧ b < w.heap.size ∧ w.cell? ⟨b, off + k, none⟩ = some (.int .i64 L[k])
theorem IQ.ia {w : World} {lo : Nat} {a : Option Addr} {L : List Int} (h : IQ w lo a L) : IA w a L := ⟨fun k hk => by
  obtain ⟨b, off, e, _, h1, h2⟩ := h.at' k hk
  exact ⟨b, off, e, h1, h2⟩⟩
theorem IQ.keep {w w' : World} {lo : Nat} {a : Option Addr} {L : List Int} (h : IQ w lo a L) (hs : w.heap.size ≤ w'.heap.size) (hk : ∀ k, lo ≤ k → k < w.heap.size → w'.heap[k]? = w.heap[k]?) : IQ w' lo a L := ⟨fun k hk' => by
  obtain ⟨b, off, e, h0, h1, h2⟩ := h.at' k hk'
  exact ⟨b, off, e, h0, by omega, (World.cell?_of_block (w := w) (hk b h0 h1)).trans h2⟩⟩
/-- Lists of numbers likewise. -/
structure RwQ (w : World) (lo : Nat) (a : Option Addr) (L : List (List Int)) : Prop where
  at' : ∀ k (h : k < L.length), ∃ b off, a = some ⟨b, off, none⟩ ∧ lo ≤ b ∧ b < w.heap.size ∧ ∃ a1 c1, w.cell? ⟨b, off + k, none⟩ = some (.slice a1 (L[k]).length c1) ∧ IQ w lo a1 L[k]
theorem RwQ.rwa {w : World} {lo : Nat} {a : Option Addr} {L : List (List Int)} (h : RwQ w lo a L) : RwA w a L := ⟨fun k hk => by
  obtain ⟨b, off, e, _, h1, a1, c1, h2, h3⟩ := h.at' k hk
  exact ⟨b, off, e, h1, a1, c1, h2, h3.ia⟩⟩
theorem RwQ.keep {w w' : World} {lo : Nat} {a : Option Addr} {L : List (List Int)} (h : RwQ w lo a L) (hs : w.heap.size ≤ w'.heap.size) (hk : ∀ k, lo ≤ k → k < w.heap.size → w'.heap[k]? = w.heap[k]?) : RwQ w' lo a L := ⟨fun k hk' => by
  obtain ⟨b, off, e, h0, h1, a1, c1, h2, h3⟩ := h.at' k hk'
  exact ⟨b, off, e, h0, by omega, a1, c1, (World.cell?_of_block (w := w) (hk b h0 h1)).trans h2, h3.keep hs hk⟩⟩
theorem OwnI.past {w w' : World} {base : Nat} {v : Value} {L : List Int} (h : OwnI w base v L) (hb : Below w.heap.size w w') : OwnI w' base v L := own_blk h (fun k hk => hb.block k (World.ownsRow.lt h k hk).2)
theorem row_later {w w' : World} {base : Nat} {t : TypeId} {size n : Nat} {v : Value} {xs : List Value} (h : w.ownsRow base t size v n xs) (hb : Below w.heap.size w w') : w'.ownsRow base t size v n xs := own_blk h (fun k hk => hb.block k (World.ownsRow.lt h k hk).2)
abbrev Lot := List (Value × List Int)
structure Bag (w : World) (base : Nat) (v : Value) (ps : Lot) : Prop where
  outer : w.ownsRow base 34 1 v ps.length (ps.map (·.1))
  row : ∀ x ∈ ps, OwnI w base x.1 x.2
  apart : ps.Pairwise fun x y => ∀ g, x.1.ownBlock = some g → y.1.ownBlock ≠ some g
  away : ∀ x ∈ ps, ∀ g, v.ownBlock = some g → x.1.ownBlock ≠ some g
theorem Bag.nil (w : World) (base : Nat) : Bag w base (.slice none 0 0) [] := ⟨World.ownsRow_nil _ _ _ _, by simp, List.Pairwise.nil, by simp⟩
theorem Bag.later {w w' : World} {base : Nat} {v : Value} {ps : Lot} (h : Bag w base v ps) (hb : Below w.heap.size w w') : Bag w' base v ps :=
  ⟨row_later h.outer hb, fun x hx => (h.row x hx).past hb, h.apart, h.away⟩
/-- All lists empty. -/
theorem Bag.made {w : World} {base : Nat} {v : Value} {n : Nat} (h : w.ownsRow base 34 1 v n (List.replicate n (.slice none 0 0))) : Bag w base v (List.replicate n (.slice none 0 0, [])) := by
  refine ⟨?_, ?_, ?_, ?_⟩
  · rw [List.length_replicate, List.map_replicate]; exact h
  · intro x hx
    rw [List.eq_of_mem_replicate hx]
    exact World.ownsRow_nil _ _ _ _
  · rw [List.pairwise_replicate]
    right
    intro g hg
    cases hg
  · intro x hx g _ hxg
    rw [List.eq_of_mem_replicate hx] at hxg
    cases hxg
/-- One list is another one. -/
theorem Bag.set {W w1 : World} {base g n c : Nat} {ps : Lot} (h : Bag W base (.slice (some ⟨g, 0, none⟩) n c) ps) (hn : n = ps.length) (y : Nat) (hy : y < ps.length) {v' : Value} {l' : List Int}
    (hk : ∀ k, k < W.heap.size → (ps[y]).1.ownBlock ≠ some k → w1.heap[k]? = W.heap[k]?) (hv : OwnI w1 base v' l') (hnew : ∀ q, v'.ownBlock = some q → (ps[y]).1.ownBlock = some q ∨ W.heap.size ≤ q) :
    Bag (w1.setCell ⟨g, y, none⟩ v') base (.slice (some ⟨g, 0, none⟩) n c) (ps.set y (v', l')) := by
  subst hn
  have hmem : ps[y] ∈ ps := List.getElem_mem hy
  have hgl := World.ownsRow.lt h.outer g rfl
  have hvg : ∀ q, v'.ownBlock = some q → q ≠ g := fun q hq e => by
    subst e
    rcases hnew q hq with h1 | h1
    · exact h.away _ hmem q rfl h1
    · omega
  have hyg : (ps[y]).1.ownBlock ≠ some g := h.away _ hmem g rfl
  have hout1 : w1.ownsRow base 34 1 (.slice (some ⟨g, 0, none⟩) ps.length c) ps.length (ps.map (·.1)) := own_blk h.outer (fun k hk' => by
    have e : g = k := by simpa [Value.ownBlock] using hk'
    subst e
    exact hk g hgl.2 hyg)
  have hother : ∀ {t : TypeId} {size m : Nat} {u : Value} {xs : List Value}, w1.ownsRow base t size u m xs → (∀ q, u.ownBlock = some q → q ≠ g) → (w1.setCell ⟨g, y, none⟩ v').ownsRow base t size u m xs := by
    intro t size m u xs ho hne
    exact own_blk ho (fun q hq => Below.heap_setCell w1 _ _ q (hne q hq))
  refine ⟨?_, ?_, ?_, ?_⟩
  · have h1 := (World.ownsRow.stored hout1 y v').1
    rw [List.length_set, List.map_set]
    exact h1
  · intro x hx
    obtain ⟨j, hj, rfl⟩ := List.getElem_of_mem hx
    have hj2 : j < ps.length := by simpa using hj
    rw [List.getElem_set]
    split
    · exact hother hv hvg
    · rename_i hne
      have hr := h.row _ (List.getElem_mem hj2)
      refine hother (own_blk hr (fun q hq => hk q (World.ownsRow.lt hr q hq).2 ?_)) (fun q hq e => ?_)
      · intro hyq
        have := List.pairwise_iff_getElem.1 h.apart
        rcases Nat.lt_or_gt_of_ne hne with hlt | hlt
        · exact this y j hy hj2 hlt q hyq hq
        · exact this j y hj2 hy hlt q hq hyq
      · subst e
        exact h.away _ (List.getElem_mem hj2) q rfl hq
  · rw [List.pairwise_iff_getElem]
    intro i j hi hj hij q hiq hjq
    have hi2 : i < ps.length := by simpa using hi
    have hj2 : j < ps.length := by simpa using hj
    have ap := List.pairwise_iff_getElem.1 h.apart
    rw [List.getElem_set] at hiq hjq
    split at hiq
    · rename_i e
      subst e
      rw [if_neg (by omega)] at hjq
      rcases hnew q hiq with h1 | h1
      · exact ap y j hi2 hj2 hij q h1 hjq
      · have := (World.ownsRow.lt (h.row _ (List.getElem_mem hj2)) q hjq).2; omega
    · split at hjq
      · rename_i e
        subst e
        rcases hnew q hjq with h1 | h1
        · exact ap i y hi2 hj2 hij q hiq h1
        · have := (World.ownsRow.lt (h.row _ (List.getElem_mem hi2)) q hiq).2; omega
      · exact ap i j hi2 hj2 hij q hiq hjq
  · intro x hx q hq hxq
    have e : g = q := by simpa [Value.ownBlock] using hq
    subst e
    obtain ⟨j, hj, rfl⟩ := List.getElem_of_mem hx
    have hj2 : j < ps.length := by simpa using hj
    rw [List.getElem_set] at hxq
    split at hxq
    · exact hvg g hxq rfl
    · exact h.away _ (List.getElem_mem hj2) g rfl hxq
theorem Bag.cells {w : World} {base g n c : Nat} {ps : Lot} (h : Bag w base (.slice (some ⟨g, 0, none⟩) n c) ps) (hn : n = ps.length) (j : Nat) (hj : j < ps.length) : w.cell? ⟨g, j, none⟩ = some (ps[j]).1 ∧ w.frozen? ⟨g, j, none⟩ = false := by
  subst hn
  refine ⟨?_, World.ownsRow.frozenAt h.outer j⟩
  rw [World.ownsRow.cellAt h.outer j (by omega)]
  simp [hj]
/-- One more, made behind the others. -/
theorem Bag.snoc {W wr w1 : World} {base : Nat} {v v' x : Value} {ps : Lot} {l : List Int} {o : Obj} {n : Nat} (hn : n = ps.length) (h : Bag W base v ps) (hk : Below W.heap.size W wr) (hx : OwnI wr W.heap.size x l) (hbase : base ≤ W.heap.size)
    (hown' : w1.ownsRow base 34 1 v' (n + 1) (ps.map (·.1) ++ [x])) (hgrow : (wr.alloc o).grownBy w1 v.ownBlock) (hat : v'.ownBlock = v.ownBlock ∨ v'.ownBlock = some (wr.alloc o).heap.size) {w : World} (hb : Below base w W) :
    Bag w1 base v' (ps ++ [(x, l)]) ∧ Below base w w1 := by
  subst hn
  have h2 := h.later hk
  have hs := hk.size
  have hxl := World.ownsRow.lt hx
  have hxa : ∀ g, v.ownBlock = some g → x.ownBlock ≠ some g := fun g hg hxg => by
    have e1 := (World.ownsRow.lt h.outer g hg).2
    have e2 := (hxl g hxg).1
    omega
  have old : ∀ (u : Value) (m : List Int) (b : Nat), OwnI wr b u m → (∀ g, v.ownBlock = some g → u.ownBlock ≠ some g) → OwnI w1 b u m := fun u m b hu hne => by
    refine World.ownsRow.kept (World.ownsRow.alloc hu o) hgrow ?_
    cases e : u.ownBlock with
    | none => exact .inl rfl
    | some g => exact .inr fun hc => hne g hc.symm e
  refine ⟨⟨?_, ?_, ?_, ?_⟩, ?_⟩
  · rw [List.length_append, List.map_append]
    exact hown'
  · intro y hy
    rcases List.mem_append.1 hy with hy | hy
    · exact old _ _ _ (h2.row y hy) (h.away y hy)
    · rw [List.mem_singleton] at hy
      subst hy
      exact owns_lower (old _ _ _ hx hxa) hbase
  · rw [List.pairwise_append]
    refine ⟨h.apart, List.pairwise_singleton _ _, ?_⟩
    intro y hy z hz g hg hzg
    rw [List.mem_singleton] at hz
    subst hz
    have e1 := (World.ownsRow.lt (h.row y hy) g hg).2
    have e2 := (hxl g hzg).1
    omega
  · intro y hy g hg hyg
    have hlt : g < wr.heap.size := by
      rcases List.mem_append.1 hy with hy | hy
      · exact (World.ownsRow.lt (h2.row y hy) g hyg).2
      · rw [List.mem_singleton] at hy
        subst hy
        exact (hxl g hyg).2
    rcases hat with hat | hat
    · rw [hat] at hg
      rcases List.mem_append.1 hy with hy | hy
      · exact h.away y hy g hg hyg
      · rw [List.mem_singleton] at hy
        subst hy
        exact hxa g hg hyg
    · rw [hat] at hg
      simp at hg
      omega
  · refine ((hb.trans (hk.mono hbase)).alloc ?_ o).grown hgrow ?_ (fun k hk' => (World.ownsRow.lt h.outer k hk').1)
    · omega
    · simp; omega
end Go.Proofs.YtbbejfkgopcjoaaDoor
namespace Go.Proofs.YtbbejfkgopcjoaaDoor
open Go.RowKit Go.Shelf
theorem Bag.make {w w1 : World} {n : Nat} (hown : w1.ownsRow w.heap.size 34 1 (.slice (some ⟨w.heap.size, 0, none⟩) n n) n (madeCells (Value.cells (.slice none 0 0)) (n * 1)).toList) : Bag w1 w.heap.size (.slice (some ⟨w.heap.size, 0, none⟩) n n) (List.replicate n (.slice none 0 0, [])) := by
  refine Bag.made ?_
  have e : (madeCells (Value.cells (.slice none 0 0)) (n * 1)).toList = List.replicate n (.slice none 0 0) := by
    have := toList_madeCells_one (.slice none 0 0) (n * 1)
    rw [Nat.mul_one] at this ⊢
    exact this
  rw [e] at hown
  exact hown
end Go.Proofs.YtbbejfkgopcjoaaDoor
namespace Go.Proofs.YtbbejfkgopcjoaaDoor
open Go.RowKit Go.Shelf
/-- Numbers of no great size, each in its place. -/
structure Cnt (w : World) (base g n : Nat) (m : Int) (xs : List Int) : Prop where
  own : OwnI w base (.slice (some ⟨g, 0, none⟩) n n) xs
  len : xs.length = n
  lo : ∀ x ∈ xs, 0 ≤ x ∧ x ≤ m
theorem Cnt.put {w : World} {base g n : Nat} {m : Int} {xs : List Int} (h : Cnt w base g n m xs) (k : Nat) (hk : k < n) : ∃ z, w.cell? ⟨g, k, none⟩ = some (.int .i64 z) ∧ w.frozen? ⟨g, k, none⟩ = false ∧ 0 ≤ z ∧ z ≤ m ∧ ∃ ys, Cnt (w.setCell ⟨g, k, none⟩ (.int .i64 (z + 1))) base g n (m + 1) ys := by
  have hkx : k < xs.length := by rw [h.len]; exact hk
  have ho := h.own
  unfold OwnI at ho
  rw [h.len] at ho
  have hz := h.lo _ (List.getElem_mem hkx)
  refine ⟨xs[k], ?_, World.ownsRow.frozenAt ho k, hz.1, hz.2, xs.set k (xs[k] + 1), ?_, by rw [List.length_set]; exact h.len, ?_⟩
  · rw [World.ownsRow.cellAt ho k (by omega)]
    simp [hkx]
  · have h1 := (World.ownsRow.stored ho k (.int .i64 (xs[k] + 1))).1
    unfold OwnI
    rw [List.length_set, h.len, List.map_set]
    exact h1
  · intro x hx
    rcases List.mem_or_eq_of_mem_set hx with hx | rfl
    · have := h.lo x hx; omega
    · omega
theorem Cnt.past {w w' : World} {base g n : Nat} {m : Int} {xs : List Int} (h : Cnt w base g n m xs) (hb : Below w.heap.size w w') : Cnt w' base g n m xs := ⟨h.own.past hb, h.len, h.lo⟩
theorem Cnt.mono {w : World} {base g n : Nat} {m m' : Int} {xs : List Int} (h : Cnt w base g n m xs) (hm : m ≤ m') : Cnt w base g n m' xs := ⟨h.own, h.len, fun x hx => by have := h.lo x hx; omega⟩
theorem Cnt.away {w : World} {base g n : Nat} {m : Int} {xs : List Int} (h : Cnt w base g n m xs) {b k : Nat} (hb : g ≠ b) (u : Value) : Cnt (w.setCell ⟨b, k, none⟩ u) base g n m xs :=
  ⟨own_blk h.own (fun q hq => by
    have e : g = q := by simpa [Value.ownBlock] using hq
    subst e
    exact Below.heap_setCell w _ _ g hb), h.len, h.lo⟩
theorem Cnt.made {w : World} {base g n : Nat} (h : w.ownsRow base 3 1 (.slice (some ⟨g, 0, none⟩) n n) n (madeCells (Value.cells (.int .i64 0)) (n * 1)).toList) : Cnt w base g n 0 (List.replicate n 0) := by
  have e : (madeCells (Value.cells (.int .i64 0)) (n * 1)).toList = List.replicate n (.int .i64 0) := by
    have := toList_madeCells_one (.int .i64 0) (n * 1)
    rw [Nat.mul_one] at this ⊢
    exact this
  rw [e] at h
  refine ⟨?_, by simp, fun x hx => by rw [List.eq_of_mem_replicate hx]; omega⟩
  unfold OwnI
  rw [List.length_replicate, List.map_replicate]
  exact h
theorem Bag.grown {W w2 : World} {o : Obj} {base g n c : Nat} {ps : Lot} (h : Bag W base (.slice (some ⟨g, 0, none⟩) n c) ps) (hn : n = ps.length) (y : Nat) (hy : y < ps.length) {row : Option Nat} (hrow : row = (ps[y]).1.ownBlock) (hgrow : (W.alloc o).grownBy w2 row) :
    w2.cell? ⟨g, y, none⟩ = some (ps[y]).1 ∧ w2.frozen? ⟨g, y, none⟩ = false ∧ ∀ k, k < W.heap.size → (ps[y]).1.ownBlock ≠ some k → w2.heap[k]? = W.heap[k]? := by
  subst hn hrow
  have hb : ∀ k, k < W.heap.size → (ps[y]).1.ownBlock ≠ some k → w2.heap[k]? = W.heap[k]? := fun k hk hne => (hgrow.block k (by simp; omega) (fun e => hne e.symm)).trans (heap_alloc_old W o hk)
  have hgl := (World.ownsRow.lt h.outer g rfl).2
  have hne : (ps[y]).1.ownBlock ≠ some g := h.away _ (List.getElem_mem hy) g rfl
  have ho : w2.ownsRow base 34 1 (.slice (some ⟨g, 0, none⟩) ps.length c) ps.length (ps.map (·.1)) := own_blk h.outer (fun k hk => by
    have e : g = k := by simpa [Value.ownBlock] using hk
    subst e
    exact hb g hgl hne)
  refine ⟨?_, World.ownsRow.frozenAt ho y, hb⟩
  rw [World.ownsRow.cellAt ho y (by omega)]
  simp [hy]
end Go.Proofs.YtbbejfkgopcjoaaDoor
namespace Go.Proofs.YtbbejfkgopcjoaaDoor
open Go.RowKit Go.Shelf
/-- Positions in memory, in blocks from lo on. -/
structure PosQ (w : World) (lo : Nat) (aL aF aA aO : Option Addr) (Le Fo : List (List Int)) (Fi La : List Int) : Prop where
  le : RwQ w lo aL Le
  fi : IQ w lo aF Fi
  la : IQ w lo aA La
  fo : RwQ w lo aO Fo
theorem PosQ.keep {w w' : World} {lo : Nat} {aL aF aA aO : Option Addr} {Le Fo : List (List Int)} {Fi La : List Int} (h : PosQ w lo aL aF aA aO Le Fo Fi La) (hs : w.heap.size ≤ w'.heap.size) (hk : ∀ k, lo ≤ k → k < w.heap.size → w'.heap[k]? = w.heap[k]?) : PosQ w' lo aL aF aA aO Le Fo Fi La :=
  ⟨h.le.keep hs hk, h.fi.keep hs hk, h.la.keep hs hk, h.fo.keep hs hk⟩
theorem PosQ.past {w w' : World} {lo : Nat} {aL aF aA aO : Option Addr} {Le Fo : List (List Int)} {Fi La : List Int} (h : PosQ w lo aL aF aA aO Le Fo Fi La) (hb : Below w.heap.size w w') : PosQ w' lo aL aF aA aO Le Fo Fi La := h.keep hb.size (fun k _ hk => hb.block k hk)
/-- What positions turned round are. -/
structure Pos where
  le : List (List Int)
  fi : List Int
  la : List Int
  fo : List (List Int)
  em : Bool
/-- Positions are answered, in new memory. -/
def RevR (w : World) (p : Pos) (r : Ending) (w' : World) : Prop := ∃ aL aF aA aO cL cF cA cO, r = .returned (posV aL aF aA aO cL cF cA cO p.le p.fo p.fi p.la p.em) ∧ PosQ w' w.heap.size aL aF aA aO p.le p.fo p.fi p.la ∧ Below w.heap.size w w'
theorem RevR.zero {w w' : World} (hb : Below w.heap.size w w') : RevR w ⟨[], [], [], [], false⟩ (.returned (.agg #[.slice none 0 0, .slice none 0 0, .slice none 0 0, .slice none 0 0, .bool false])) w' :=
  ⟨none, none, none, none, 0, 0, 0, 0, rfl, ⟨⟨fun _ hk => absurd hk (Nat.not_lt_zero _)⟩, ⟨fun _ hk => absurd hk (Nat.not_lt_zero _)⟩, ⟨fun _ hk => absurd hk (Nat.not_lt_zero _)⟩, ⟨fun _ hk => absurd hk (Nat.not_lt_zero _)⟩⟩, hb⟩
theorem OwnI.lower {w : World} {b lo : Nat} {v : Value} {L : List Int} (h : OwnI w b v L) (hb : lo ≤ b) : OwnI w lo v L := owns_lower h hb
theorem Bag.lower {w : World} {b lo : Nat} {v : Value} {ps : Lot} (h : Bag w b v ps) (hb : lo ≤ b) : Bag w lo v ps := ⟨owns_lower h.outer hb, fun x hx => owns_lower (h.row x hx) hb, h.apart, h.away⟩
end Go.Proofs.YtbbejfkgopcjoaaDoor
namespace Go.Proofs.YtbbejfkgopcjoaaDoor
open Go.RowKit Go.Shelf
theorem LW.lt {w : World} {lo g c : Nat} {L : List Int} (h : LW w lo g c L) : lo ≤ g ∧ g < w.heap.size := World.ownsRow.lt h g rfl
theorem LW.frozen {w : World} {lo g c : Nat} {L : List Int} (h : LW w lo g c L) (k : Nat) : w.frozen? ⟨g, k, none⟩ = false := World.ownsRow.frozenAt h k
theorem LW.put {w : World} {lo g c : Nat} {L : List Int} (h : LW w lo g c L) (k : Nat) (hk : k < L.length) (z : Int) : LW (w.setCell ⟨g, k, none⟩ (.int .i64 z)) lo g c (L.set k z) := by
  have h1 := (World.ownsRow.stored h k (.int .i64 z)).1
  unfold LW
  rw [List.length_set, List.map_set]
  rw [List.set_append_left _ _ (by simpa using hk)] at h1
  exact h1
/-- A slice of such lists. -/
structure Pile (w : World) (base : Nat) (v : Value) (ps : Lot) : Prop where
  outer : w.ownsRow base 34 1 v ps.length (ps.map (·.1))
  row : ∀ x ∈ ps, ∃ g c, x.1 = .slice (some ⟨g, 0, none⟩) x.2.length c ∧ LW w base g c x.2
  apart : ps.Pairwise fun x y => ∀ g, x.1.ownBlock = some g → y.1.ownBlock ≠ some g
  away : ∀ x ∈ ps, ∀ g, v.ownBlock = some g → x.1.ownBlock ≠ some g
theorem Pile.nil (w : World) (base : Nat) : Pile w base (.slice none 0 0) [] := ⟨World.ownsRow_nil _ _ _ _, by simp, List.Pairwise.nil, by simp⟩
theorem Pile.later {w w' : World} {base : Nat} {v : Value} {ps : Lot} (h : Pile w base v ps) (hb : Below w.heap.size w w') : Pile w' base v ps :=
  ⟨row_later h.outer hb, fun x hx => by obtain ⟨g, c, e, hl⟩ := h.row x hx; exact ⟨g, c, e, hl.past hb⟩, h.apart, h.away⟩
theorem Pile.blk {w : World} {base : Nat} {v : Value} {ps : Lot} (h : Pile w base v ps) {x : Value × List Int} (hx : x ∈ ps) {g : Nat} (hg : x.1.ownBlock = some g) : base ≤ g ∧ g < w.heap.size := by
  obtain ⟨g', c, e, hl⟩ := h.row x hx
  rw [e] at hg
  obtain rfl : g' = g := by simpa [Value.ownBlock] using hg
  exact hl.lt
/-- What only other blocks are written into leaves a pile as it is. -/
theorem Pile.kept {w w' : World} {base : Nat} {v : Value} {ps : Lot} (h : Pile w base v ps) (hb : ∀ k, base ≤ k → k < w.heap.size → w'.heap[k]? = w.heap[k]?) : Pile w' base v ps :=
  ⟨own_blk h.outer (fun k hk => hb k (World.ownsRow.lt h.outer k hk).1 (World.ownsRow.lt h.outer k hk).2), fun x hx => by
    obtain ⟨g, c, e, hl⟩ := h.row x hx
    exact ⟨g, c, e, own_blk hl (fun k hk => hb k (World.ownsRow.lt hl k hk).1 (World.ownsRow.lt hl k hk).2)⟩, h.apart, h.away⟩
/-- One more, made behind the pile. -/
theorem Pile.snoc {W wr w1 : World} {base : Nat} {v v' : Value} {ps : Lot} {l : List Int} {g c : Nat} {o : Obj} {n : Nat} (hn : n = ps.length) (h : Pile W base v ps) (hk : Below W.heap.size W wr) (hx : LW wr W.heap.size g c l) (hbase : base ≤ W.heap.size)
    (hown' : w1.ownsRow base 34 1 v' (n + 1) (ps.map (·.1) ++ [.slice (some ⟨g, 0, none⟩) l.length c])) (hgrow : (wr.alloc o).grownBy w1 v.ownBlock) (hat : v'.ownBlock = v.ownBlock ∨ v'.ownBlock = some (wr.alloc o).heap.size) {w : World} (hb : Below base w W) :
    Pile w1 base v' (ps ++ [(.slice (some ⟨g, 0, none⟩) l.length c, l)]) ∧ Below base w w1 := by
  subst hn
  have h2 := h.later hk
  have hs := hk.size
  have hgl := hx.lt
  have old : ∀ {t : TypeId} {size m : Nat} {u : Value} {xs : List Value} {b : Nat}, wr.ownsRow b t size u m xs → (∀ g, v.ownBlock = some g → u.ownBlock ≠ some g) → w1.ownsRow b t size u m xs := fun {t size m u xs b} hu hne => by
    refine World.ownsRow.kept (World.ownsRow.alloc hu o) hgrow ?_
    cases e : u.ownBlock with
    | none => exact .inl rfl
    | some g => exact .inr fun hc => hne g hc.symm e
  have hxa : ∀ q, v.ownBlock = some q → q ≠ g := fun q hq hqg => by
    have e1 := (World.ownsRow.lt h.outer q hq).2
    omega
  refine ⟨⟨?_, ?_, ?_, ?_⟩, ?_⟩
  · rw [List.length_append, List.map_append]
    exact hown'
  · intro y hy
    rcases List.mem_append.1 hy with hy | hy
    · obtain ⟨g1, c1, e1, hl1⟩ := h2.row y hy
      refine ⟨g1, c1, e1, old hl1 (fun q hq hqg => ?_)⟩
      exact h.away y hy q hq (by rw [e1]; exact hqg)
    · rw [List.mem_singleton] at hy
      subst hy
      exact ⟨g, c, rfl, owns_lower (old hx (fun q hq hqg => hxa q hq (by simpa [Value.ownBlock] using hqg.symm))) hbase⟩
  · rw [List.pairwise_append]
    refine ⟨h.apart, List.pairwise_singleton _ _, ?_⟩
    intro y hy z hz q hq hzq
    rw [List.mem_singleton] at hz
    subst hz
    have e1 := (h.blk hy hq).2
    have e2 : g = q := by simpa [Value.ownBlock] using hzq
    omega
  · intro y hy q hq hyq
    have hyl : y.1.ownBlock = some q → q < wr.heap.size ∧ (y ∈ ps ∨ q = g) := fun e => by
      rcases List.mem_append.1 hy with hy | hy
      · exact ⟨(h2.blk hy e).2, .inl hy⟩
      · rw [List.mem_singleton] at hy
        subst hy
        have e2 : g = q := by simpa [Value.ownBlock] using e
        subst e2
        exact ⟨hgl.2, .inr rfl⟩
    obtain ⟨e1, e2⟩ := hyl hyq
    rcases hat with hat | hat
    · rw [hat] at hq
      rcases e2 with e2 | e2
      · exact h.away y e2 q hq hyq
      · exact hxa q hq e2
    · rw [hat] at hq
      simp at hq
      omega
  · refine ((hb.trans (hk.mono hbase)).alloc ?_ o).grown hgrow ?_ (fun k hk' => (World.ownsRow.lt h.outer k hk').1)
    · omega
    · simp; omega
theorem Pile.cells {w : World} {base : Nat} {v : Value} {ps : Lot} (h : Pile w base v ps) : ∃ a c, v = .slice a ps.length c ∧ (a = none → c = 0) ∧ ∀ j (hj : j < ps.length), ∃ b, a = some ⟨b, 0, none⟩ ∧ v.ownBlock = some b ∧ b < w.heap.size ∧ w.cell? ⟨b, j, none⟩ = some (ps[j]).1 := by
  have h0 := h.outer
  rcases h0.2 with ⟨hv, hn⟩ | ⟨g, cap, cur, hv, _⟩
  · exact ⟨none, 0, by rw [hv, hn], fun _ => rfl, fun j hj => by omega⟩
  · refine ⟨some ⟨g, 0, none⟩, cap, hv, fun e => (by cases e), fun j hj => ⟨g, rfl, by rw [hv]; rfl, ?_, ?_⟩⟩
    · exact (World.ownsRow.lt h0 g (by rw [hv]; rfl)).2
    · rw [hv] at h0
      rw [World.ownsRow.cellAt h0 j (by omega)]
      simp [hj]
theorem Pile.rwa {w : World} {base : Nat} {v : Value} {ps : Lot} (h : Pile w base v ps) : ∃ a c, v = .slice a ps.length c ∧ RwA w a (ps.map (·.2)) := by
  obtain ⟨a, c, hv, _, hc⟩ := h.cells
  refine ⟨a, c, hv, ⟨fun k hk => ?_⟩⟩
  have hk' : k < ps.length := by simpa using hk
  obtain ⟨b, rfl, _, hb, hcell⟩ := hc k hk'
  obtain ⟨g1, c1, e1, hl⟩ := h.row ps[k] (List.getElem_mem hk')
  refine ⟨b, 0, rfl, hb, some ⟨g1, 0, none⟩, c1, ?_, ?_⟩
  · rw [Nat.zero_add, hcell, e1]
    simp
  · simp only [List.getElem_map]
    exact hl.ia
/-- One number of one list written over. -/
theorem Pile.put {w : World} {base : Nat} {v : Value} {ps : Lot} (h : Pile w base v ps) (i : Nat) (hi : i < ps.length) {g c : Nat} (hp : (ps[i]).1 = .slice (some ⟨g, 0, none⟩) (ps[i]).2.length c) (k : Nat) (hk : k < (ps[i]).2.length) (z : Int) :
    ∃ ps', ps'.length = ps.length ∧ ps'.map (fun x => x.2.length) = ps.map (fun x => x.2.length) ∧ ps'.map (·.1) = ps.map (·.1) ∧ Pile (w.setCell ⟨g, k, none⟩ (.int .i64 z)) base v ps' := by
  have hmem : ps[i] ∈ ps := List.getElem_mem hi
  have hbl : (ps[i]).1.ownBlock = some g := by rw [hp]; rfl
  have haw : ∀ g', v.ownBlock = some g' → g' ≠ g := fun g' hg' e => by subst e; exact h.away _ hmem g' hg' hbl
  have keep : ∀ {t : TypeId} {size m : Nat} {u : Value} {xs : List Value}, w.ownsRow base t size u m xs → (∀ g', u.ownBlock = some g' → g' ≠ g) → (w.setCell ⟨g, k, none⟩ (.int .i64 z)).ownsRow base t size u m xs := by
    intro t size m u xs ho hne
    exact own_blk ho (fun q hq => Below.heap_setCell w _ _ q (hne q hq))
  have hmap : (ps.set i ((ps[i]).1, (ps[i]).2.set k z)).map (·.1) = ps.map (·.1) := by
    rw [List.map_set]
    apply List.ext_getElem
    · simp
    · intro j h1 h2
      rw [List.getElem_set]
      split
      · subst_vars; simp
      · rfl
  have hmap2 : (ps.set i ((ps[i]).1, (ps[i]).2.set k z)).map (fun x => x.2.length) = ps.map (fun x => x.2.length) := by
    rw [List.map_set]
    apply List.ext_getElem
    · simp
    · intro j h1 h2
      rw [List.getElem_set]
      split
      · subst_vars; simp
      · rfl
  refine ⟨ps.set i ((ps[i]).1, (ps[i]).2.set k z), by simp, hmap2, hmap, ?_, ?_, ?_, ?_⟩
  · rw [hmap, List.length_set]
    exact keep h.outer haw
  · intro x hx
    obtain ⟨j, hj, rfl⟩ := List.getElem_of_mem hx
    have hj2 : j < ps.length := by simpa using hj
    rw [List.getElem_set]
    split
    · obtain ⟨g1, c1, e1, hl⟩ := h.row _ hmem
      rw [hp] at e1
      simp only [Value.slice.injEq, Option.some.injEq, Addr.mk.injEq, and_true, true_and] at e1
      obtain ⟨rfl, rfl⟩ := e1
      exact ⟨g, c, by simp only [List.length_set]; exact hp, hl.put k hk z⟩
    · rename_i hne
      obtain ⟨g1, c1, e1, hl⟩ := h.row _ (List.getElem_mem hj2)
      refine ⟨g1, c1, e1, keep hl ?_⟩
      intro g' hg' e
      subst e
      have e2 : g1 = g' := by simpa [Value.ownBlock] using hg'
      subst e2
      have hbj : (ps[j]).1.ownBlock = some g1 := by rw [e1]; rfl
      have := List.pairwise_iff_getElem.1 h.apart
      rcases Nat.lt_or_gt_of_ne hne with hlt | hlt
      · exact this i j hi hj2 hlt g1 hbl hbj
      · exact this j i hj2 hi hlt g1 hbj hbl
  · have hpr : ∀ (qs : Lot), qs.Pairwise (fun x y => ∀ g, x.1.ownBlock = some g → y.1.ownBlock ≠ some g) ↔ (qs.map (·.1)).Pairwise (fun x y => ∀ g, x.ownBlock = some g → y.ownBlock ≠ some g) := fun qs => by rw [List.pairwise_map]
    rw [hpr, hmap, ← hpr]
    exact h.apart
  · intro x hx g' hg'
    have hx1 : x.1 ∈ ps.map (·.1) := by rw [← hmap]; exact List.mem_map_of_mem hx
    obtain ⟨y, hy, hye⟩ := List.mem_map.1 hx1
    rw [← hye]
    exact h.away y hy g' hg'
end Go.Proofs.YtbbejfkgopcjoaaDoor
namespace Go.Proofs.YtbbejfkgopcjoaaDoor
open Go.RowKit
section
variable {P : Program} {ops : Array Oper} {Q : Exit → Act → World → Prop} {md : Region.Mode} {S : World → Prop}
/-- An operation that yields a value is taken first. -/
theorem tkV {i : Nat} {oi : Oper} {d : Option Tmp} {v : Value} {fuel : Nat} {listed : Array Bool} {a : Act} {w : World} (hi : ops[i]? = some oi)
    (hs : Region.noSelect ops = true) (hf : Region.free md ops listed i = true) (hr : (Region.ready md ops listed).contains i = true) (hd : oi.dst = d)
    (hQ : ∀ c a w, Q (.panic c) (a.put d v) w → Q (.panic c) a w) (hw : Region.wanted oi (yielded ops a.tmps) = true) (hv : ∀ w, S w → (execOp a.eval oi).run P w = .ok (.value v) w) (hS : S w)
    (h : wpAnyH P md ops Q S fuel (listed.setIfInBounds i true) (a.put d v) w) : wpAnyH P md ops Q S (fuel + 1) listed a w := by
  subst hd
  exact wpAnyH_take hi hs hf hr hQ (.inl ⟨hw, hv⟩) hS h
end
end Go.Proofs.YtbbejfkgopcjoaaDoor
namespace Go.Proofs.YtbbejfkgopcjoaaDoor
open Go.RowKit Go.Shelf
theorem PosQ.lower {w : World} {b lo : Nat} {aL aF aA aO : Option Addr} {Le Fo : List (List Int)} {Fi La : List Int} (h : PosQ w b aL aF aA aO Le Fo Fi La) (hb : lo ≤ b) : PosQ w lo aL aF aA aO Le Fo Fi La := by
  have hi : ∀ (a : Option Addr) (L : List Int), IQ w b a L → IQ w lo a L := fun a L h => ⟨fun k hk => by
    obtain ⟨b1, off, e, h0, h1, h2⟩ := h.at' k hk
    exact ⟨b1, off, e, by omega, h1, h2⟩⟩
  have hr : ∀ (a : Option Addr) (L : List (List Int)), RwQ w b a L → RwQ w lo a L := fun a L h => ⟨fun k hk => by
    obtain ⟨b1, off, e, h0, h1, a1, c1, h2, h3⟩ := h.at' k hk
    exact ⟨b1, off, e, by omega, h1, a1, c1, h2, hi _ _ h3⟩⟩
  exact ⟨hr _ _ h.le, hi _ _ h.fi, hi _ _ h.la, hr _ _ h.fo⟩
end Go.Proofs.YtbbejfkgopcjoaaDoor
namespace Go.Proofs.YtbbejfkgopcjoaaDoor
open Go.RowKit Go.Shelf
theorem app_nilI (w : World) (ty : TypeId) : (Builtin.append_ #[34, 34] ty #[.slice none 0 0, .slice none 0 0]).run Tryd.prog w = .ok (.slice none 0 0) w := by
  go_simp
theorem wpList_spreadI {ops : Array Oper} {rest : List Oper} {op : Oper} {a : Act} {w : World} {Q : Exit → Act → World → Prop} (hgd : op.guard = none) (s x : Operand) (ho : op.op = .call { callee := .builtin .append, args := #[s, x], argTypes := #[34, 34] })
    (aN : Option Addr) (L : List Int) (cN base : Nat) (hs : a.eval s = .slice none 0 0) (hx : a.eval x = .slice aN L.length cN) (hnil : aN = none → cN = 0) (ha : IA w aN L) (hl : L.length ≤ 17592186044416) (hb : base ≤ w.heap.size)
    (h : ∀ v' w', OwnI w' base v' L → w.grownBy w' none → wpList Tryd.prog ops Q rest (a.put op.dst v') w') : wpList Tryd.prog ops Q (op :: rest) a w := by
  obtain ⟨i0, hi, hz0, hz1, hz2⟩ := info_parts infoInt
  cases aN with
  | none =>
    have hL : L = [] := by
      cases L with
      | nil => rfl
      | cons y r => obtain ⟨b, off, e, _⟩ := ha.at' 0 (by simp); cases e
    subst hL
    have hc := hnil rfl
    subst hc
    refine wpList_plain hgd fun K hK => ?_
    have hr := app_nilI w op.type
    unfold Oper.wp execOp
    simp only [ho, resolve, invoke, builtin, Sem.run_bind, Sem.run_pure, Result.andThen_ok, List.map_toArray, List.map_cons, List.map_nil, hs, hx, List.length_nil, hr]
    exact hK _ _ (h _ _ (World.ownsRow_nil _ _ _ _) ⟨rfl, rfl, rfl, Nat.le_refl _, fun _ _ _ => rfl⟩)
  | some ad =>
    refine wpList_append_own _ hgd s x 34 ho base 3 i0 (.int .i64 0) 1 8 Tryd.underlying34 hi hz0 hz1 hz2 rfl (by decide) (.slice none 0 0) 0 [] hs (World.ownsRow_nil _ _ _ _) ad L.length cN (L.map (Value.int .i64)) hx (by simp) (fun j u hu => ?_) (fun u hu => by obtain ⟨y, _, rfl⟩ := List.mem_map.1 hu; rfl) (by unfold maxLen; omega) (by omega) hb (fun v' w' h1 h2 _ => h v' w' (by rw [Nat.zero_add] at h1; exact h1) h2)
    have hj : j < L.length := by have := (List.getElem?_eq_some_iff.1 hu).1; simpa using this
    obtain ⟨b, off, e, h1, h2⟩ := ha.at' j hj
    cases e
    rw [Addr.add_mid, h2]
    have : (L.map (Value.int .i64))[j]? = some (.int .i64 L[j]) := by simp [hj]
    rw [this] at hu
    exact hu
/-- Lists that are handed in: those without memory have no room. -/
structure RwN (w : World) (a : Option Addr) (L : List (List Int)) : Prop where
  at' : ∀ k (h : k < L.length), ∃ b off, a = some ⟨b, off, none⟩ ∧ b < w.heap.size ∧ ∃ a1 c1, w.cell? ⟨b, off + k, none⟩ = some (.slice a1 (L[k]).length c1) ∧ IA w a1 L[k] ∧ (a1 = none → c1 = 0)
theorem RwN.rwa {w : World} {a : Option Addr} {L : List (List Int)} (h : RwN w a L) : RwA w a L := ⟨fun k hk => by
  obtain ⟨b, off, e, h1, a1, c1, h2, h3, _⟩ := h.at' k hk
  exact ⟨b, off, e, h1, a1, c1, h2, h3⟩⟩
theorem RwN.past {w w' : World} {a : Option Addr} {L : List (List Int)} (h : RwN w a L) (hb : Below w.heap.size w w') : RwN w' a L := ⟨fun k hk => by
  obtain ⟨b, off, rfl, h1, a1, c1, h2, h3, h4⟩ := h.at' k hk
  exact ⟨b, off, rfl, Nat.lt_of_lt_of_le h1 hb.size, a1, c1, (hb.cell (p := ⟨b, off + k, none⟩) h1).trans h2, h3.past hb, h4⟩⟩
end Go.Proofs.YtbbejfkgopcjoaaDoor
namespace Go.Proofs.YtbbejfkgopcjoaaDoor
open Go.RowKit Go.Shelf
/-- One more element behind the lists, that is none of them. -/
theorem Pile.tail {W wr w1 : World} {base g c n : Nat} {v x : Value} {ps : Lot} (hn : n = ps.length) (h : Pile W base v ps) (hk : Below W.heap.size W wr) (hbase : base ≤ W.heap.size)
    (hown' : w1.ownsRow base 34 1 (.slice (some ⟨g, 0, none⟩) (n + 1) c) (n + 1) (ps.map (·.1) ++ [x])) (hgrow : wr.grownBy w1 v.ownBlock) (hat : some g = v.ownBlock ∨ W.heap.size ≤ g) {w : World} (hb : Below base w W) :
    Pile w1 base (.slice (some ⟨g, 0, none⟩) n c) ps ∧ n + 1 ≤ c ∧ w1.cell? ⟨g, n, none⟩ = some x ∧ Below base w w1 := by
  subst hn
  have h2 := h.later hk
  have hs := hk.size
  have hrows : ∀ y ∈ ps, ∃ g1 c1, y.1 = .slice (some ⟨g1, 0, none⟩) y.2.length c1 ∧ LW w1 base g1 c1 y.2 := fun y hy => by
    obtain ⟨g1, c1, e1, hl1⟩ := h2.row y hy
    refine ⟨g1, c1, e1, World.ownsRow.kept hl1 hgrow ?_⟩
    right
    intro hc
    exact h.away y hy g1 hc.symm (by rw [e1]; rfl)
  refine ⟨⟨?_, hrows, h.apart, ?_⟩, ?_, ?_, ?_⟩
  · rcases hown'.2 with ⟨e, _⟩ | ⟨g', cap, cur, e, q1, q2, q3, q4, q5, q6⟩
    · cases e
    · cases e
      refine ⟨by simp, .inr ⟨g, c, cur, rfl, q1, q2, by omega, q4, q5, ?_⟩⟩
      have e2 : cur.toList.take (ps.length * 1) = (cur.toList.take ((ps.length + 1) * 1)).take (ps.length * 1) := by rw [List.take_take]; congr 1; omega
      rw [e2, q6, Nat.mul_one, List.take_append_of_le_length (by simp), List.take_of_length_le (by simp)]
  · intro y hy q hq hyq
    have e : g = q := by simpa [Value.ownBlock] using hq
    subst e
    rcases hat with hat | hat
    · exact h.away y hy g hat.symm hyq
    · have := (h.blk hy hyq).2; omega
  · rcases hown'.2 with ⟨e, _⟩ | ⟨g', cap, cur, e, _, _, q3, _⟩
    · cases e
    · cases e; exact q3
  · rw [World.ownsRow.cellAt hown' ps.length (by omega), List.getElem?_append_right (by simp)]
    simp
  · exact ((hb.trans (hk.mono hbase))).grown hgrow (by omega) (fun k hk' => (World.ownsRow.lt h.outer k hk').1)
end Go.Proofs.YtbbejfkgopcjoaaDoor
