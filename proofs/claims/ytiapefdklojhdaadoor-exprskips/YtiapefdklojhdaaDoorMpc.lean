/-
  ExUW, ExLM, ExNW, ExOW, ExPW, ExVoW, ExVrW, ExVsW, ExVaW, ExVlW, ExBW.
-/
import Derived.Test.YtiapefdklojhdaaDoorMpb
import Derived.RangeFuncNested
import Derived.RangeFuncBound
import Derived.RangeFuncCalls
import Derived.RangeFuncLeaves
import Derived.RangeFuncBox
import Derived.OwnWalkIn
import Derived.TacticsInMore
import Derived.LoopNIn
import Derived.LoopIn
import Derived.Maps.OwnIn
import Derived.Sort.Row
import Derived.Maps.AppendAt
namespace Go.Proofs.YtiapefdklojhdaaDoor
open Go.RowKit Go.Shelf
/-- What is asked of each set of the nodes. -/
def SetsOk (G : List Nd) : Prop := ∀ (i : Nat) (nt : Bool) (N : List ByteArray) (P : List (Int × Int)) (nx : Nat), G[i]? = some (Nd.set nt N P nx) → NamesC N ∧ RiseP P
theorem Kp.drew {base : Nat} {w w' : World} (h : Kp base w w') : Kp base w w'.drew := ⟨h.bel.drew, h.rows⟩
theorem own_none {W : World} {lo t s n : Nat} {v : Value} {xs : List Value} (h : W.ownsRow lo t s v n xs) : ∃ a c, v = .slice a n c ∧ W.ownsRow lo t s (.slice a 0 c) 0 [] := by
  rcases h.2 with ⟨rfl, rfl⟩ | ⟨g, cap, cur, rfl, h1, h2, h3, h4, h5, _⟩
  · exact ⟨none, 0, rfl, by simp, .inl ⟨rfl, rfl⟩⟩
  · exact ⟨_, cap, rfl, by simp, .inr ⟨g, cap, cur, rfl, h1, h2, Nat.zero_le _, h4, h5, by simp⟩⟩
/-- What is waited for is what waits; nothing waits. -/
theorem SIn.swap {w : World} {base R : Nat} {Y : Lay} {G : List Nd} {waited : List Nat} {u : Value} {s : St} (h : SIn w base R Y G waited u s) : ∃ a n c b m d, w.heap[R]? = some (.cells #[.slice a n c, .slice b m d, .int .i64 s.ended] 88 (0, 0)) ∧ n = s.wait.length ∧ (b = none → m = 0 ∧ d = 0) ∧ m ≤ d ∧
    ∀ w', Kp base w w' → (∀ (b : Nat) c z, w.heap[b]? = some (.cells c 3 z) → w'.heap[b]? = some (.cells c 3 z)) → (∀ (g : Nat) c z, w.heap[g]? = some (.cells c 104 z) → w'.heap[g]? = some (.cells c 104 z)) → w'.heap[R]? = some (.cells #[.slice b 0 d, .slice a n c, .int .i64 s.ended] 88 (0, 0)) →
      SIn w' base R Y G s.wait (.slice a n c) { s with wait := [] } := by
  obtain ⟨v, hR, hv, hu, hd⟩ := h.r.is
  have hud : ∀ b m d, u = .slice b m d → (b = none → m = 0 ∧ d = 0) ∧ m ≤ d := fun b m d e => by
    rcases hu.2 with ⟨rfl, _⟩ | ⟨g, cap, cur, rfl, _, _, h3, _⟩
    · cases e; exact ⟨fun _ => ⟨rfl, rfl⟩, Nat.le_refl _⟩
    · cases e; exact ⟨fun e => (by cases e), h3⟩
  obtain ⟨a, c, rfl, _⟩ := own_none hv
  obtain ⟨b, d, rfl, hu0⟩ := own_none hu
  refine ⟨a, _, c, b, _, d, hR, rfl, (hud _ _ _ rfl).1, (hud _ _ _ rfl).2, fun w' k hl hst hR' => ⟨h.g.kp k (fun i e hi he => hl _ _ _ ((h.g.node i e hi).lastRow he).2), ⟨⟨_, hR', ?_, ?_, ?_⟩, h.r.low⟩⟩⟩
  · exact own_blk hu0 (fun g hg => by obtain ⟨c', e, _⟩ := own_type hu0 g hg; rw [hst g _ _ e, e])
  · exact own_blk hv (fun g hg => by obtain ⟨c', e, _⟩ := own_type hv g hg; rw [hst g _ _ e, e])
  · intro g e1 e2
    have e3 : (Value.slice b waited.length d).ownBlock = some g := by
      cases b with
      | none => cases e1
      | some b => exact e1
    exact hd g e2 e3
theorem flat_at {f : Nat → List Value} : ∀ (ys : List Nat), (∀ y, y ∈ ys → (f y).length = 4) → ∀ (k j : Nat) (h : k < ys.length), j < 4 → (ys.flatMap f)[k * 4 + j]? = (f ys[k])[j]? := by
  intro ys
  induction ys with
  | nil => intro _ k j h; simp at h
  | cons y ys ih =>
    intro hl k j h hj
    rw [List.flatMap_cons]
    have h4 := hl y (by simp)
    cases k with
    | zero => rw [List.getElem?_append_left (by omega)]; simp
    | succ k =>
      rw [List.getElem?_append_right (by omega), h4, show (k + 1) * 4 + j - 4 = k * 4 + j by omega, ih (fun z hz => hl z (by simp [hz])) k j (by simpa using h) hj]
      simp
/-- The step that waited at a place of the list. -/
theorem SIn.step {w : World} {base R : Nat} {Y : Lay} {G : List Nd} {waited : List Nat} {a : Option Addr} {c : Nat} {s : St} (h : SIn w base R Y G waited (.slice a waited.length c) s) (hset : ∀ y, y ∈ waited → isSet G y) (k : Nat) (hk : k < waited.length) :
    ∃ g nt N P nx, a = some ⟨g, 0, none⟩ ∧ G[waited[k]]? = some (.set nt N P nx) ∧ w.cell? ⟨g, k * 4, none⟩ = some (.bool nt) ∧ w.cell? ⟨g, k * 4 + 1, none⟩ = some (Y.nm waited[k]) ∧ w.cell? ⟨g, k * 4 + 2, none⟩ = some (Y.pt waited[k]) ∧ w.cell? ⟨g, k * 4 + 3, none⟩ = some (Y.val nx) := by
  obtain ⟨v, hR, hv, hu, hd⟩ := h.r.is
  obtain ⟨nt, N, P, nx, hg⟩ := hset waited[k] (List.getElem_mem hk)
  have h4 : ∀ y, y ∈ waited → (stepC Y G y).length = 4 := fun y hy => by
    obtain ⟨_, _, _, _, e⟩ := hset y hy
    unfold stepC
    rw [e]; rfl
  have hst : stepC Y G waited[k] = [.bool nt, Y.nm waited[k], Y.pt waited[k], Y.val nx] := by unfold stepC; rw [hg]
  have hat : ∀ j, j < 4 → (waited.flatMap (stepC Y G))[k * 4 + j]? = [.bool nt, Y.nm waited[k], Y.pt waited[k], Y.val nx][j]? := fun j hj => by rw [flat_at waited h4 k j hk hj, hst]
  rcases hu.2 with ⟨_, hn⟩ | ⟨g, cap, cur, hs, _⟩
  · omega
  · cases hs
    have hc : ∀ j, j < 4 → w.cell? ⟨g, k * 4 + j, none⟩ = (waited.flatMap (stepC Y G))[k * 4 + j]? := fun j hj => by
      have := World.ownsRow.cellAt hu (k * 4 + j) (by omega)
      exact this
    refine ⟨g, nt, N, P, nx, rfl, hg, ?_, ?_, ?_, ?_⟩
    · have := hc 0 (by omega); rw [hat 0 (by omega)] at this; exact this
    · rw [hc 1 (by omega), hat 1 (by omega)]; rfl
    · rw [hc 2 (by omega), hat 2 (by omega)]; rfl
    · rw [hc 3 (by omega), hat 3 (by omega)]; rfl
theorem SIn.later {w w' : World} {base R : Nat} {Y : Lay} {G : List Nd} {waited : List Nat} {u : Value} {s : St} (h : SIn w base R Y G waited u s) (hb : base ≤ w.heap.size) (k : Below w.heap.size w w') : SIn w' base R Y G waited u s := by
  have kb : ∀ {b : Nat} {o : Obj}, w.heap[b]? = some o → w'.heap[b]? = some o := fun {b} {_} e => (k.block b (lt_of_row e)).trans e
  obtain ⟨v, hR, hv, hu, hd⟩ := h.r.is
  exact ⟨h.g.kp (Kp.ofBelow k hb) (fun i e hi he => kb ((h.g.node i e hi).lastRow he).2), ⟨⟨v, kb hR, own_blk hv (fun g hg => by obtain ⟨c', e, _⟩ := own_type hv g hg; rw [kb e, e]), own_blk hu (fun g hg => by obtain ⟨c', e, _⟩ := own_type hu g hg; rw [kb e, e]), hd⟩, h.r.low⟩⟩
set_option maxRecDepth 10000 in
set_option maxHeartbeats 3200000 in
theorem take_any {base R : Nat} {Y : Lay} {G : List Nd} {waited : List Nat} {u : Value} (hG : WF G) (hSet : SetsOk G) (hf6 : ∀ (x : Nat) (ys : List Nat), G[x]? = some (Nd.fork ys) → ys.length ≤ 1000000) (c : ByteArray) (p pl : Int) (s s' : St) (w : World) (hset : ∀ y, y ∈ s.wait → isSet G y)
    (ht : takeF G pl (c, p) s.wait { s with wait := [] } = some s') (hw8 : s'.wait.length ≤ 1000000) (hw9 : s.wait.length ≤ 1000000) (hbase : base ≤ w.heap.size) (hs : SIn w base R Y G waited u s) :
    Calls Tryd.prog 55 #[.pointer (some ⟨R, 0, none⟩), .agg #[.string c, .int .i64 p], .int .i64 pl] w fun e w' => e = .returned (.tuple #[]) ∧ (∃ u', SIn w' base R Y G s.wait u' s') ∧ Kp base w w' := by
  obtain ⟨a, n, ca, b, m, d, hR, hn, hbn, hmd, hsw⟩ := hs.swap
  obtain ⟨w0, hw0⟩ : ∃ w0, w0 = w.alloc (.cells #[.string c, .int .i64 p] 46) := ⟨_, rfl⟩
  have hB0 : Below w.heap.size w w0 := by rw [hw0]; exact (Below.refl _ _).alloc (Nat.le_refl _) _
  have hX0 : w0.heap[w.heap.size]? = some (.cells #[.string c, .int .i64 p] 46 (0, 0)) := by rw [hw0]; exact heap_alloc_new w _
  have hR0 : w0.heap[R]? = some (.cells #[.slice a n ca, .slice b m d, .int .i64 s.ended] 88 (0, 0)) := (hB0.block R (lt_of_row hR)).trans hR
  have c0 : w0.cell? ⟨R, 0, none⟩ = some (.slice a n ca) := by rw [cell_of_row _ _ _ _ _ _ hR0]; rfl
  have c1 : w0.cell? ⟨R, 1, none⟩ = some (.slice b m d) := by rw [cell_of_row _ _ _ _ _ _ hR0]; rfl
  have f0 : w0.frozen? ⟨R, 0, none⟩ = false := frozen_of_row _ _ _ _ _ hR0
  have f1 : w0.frozen? ⟨R, 1, none⟩ = false := frozen_of_row _ _ _ _ _ hR0
  have hd0 : (0 : Int) ≤ (d : Int) := by omega
  have hfold := hw0.symm
  have HSW := hid0 hsw
  clear hw0 hsw
  go_enter Tryd.func55, Tryd.ntmps55
  go_wp2
  go_region
  have hR1 := heap_setCell_same w0 R 0 _ _ (.slice b 0 d) hR0
  have hR2 := heap_setCell_same (w0.setCell ⟨R, 0, none⟩ (.slice b 0 d)) R 1 _ _ (.slice a n ca) hR1
  have hlow := hs.r.low
  have k1 : Kp base w ((w0.setCell ⟨R, 0, none⟩ (.slice b 0 d)).setCell ⟨R, 1, none⟩ (.slice a n ca)).drew :=
    (((Kp.ofBelow hB0 hbase).trans (kp_setR hR0 hlow 0 _)).trans (kp_setR hR1 hlow 1 _)).drew
  have hS1 := HSW.out ((w0.setCell ⟨R, 0, none⟩ (.slice b 0 d)).setCell ⟨R, 1, none⟩ (.slice a n ca)).drew k1
    (fun g c z e => row_setR hR1 1 _ (row_setR hR0 0 _ ((hB0.block g (lt_of_row e)).trans e) (by decide)) (by decide)) (fun g c z e => row_setR hR1 1 _ (row_setR hR0 0 _ ((hB0.block g (lt_of_row e)).trans e) (by decide)) (by decide)) hR2
  have hX1 : ((w0.setCell ⟨R, 0, none⟩ (.slice b 0 d)).setCell ⟨R, 1, none⟩ (.slice a n ca)).drew.heap[w.heap.size]? = some (.cells #[.string c, .int .i64 p] 46 (0, 0)) := row_setR hR1 1 _ (row_setR hR0 0 _ hX0 (by decide)) (by decide)
  have c2 : ((w0.setCell ⟨R, 0, none⟩ (.slice b 0 d)).setCell ⟨R, 1, none⟩ (.slice a n ca)).drew.cell? ⟨R, 1, none⟩ = some (.slice a n ca) := by
    have h := cell_of_row _ R 1 _ _ _ hR2
    exact h.trans rfl
  subst hn
  generalize ((w0.setCell ⟨R, 0, none⟩ (.slice b 0 d)).setCell ⟨R, 1, none⟩ (.slice a s.wait.length ca)).drew = w1 at *
  have HT := hid0 ht
  have HS1 := hid0 hS1
  have HX1 := hid0 hX1
  have HK1 := hid0 k1
  have HSO := hid0 hSet
  have HWF := hid0 hG
  have HST := hid0 hset
  have HF6 := hid0 hf6
  clear ht hS1 hX1 k1 hSet hG hset hf6 hR1 hR2 hR0 hX0 hB0 c0 c1 f0 f1 hs hfold HSW hR
  go_wp2
  go_loopw [7, 28] (fun _ i wr => ∃ (k : Nat) (t : St), k ≤ s.wait.length ∧ i = .int .i64 (k : Int) ∧ Hid (takeF G pl (c, p) (s.wait.drop k) t = some s') ∧ Hid (SIn wr base R Y G s.wait (.slice a s.wait.length ca) t) ∧ Hid (Kp base w1 wr)) (fun _ i _ => s.wait.length - (intOf i).toNat)
  case atStart => exact ⟨0, _, Nat.zero_le _, rfl, HT, HS1, hid0 (Kp.refl _ _)⟩
  case round =>
    clear HT HS1
    obtain ⟨k, t, hk, rfl, HT, HS, HK⟩ := hrel
    by_cases hlt : k < s.wait.length
    · have hkI : (k : Int) < (s.wait.length : Int) := by omega
      have hkI0 : (0 : Int) ≤ (k : Int) := by omega
      obtain ⟨g, nt, N, P, nx, rfl, hg, d0, d1, d2, d3⟩ := HS.out.step HST.out k hlt
      obtain ⟨hNC, hRP⟩ := HSO.out _ _ _ _ _ hg
      obtain ⟨⟨a1, ca1, a2, ca2, en, ep, hsq, hrq⟩, lN, lP⟩ := HS.out.g.sets _ _ _ _ _ hg
      rw [en] at d1
      rw [ep] at d2
      have hnx := HWF.out.set _ _ _ _ _ hg
      obtain ⟨fn, fx, fy, hfn⟩ := (HS.out.g.node nx _ (List.getElem?_eq_getElem hnx)).func
      have hsz : base ≤ wr.heap.size := Nat.le_trans hbase (Nat.le_trans HK1.out.bel.size HK.out.bel.size)
      have ht1 := HT.out
      rw [List.drop_eq_getElem_cons hlt, takeF, hg] at ht1
      simp only at ht1
      have HSQ := hid0 hsq.sa
      have HRQ := hid0 hrq.ra
      have HNC := hid0 hNC
      have HRP := hid0 hRP
      have HSt := hid0 HS.out
      rw [hfn] at d3
      obtain ⟨wA, hwA⟩ : ∃ wA, wA = wr.alloc (.cells #[.bool nt, .slice a1 N.length ca1, .slice a2 P.length ca2, .func fn fx fy] 104) := ⟨_, rfl⟩
      have hBA : Below wr.heap.size wr wA := by rw [hwA]; exact (Below.refl _ _).alloc (Nat.le_refl _) _
      have hsA : wA.heap.size = wr.heap.size + 1 := by rw [hwA]; simp
      have hYA : wA.heap[wr.heap.size]? = some (.cells #[.bool nt, .slice a1 N.length ca1, .slice a2 P.length ca2, .func fn fx fy] 104 (0, 0)) := by rw [hwA]; exact heap_alloc_new wr _
      have hXA : wA.heap[w.heap.size]? = some (.cells #[.string c, .int .i64 p] 46 (0, 0)) := by
        have h := HK.out.rows _ _ _ _ HX1.out (by decide) (by decide) (by decide)
        exact (hBA.block _ (lt_of_row h)).trans h
      have y0 : wA.cell? ⟨wr.heap.size, 0, none⟩ = some (.bool nt) := by rw [cell_of_row _ _ _ _ _ _ hYA]; rfl
      have y1 : wA.cell? ⟨wr.heap.size, 1, none⟩ = some (.slice a1 N.length ca1) := by rw [cell_of_row _ _ _ _ _ _ hYA]; rfl
      have y2 : wA.cell? ⟨wr.heap.size, 2, none⟩ = some (.slice a2 P.length ca2) := by rw [cell_of_row _ _ _ _ _ _ hYA]; rfl
      have x0 : wA.cell? ⟨w.heap.size, 0, none⟩ = some (.string c) := by rw [cell_of_row _ _ _ _ _ _ hXA]; rfl
      have x1 : wA.cell? ⟨w.heap.size, 1, none⟩ = some (.int .i64 p) := by rw [cell_of_row _ _ _ _ _ _ hXA]; rfl
      have HYW : Hid (∀ W, Below wA.heap.size wA W → W.cell? ⟨wr.heap.size, 3, none⟩ = some (.func fn fx fy)) := hid0 (fun W hW => by rw [cell_of_row _ _ _ _ _ _ ((hW.block _ (by omega)).trans hYA)]; rfl)
      have HH := hid0 (holdsSorted_any nt N P a1 a2 ca1 ca2 c p wA HNC.out HRP.out lP (HSQ.out.below hBA) (HRQ.out.below hBA))
      have HBA := hid0 hBA
      have HSA := hid0 hsA
      have hfA := hwA.symm
      clear hsq hrq hNC hRP hwA hBA hYA hXA HSQ HRQ
      cases hho : holdsF nt N P c p with
      | false =>
        rw [hho] at HH ht1
        rw [if_neg (by decide)] at ht1
        have HT2 := hid0 ht1
        clear ht1 hho
        go_wp2_with (go_at_call 72; refine HH.out.mono ?_; rintro e w2 ⟨rfl, hb2⟩; have HB2 := hid0 (Below.later HBA.out hb2); clear hb2)
        go_roundw
        case rel => exact ⟨k + 1, t, by omega, by go_num, HT2, hid0 (HSt.out.later hsz HB2.out), hid0 (HK.out.trans (Kp.ofBelow HB2.out hsz))⟩
        case measure => simp [intOf]; omega
      | true =>
        rw [hho] at HH ht1
        rw [if_pos rfl] at ht1
        cases hvv : vis G pl (2 * G.length + 2) nx t with
        | none => rw [hvv] at ht1; cases ht1
        | some t2 =>
          rw [hvv] at ht1
          have HT2 : Hid (takeF G pl (c, p) (s.wait.drop (k + 1)) t2 = some s') := hid0 ht1
          have hwl : t2.wait.length ≤ 1000000 := by
            have h := ht1
            simp only at h
            rw [takeF_eq pl (c, p) _ (fun y hy => HST.out y (List.mem_of_mem_drop hy))] at h
            exact Nat.le_trans (wait_le h) hw8
          have HC : Hid (∀ W, Below wr.heap.size wr W → CallV (.func fn fx fy) pl W (Vp base R Y G s.wait (.slice (some ⟨g, 0, none⟩) s.wait.length ca) W t2)) := hid0 (fun W hW => by
            rw [← hfn]
            exact visit_any HWF.out HF6.out pl _ nx t t2 W hvv hwl (HSt.out.later hsz hW))
          clear ht1 hvv hho
          have hsh : (∃ b', Value.func fn fx fy = finV b') ∨ (∃ l o, Value.func fn fx fy = onceV l o) ∨ (∃ b', Value.func fn fx fy = trampV b') := by
            rcases HC.out wr (Below.refl _ _) with ⟨b', e, _⟩ | ⟨l, o, e, _⟩ | ⟨b', e, _⟩
            · exact .inl ⟨b', e⟩
            · exact .inr (.inl ⟨l, o, e⟩)
            · exact .inr (.inr ⟨b', e⟩)
          rcases hsh with ⟨b', e⟩ | ⟨l, o, e⟩ | ⟨b', e⟩
          · unfold finV ptr at e
            cases e
            have HC2 : Hid (∀ W, Below wr.heap.size wr W → Calls Tryd.prog 54 #[.int .i64 pl, .pointer (some ⟨b', 0, none⟩)] W (Vp base R Y G s.wait (.slice (some ⟨g, 0, none⟩) s.wait.length ca) W t2)) := hid0 (fun W hW => by
              rcases HC.out W hW with ⟨_, e, h⟩ | ⟨_, _, e, _⟩ | ⟨_, e, _⟩
              · cases e; exact h
              · cases e
              · cases e)
            clear HC
            go_wp2_with (first
              | (go_at_call 72; refine HH.out.mono ?_; rintro e w2 ⟨rfl, hb2⟩; have y3 := HYW.out w2 hb2; have HB2 := hid0 (Below.later HBA.out hb2); clear hb2)
              | (go_at_call 54; refine (HC2.out w2 HB2.out).mono ?_; rintro e w3 ⟨rfl, hs3, hk3⟩; have HS3 := hid0 hs3; have HK3 := hid0 ((HK.out.trans (Kp.ofBelow HB2.out hsz)).trans hk3); clear hs3 hk3)
              | fail)
            go_roundw
            case rel => exact ⟨k + 1, t2, by omega, by go_num, HT2, HS3, HK3⟩
            case measure => simp [intOf]; omega
          · unfold onceV ptr at e
            cases e
            have HC2 : Hid (∀ W, Below wr.heap.size wr W → Calls Tryd.prog 78 #[.int .i64 pl, .pointer (some ⟨l, 0, none⟩), .pointer (some ⟨o, 0, none⟩)] W (Vp base R Y G s.wait (.slice (some ⟨g, 0, none⟩) s.wait.length ca) W t2)) := hid0 (fun W hW => by
              rcases HC.out W hW with ⟨_, e, _⟩ | ⟨_, _, e, h⟩ | ⟨_, e, _⟩
              · cases e
              · cases e; exact h
              · cases e)
            clear HC
            go_wp2_with (first
              | (go_at_call 72; refine HH.out.mono ?_; rintro e w2 ⟨rfl, hb2⟩; have y3 := HYW.out w2 hb2; have HB2 := hid0 (Below.later HBA.out hb2); clear hb2)
              | (go_at_call 78; refine (HC2.out w2 HB2.out).mono ?_; rintro e w3 ⟨rfl, hs3, hk3⟩; have HS3 := hid0 hs3; have HK3 := hid0 ((HK.out.trans (Kp.ofBelow HB2.out hsz)).trans hk3); clear hs3 hk3)
              | fail)
            go_roundw
            case rel => exact ⟨k + 1, t2, by omega, by go_num, HT2, HS3, HK3⟩
            case measure => simp [intOf]; omega
          · unfold trampV ptr at e
            cases e
            have HC2 : Hid (∀ W, Below wr.heap.size wr W → Calls Tryd.prog 81 #[.int .i64 pl, .pointer (some ⟨b', 0, none⟩)] W (Vp base R Y G s.wait (.slice (some ⟨g, 0, none⟩) s.wait.length ca) W t2)) := hid0 (fun W hW => by
              rcases HC.out W hW with ⟨_, e, _⟩ | ⟨_, _, e, _⟩ | ⟨_, e, h⟩
              · cases e
              · cases e
              · cases e; exact h)
            clear HC
            go_wp2_with (first
              | (go_at_call 72; refine HH.out.mono ?_; rintro e w2 ⟨rfl, hb2⟩; have y3 := HYW.out w2 hb2; have HB2 := hid0 (Below.later HBA.out hb2); clear hb2)
              | (go_at_call 81; refine (HC2.out w2 HB2.out).mono ?_; rintro e w3 ⟨rfl, hs3, hk3⟩; have HS3 := hid0 hs3; have HK3 := hid0 ((HK.out.trans (Kp.ofBelow HB2.out hsz)).trans hk3); clear hs3 hk3)
              | fail)
            go_roundw
            case rel => exact ⟨k + 1, t2, by omega, by go_num, HT2, HS3, HK3⟩
            case measure => simp [intOf]; omega
    · have hkI : ¬ (k : Int) < (s.wait.length : Int) := by omega
      have ht1 := HT.out
      rw [List.drop_of_length_le (by omega), takeF] at ht1
      cases ht1
      go_wp2
      go_end0
      exact ⟨rfl, ⟨_, HS.out⟩, HK1.out.trans HK.out⟩
end Go.Proofs.YtiapefdklojhdaaDoor
namespace Go.Proofs.YtiapefdklojhdaaDoor
open Go.RowKit Go.Shelf
/-- How many nodes an expression has. -/
def Ex.size : Ex → Nat
  | .mk _ _ _ _ L => 1 + sizes L
where sizes : List Ex → Nat
  | [] => 0
  | e :: L => e.size + sizes L
theorem Ex.size_mk (k : Int) (nt : Bool) (N : List ByteArray) (P : List (Int × Int)) (L : List Ex) : (Ex.mk k nt N P L).size = 1 + Ex.size.sizes L := by rw [Ex.size]
/-- An expression that ways can be made of. -/
inductive Good : Ex → Prop
  | none (nt : Bool) (N : List ByteArray) (P : List (Int × Int)) (L : List Ex) : Good (.mk 1 nt N P L)
  | set (nt : Bool) (N : List ByteArray) (P : List (Int × Int)) (L : List Ex) : NamesC N → RiseP P → Good (.mk 2 nt N P L)
  | seq (nt : Bool) (N : List ByteArray) (P : List (Int × Int)) (L : List Ex) : L.length ≤ 1000000 → (∀ e, e ∈ L → Good e) → Good (.mk 3 nt N P L)
  | alt (nt : Bool) (N : List ByteArray) (P : List (Int × Int)) (L : List Ex) : L.length ≤ 1000000 → (∀ e, e ∈ L → Good e) → Good (.mk 4 nt N P L)
  | star (nt : Bool) (N : List ByteArray) (P : List (Int × Int)) (e : Ex) : Good e → Good (.mk 5 nt N P [e])
  | plus (nt : Bool) (N : List ByteArray) (P : List (Int × Int)) (e : Ex) : Good e → Good (.mk 6 nt N P [e])
  | opt (nt : Bool) (N : List ByteArray) (P : List (Int × Int)) (e : Ex) : Good e → Good (.mk 7 nt N P [e])
/-- What holds of a node whatever its place. -/
def NdOk (G : List Nd) (n : Nat) : Nd → Prop
  | .fin => True
  | .set _ N P nx => nx < n ∧ NamesC N ∧ RiseP P
  | .fork ys => ys.length ≤ 1000000 ∧ ∀ y, y ∈ ys → y < n
  | .tramp y => ∃ ys, G[y]? = some (.fork ys)
  | .hole => True
/-- Nodes in memory that none was gone on from. -/
structure Bd (w : World) (base R : Nat) (Y : Lay) (F : Nat → Nat → Prop) (G : List Nd) : Prop where
  g : GIn w base R Y F G (fun _ => -1)
  ok : ∀ (i : Nat) (d : Nd), G[i]? = some d → NdOk G G.length d
structure Ext (Y : Lay) (G : List Nd) (Y' : Lay) (G' : List Nd) : Prop where
  len : G.length ≤ G'.length
  nodes : ∀ (i : Nat), i < G.length → G'[i]? = G[i]?
  val : ∀ (i : Nat), i < G.length → Y'.val i = Y.val i
theorem Ext.refl (Y : Lay) (G : List Nd) : Ext Y G Y G := ⟨Nat.le_refl _, fun _ _ => rfl, fun _ _ => rfl⟩
theorem Ext.trans {Y Y' Y'' : Lay} {G G' G'' : List Nd} (h : Ext Y G Y' G') (k : Ext Y' G' Y'' G'') : Ext Y G Y'' G'' :=
  ⟨Nat.le_trans h.len k.len, fun i hi => (k.nodes i (Nat.lt_of_lt_of_le hi h.len)).trans (h.nodes i hi), fun i hi => (k.val i (Nat.lt_of_lt_of_le hi h.len)).trans (h.val i hi)⟩
theorem Ext.built {Y Y' : Lay} {G G' : List Nd} (h : Ext Y G Y' G') {e : Ex} {nx x : Nat} (hb : Built G e nx x) : Built G' e nx x :=
  Built.more (fun i _ hi _ => (h.nodes i (List.getElem?_eq_some_iff.1 hi).1).trans hi) hb
/-- A node stays where other nodes are told apart. -/
theorem NodeIn.lay {w : World} {base R : Nat} {Y Y' : Lay} {F : Nat → Prop} {i : Nat} {l : Int} {d : Nd} {G : List Nd} (h : NodeIn w base R Y F i l d) (ok : NdOk G G.length d) (hi : i < G.length)
    (hv : ∀ j, j < G.length → Y'.val j = Y.val j) (h1 : Y'.last i = Y.last i) (h2 : Y'.nm i = Y.nm i) (h3 : Y'.pt i = Y.pt i) : NodeIn w base R Y' F i l d := by
  cases h with
  | fin h => exact .fin ((hv i hi).trans h)
  | set nt N P nx o r e n k z e1 e2 e3 e4 e5 e6 e7 hF =>
    refine .set nt N P nx o r e n k z ?_ ?_ ?_ e4 e5 ?_ ?_ hF
    · rw [hv i hi, h1]; exact e1
    · rw [h1]; exact e2
    · rw [h1]; exact e3
    · rw [h2, h3]; exact e6
    · rw [hv nx ok.1]; exact e7
  | fork ys o b v e1 e2 e3 e4 e5 e6 hF =>
    refine .fork ys o b v ?_ ?_ ?_ e4 e5 ?_ hF
    · rw [hv i hi, h1]; exact e1
    · rw [h1]; exact e2
    · rw [h1]; exact e3
    · have : ys.map Y'.val = ys.map Y.val := List.map_congr_left (fun y hy => hv y (ok.2 y hy))
      rw [this]; exact e6
  | tramp y b e1 e2 e3 hF =>
    obtain ⟨zs, hz⟩ := ok
    refine .tramp y b ((hv i hi).trans e1) e2 ?_ hF
    rw [hv y (List.getElem?_eq_some_iff.1 hz).1]; exact e3
  | hole b e1 e2 e3 hF => exact .hole b ((hv i hi).trans e1) e2 e3 hF
def Lay.put (Y : Lay) (i : Nat) (v : Value) (l : Nat) (n p : Value) : Lay := ⟨fun j => if j = i then v else Y.val j, fun j => if j = i then l else Y.last j, fun j => if j = i then n else Y.nm j, fun j => if j = i then p else Y.pt j⟩
theorem NdOk.more {G G' : List Nd} {d : Nd} (h : NdOk G G.length d) (hl : G.length ≤ G'.length) (hk : ∀ (y : Nat) (ys : List Nat), G[y]? = some (.fork ys) → G'[y]? = some (.fork ys)) : NdOk G' G'.length d := by
  cases d with
  | fin => trivial
  | set nt N P nx => exact ⟨Nat.lt_of_lt_of_le h.1 hl, h.2⟩
  | fork ys => exact ⟨h.1, fun y hy => Nat.lt_of_lt_of_le (h.2 y hy) hl⟩
  | tramp y => obtain ⟨ys, e⟩ := h; exact ⟨ys, hk y ys e⟩
  | hole => trivial
theorem Bd.mono {w : World} {base R : Nat} {Y : Lay} {F F' : Nat → Nat → Prop} {G : List Nd} (h : Bd w base R Y F G) (hm : ∀ i b, i < G.length → b < w.heap.size → F i b → F' i b) : Bd w base R Y F' G :=
  ⟨⟨fun i d hi => (h.g.node i d hi).mono (fun b => hm i b (List.getElem?_eq_some_iff.1 hi).1), h.g.inj, h.g.sets⟩, h.ok⟩
theorem Bd.later {w w' : World} {base R : Nat} {Y : Lay} {F : Nat → Nat → Prop} {G : List Nd} (h : Bd w base R Y F G) (hb : base ≤ w.heap.size) (k : Below w.heap.size w w') : Bd w' base R Y F G :=
  ⟨h.g.kp (Kp.ofBelow k hb) (fun i d hi hd => by
    have hr := ((h.g.node i d hi).lastRow hd).2
    exact (k.block _ (lt_of_row hr)).trans hr), h.ok⟩
/-- A node more. -/
theorem Bd.add {w w' : World} {base R : Nat} {Y : Lay} {F : Nat → Nat → Prop} {G : List Nd} (h : Bd w base R Y F G) (hb : base ≤ w.heap.size) (k : Below w.heap.size w w') (d : Nd) (v : Value) (l : Nat) (n p : Value)
    (hn : NodeIn w' base R (Y.put G.length v l n p) (F G.length) G.length (-1) d) (hl : d.once = true → w.heap.size ≤ l) (hok : NdOk (G ++ [d]) (G.length + 1) d) (hs : ∀ nt N P nx, d = .set nt N P nx → SetIn w' base (Y.put G.length v l n p) G.length N P) :
    Bd w' base R (Y.put G.length v l n p) F (G ++ [d]) ∧ Ext Y G (Y.put G.length v l n p) (G ++ [d]) := by
  have h' := h.later hb k
  have hput : ∀ j, j < G.length → (Y.put G.length v l n p).val j = Y.val j ∧ (Y.put G.length v l n p).last j = Y.last j ∧ (Y.put G.length v l n p).nm j = Y.nm j ∧ (Y.put G.length v l n p).pt j = Y.pt j := fun j hj => by
    have : ¬ j = G.length := by omega
    simp [Lay.put, this]
  have hat : ∀ (i : Nat) (e : Nd), (G ++ [d])[i]? = some e → (i < G.length ∧ G[i]? = some e) ∨ (i = G.length ∧ e = d) := fun i e hi => by
    rcases Nat.lt_trichotomy i G.length with hlt | heq | hgt
    · rw [List.getElem?_append_left hlt] at hi; exact .inl ⟨hlt, hi⟩
    · subst heq
      rw [List.getElem?_append_right (Nat.le_refl _), Nat.sub_self] at hi
      simp only [List.getElem?_cons_zero, Option.some.injEq] at hi
      exact .inr ⟨rfl, hi.symm⟩
    · rw [List.getElem?_eq_none (by simp; omega)] at hi; cases hi
  have hold : ∀ (i : Nat) (e : Nd), i < G.length → G[i]? = some e → NodeIn w' base R (Y.put G.length v l n p) (F i) i (-1) e := fun i e hlt he =>
    (h'.g.node i e he).lay (h.ok i e he) hlt (fun j hj => (hput j hj).1) (hput i hlt).2.1 (hput i hlt).2.2.1 (hput i hlt).2.2.2
  have hlast : ∀ (i : Nat) (e : Nd), i < G.length → G[i]? = some e → e.once = true → (Y.put G.length v l n p).last i < w.heap.size := fun i e hlt he ho => by
    rw [(hput i hlt).2.1]
    exact lt_of_row ((h.g.node i e he).lastRow ho).2
  refine ⟨⟨⟨fun i e hi => ?_, fun i j e f hi hj he hf hq => ?_, fun i nt N P nx hi => ?_⟩, fun i e hi => ?_⟩, ⟨by simp, fun i hi => List.getElem?_append_left hi, fun i hi => (hput i hi).1⟩⟩
  · rcases hat i e hi with ⟨hlt, he⟩ | ⟨rfl, rfl⟩
    · exact hold i e hlt he
    · exact hn
  · have hnew : d.once = true → (Y.put G.length v l n p).last G.length = l := fun _ => by simp [Lay.put]
    rcases hat i e hi with ⟨hlt, hge⟩ | ⟨rfl, rfl⟩
    · rcases hat j f hj with ⟨hlt2, hgf⟩ | ⟨rfl, rfl⟩
      · rw [(hput i hlt).2.1, (hput j hlt2).2.1] at hq
        exact h.g.inj i j e f hge hgf he hf hq
      · have a1 := hlast i e hlt hge he
        rw [hq, hnew hf] at a1
        have := hl hf
        omega
    · rcases hat j f hj with ⟨hlt2, hgf⟩ | ⟨rfl, _⟩
      · have a1 := hlast j f hlt2 hgf hf
        rw [← hq, hnew he] at a1
        have := hl he
        omega
      · rfl
  · rcases hat i _ hi with ⟨hlt, he⟩ | ⟨rfl, he⟩
    · obtain ⟨⟨a, ca, b, cb, e1, e2, h1, h2⟩, h3, h4⟩ := h'.g.sets i nt N P nx he
      exact ⟨⟨a, ca, b, cb, (hput i hlt).2.2.1.trans e1, (hput i hlt).2.2.2.trans e2, h1, h2⟩, h3, h4⟩
    · exact hs nt N P nx he.symm
  · rcases hat i e hi with ⟨hlt, he⟩ | ⟨rfl, rfl⟩
    · exact (h.ok i e he).more (by simp) (fun y ys hy => (List.getElem?_append_left (List.getElem?_eq_some_iff.1 hy).1).trans hy)
    · have : (G ++ [e]).length = G.length + 1 := by simp
      rw [this]; exact hok
/-- What a way through an expression comes to. -/
structure Wayed (w : World) (base R : Nat) (Y : Lay) (F : Nat → Nat → Prop) (G : List Nd) (e : Ex) (nx : Nat) (w' : World) (Y' : Lay) (G' : List Nd) (i : Nat) : Prop where
  lt : i < G'.length
  ext : Ext Y G Y' G'
  bd : Bd w' base R Y' F G'
  built : Built G' e nx i
  holes : ∀ (j : Nat), G.length ≤ j → G'[j]? ≠ some .hole
  size : G'.length ≤ G.length + 2 * e.size
  bel : Below w.heap.size w w'
def WayP (e : Ex) : Prop := ∀ (w : World) (base R : Nat) (Y : Lay) (F : Nat → Nat → Prop) (G : List Nd) (nx : Nat) (x : EV), (∀ i b, G.length ≤ i → w.heap.size ≤ b → F i b) → Bd w base R Y F G → nx < G.length → ExIs w (fun g => g < base) e x → base ≤ w.heap.size →
  Calls Tryd.prog 53 #[.pointer (some ⟨R, 0, none⟩), x.v, Y.val nx] w fun e' w' => ∃ Y' G' i, e' = .returned (Y'.val i) ∧ Wayed w base R Y F G e nx w' Y' G' i
end Go.Proofs.YtiapefdklojhdaaDoor
namespace Go.Proofs.YtiapefdklojhdaaDoor
open Go.RowKit Go.Shelf
set_option maxRecDepth 10000 in
theorem once_new (fn : Fn) (fx fy : Array Value) (w : World) : Calls Tryd.prog 65 #[.func fn fx fy] w fun e w' => e = .returned (onceV (w.heap.size + 1) w.heap.size) ∧ w' = (w.alloc (.cells #[.func fn fx fy] 90)).alloc (.cells #[.int .i64 (-1)] 3) := by
  have hmf : ∀ (fn : Fn) (first cap : Array Value) (w : World), (Instr.makeFunc fn first cap).run Tryd.prog w = .ok (.func fn first cap) w := fun _ _ _ _ => rfl
  unfold onceV ptr
  go_enter Tryd.func65, Tryd.ntmps65
  go_wp2
  go_ret
  exact ⟨by simp, rfl⟩
set_option maxRecDepth 10000 in
theorem fork_new (a : Option Addr) (n c : Nat) (w : World) : Calls Tryd.prog 68 #[.slice a n c] w fun e w' => e = .returned (onceV (w.heap.size + 2) (w.heap.size + 1)) ∧ w' = ((w.alloc (.cells #[.slice a n c] 109)).alloc (.cells #[forkF w.heap.size] 90)).alloc (.cells #[.int .i64 (-1)] 3) := by
  have hmf : ∀ (fn : Fn) (first cap : Array Value) (w : World), (Instr.makeFunc fn first cap).run Tryd.prog w = .ok (.func fn first cap) w := fun _ _ _ _ => rfl
  unfold forkF ptr
  go_enter Tryd.func68, Tryd.ntmps68
  go_wp2_with (go_at_call 65; refine (once_new _ _ _ _).mono ?_; rintro e w1 ⟨rfl, rfl⟩)
  go_ret
  exact ⟨by unfold onceV ptr; simp, rfl⟩
/-- The three boxes that a way's making begins with. -/
theorem box3 (w : World) (R : Nat) (v : Value) (x : EV) : ∃ w0, w0 = ((w.alloc (.cells #[.pointer (some ⟨R, 0, none⟩)] 101)).alloc (.cells #[x.k, x.t, x.n, x.p, x.r] 28)).alloc (.cells #[v] 90) ∧
    w0.heap.size = w.heap.size + 3 ∧ Below w.heap.size w w0 ∧ row w0 w.heap.size (ptr R) 101 ∧ w0.heap[w.heap.size + 1]? = some (.cells #[x.k, x.t, x.n, x.p, x.r] 28 (0, 0)) ∧ row w0 (w.heap.size + 2) v 90 := by
  obtain ⟨wa, hwa⟩ : ∃ wa, wa = w.alloc (.cells #[.pointer (some ⟨R, 0, none⟩)] 101) := ⟨_, rfl⟩
  obtain ⟨wb, hwb⟩ : ∃ wb, wb = wa.alloc (.cells #[x.k, x.t, x.n, x.p, x.r] 28) := ⟨_, rfl⟩
  have sa : wa.heap.size = w.heap.size + 1 := by rw [hwa]; simp
  have sb : wb.heap.size = w.heap.size + 2 := by rw [hwb]; simp [sa]
  have ra : wa.heap[w.heap.size]? = some (.cells #[.pointer (some ⟨R, 0, none⟩)] 101 (0, 0)) := by rw [hwa]; exact heap_alloc_new w _
  have rb : wb.heap[w.heap.size + 1]? = some (.cells #[x.k, x.t, x.n, x.p, x.r] 28 (0, 0)) := by rw [hwb, ← sa]; exact heap_alloc_new wa _
  refine ⟨wb.alloc (.cells #[v] 90), by rw [hwb, hwa], by simp [sb], ?_, ?_, ?_, ?_⟩
  · rw [hwb, hwa]; exact (((Below.refl _ _).alloc (Nat.le_refl _) _).alloc (by simp) _).alloc (by simp; omega) _
  · unfold row ptr
    rw [Below.heap_alloc wb _ _ (by omega), hwb, Below.heap_alloc wa _ _ (by omega)]; exact ra
  · rw [Below.heap_alloc wb _ _ (by omega)]; exact rb
  · unfold row
    rw [← sb]; exact heap_alloc_new wb _
set_option maxRecDepth 10000 in
set_option maxHeartbeats 800000 in
theorem way_none (nt : Bool) (N : List ByteArray) (P : List (Int × Int)) (L : List Ex) : WayP (.mk 1 nt N P L) := by
  intro w base R Y F G nx x hF hB hnx hx hb
  obtain ⟨a, ca, b, cb, c, cc, rfl, _⟩ := hx.shape
  obtain ⟨fn, fx, fy, hfn⟩ := (hB.g.node nx _ (List.getElem?_eq_getElem hnx)).func
  obtain ⟨w0, hw0, hs0, hb0, r0, r1, r2⟩ := box3 w R (Y.val nx) ⟨.int .i64 1, .bool nt, .slice a N.length ca, .slice b P.length cb, .slice c L.length cc⟩
  have HE : Hid (∃ Y' G' i, Ending.returned (.func fn fx fy) = .returned (Y'.val i) ∧ Wayed w base R Y F G (.mk 1 nt N P L) nx w0 Y' G' i) := hid0 ⟨Y, G, nx, by rw [hfn], ⟨hnx, Ext.refl _ _, hB.later hb hb0, .none nt N P L nx, fun j hj => by rw [List.getElem?_eq_none hj]; simp, by omega, hb0⟩⟩
  rw [hfn] at hw0 r2 ⊢
  have c0 : w0.cell? ⟨w.heap.size + 1, 0, none⟩ = some (.int .i64 1) := by rw [cell_of_row _ _ _ _ _ _ r1]; rfl
  have c1 : w0.cell? ⟨w.heap.size + 2, 0, none⟩ = some (.func fn fx fy) := row_cell r2
  have hf := hw0.symm
  simp only at hf
  unfold EV.v
  clear hw0 hx hB r0 r1 r2 hb0
  go_enter Tryd.func53, Tryd.ntmps53
  go_wp2
  go_ret
  exact HE.out
set_option maxRecDepth 10000 in
set_option maxHeartbeats 800000 in
theorem way_set (nt : Bool) (N : List ByteArray) (P : List (Int × Int)) (L : List Ex) (hN : NamesC N) (hP : RiseP P) : WayP (.mk 2 nt N P L) := by
  intro w base R Y F G nx x hF hB hnx hx hb
  obtain ⟨a, ca, b, cb, c, cc, rfl, hsq, hrq, lN, lP, _⟩ := hx.shape
  obtain ⟨fn, fx, fy, hfn⟩ := (hB.g.node nx _ (List.getElem?_eq_getElem hnx)).func
  obtain ⟨w0, hw0, hs0, hb0, r0, r1, r2⟩ := box3 w R (Y.val nx) ⟨.int .i64 2, .bool nt, .slice a N.length ca, .slice b P.length cb, .slice c L.length cc⟩
  have hmf : ∀ (fn : Fn) (first cap : Array Value) (w : World), (Instr.makeFunc fn first cap).run Tryd.prog w = .ok (.func fn first cap) w := fun _ _ _ _ => rfl
  have hON := hid0 (once_new (.func 66) #[] #[.pointer (some ⟨w.heap.size, 0, none⟩), .pointer (some ⟨w.heap.size + 1, 0, none⟩), .pointer (some ⟨w.heap.size + 2, 0, none⟩)] w0)
  rw [hs0] at hON
  obtain ⟨w1, hw1⟩ : ∃ w1, w1 = (w0.alloc (.cells #[setF w.heap.size (w.heap.size + 1) (w.heap.size + 2)] 90)).alloc (.cells #[.int .i64 (-1)] 3) := ⟨_, rfl⟩
  have hb1 : Below w0.heap.size w0 w1 := by rw [hw1]; exact ((Below.refl _ _).alloc (Nat.le_refl _) _).alloc (by simp) _
  have q0 : row w1 (w.heap.size + 3) (setF w.heap.size (w.heap.size + 1) (w.heap.size + 2)) 90 := by
    unfold row
    rw [hw1, Below.heap_alloc _ _ _ (by simp; omega), ← hs0]
    exact heap_alloc_new w0 _
  have q1 : row w1 (w.heap.size + 4) (.int .i64 (-1)) 3 := by
    unfold row
    have h := heap_alloc_new (w0.alloc (.cells #[setF w.heap.size (w.heap.size + 1) (w.heap.size + 2)] 90)) (.cells #[.int .i64 (-1)] 3)
    rw [show (w0.alloc (.cells #[setF w.heap.size (w.heap.size + 1) (w.heap.size + 2)] 90)).heap.size = w.heap.size + 4 by simp [hs0]] at h
    rw [hw1]; exact h
  have hbw : Below w.heap.size w w1 := Below.later hb0 hb1
  have HE : Hid (∃ Y' G' i, Ending.returned (onceV (w.heap.size + 4) (w.heap.size + 3)) = .returned (Y'.val i) ∧ Wayed w base R Y F G (.mk 2 nt N P L) nx w1 Y' G' i) := by
    have hput : ∀ j, j < G.length → (Y.put G.length (onceV (w.heap.size + 4) (w.heap.size + 3)) (w.heap.size + 4) (.slice a N.length ca) (.slice b P.length cb)).val j = Y.val j := fun j hj => by
      have : ¬ j = G.length := by omega
      simp [Lay.put, this]
    have hnew := hB.add hb hbw (.set nt N P nx) (onceV (w.heap.size + 4) (w.heap.size + 3)) (w.heap.size + 4) (.slice a N.length ca) (.slice b P.length cb)
      (.set nt N P nx (w.heap.size + 3) w.heap.size (w.heap.size + 1) (w.heap.size + 2) (.int .i64 2) (.slice c L.length cc) (by simp [Lay.put]) (by simp [Lay.put]; omega) (by simp [Lay.put]; exact q1) q0 ((hb1.block _ (lt_of_row r0)).trans r0) (by simp [Lay.put]; exact (hb1.block _ (lt_of_row r1)).trans r1) (by rw [hput nx hnx]; exact (hb1.block _ (lt_of_row r2)).trans r2) ⟨hF _ _ (Nat.le_refl _) (by omega), hF _ _ (Nat.le_refl _) (by omega), hF _ _ (Nat.le_refl _) (by omega), hF _ _ (Nat.le_refl _) (by omega)⟩)
      (fun _ => by omega) ⟨by omega, hN, hP⟩ (fun nt' N' P' nx' e => by
        cases e
        exact ⟨⟨a, ca, b, cb, by simp [Lay.put], by simp [Lay.put], hsq.keeps ⟨hbw.size, fun g o hg hl => hbw.cell (p := ⟨g, o, none⟩) hl⟩, hrq.keeps ⟨hbw.size, fun g o hg hl => hbw.cell (p := ⟨g, o, none⟩) hl⟩⟩, lN, lP⟩)
    exact hid0 ⟨_, _, G.length, by simp [Lay.put], ⟨by simp, hnew.2, hnew.1, .set nt N P L nx G.length (by simp), fun j hj => by
      rcases Nat.lt_or_ge j (G.length + 1) with h | h
      · have : j = G.length := by omega
        subst this
        simp
      · rw [List.getElem?_eq_none (by simp; omega)]; simp, by simp [Ex.size_mk]; omega, hbw⟩⟩
  rw [hfn] at hw0 r2 ⊢
  have c0 : w0.cell? ⟨w.heap.size + 1, 0, none⟩ = some (.int .i64 2) := by rw [cell_of_row _ _ _ _ _ _ r1]; rfl
  have hf := hw0.symm
  simp only at hf
  unfold EV.v
  have HW1 := hid0 hw1
  clear hw0 hx hB r0 r1 r2 hb0 hb1 hbw q0 q1 hw1 hsq hrq hN hP
  go_enter Tryd.func53, Tryd.ntmps53
  go_wp2_with (go_at_call 65; refine hON.out.mono ?_; rintro e w2 ⟨rfl, rfl⟩)
  go_ret
  have h := HE.out
  rw [HW1.out] at h
  exact h
end Go.Proofs.YtiapefdklojhdaaDoor
namespace Go.Proofs.YtiapefdklojhdaaDoor
open Go.RowKit Go.Shelf
/-- All rows of cells but one are as they were. -/
def KX (nb : Nat) (W W' : World) : Prop := (∀ (i : Nat) c t z, i ≠ nb → W.heap[i]? = some (.cells c t z) → W'.heap[i]? = some (.cells c t z)) ∧ W.heap.size ≤ W'.heap.size
theorem KX.refl (nb : Nat) (W : World) : KX nb W W := ⟨fun _ _ _ _ _ h => h, Nat.le_refl _⟩
theorem KX.trans {nb : Nat} {A B C : World} (h : KX nb A B) (k : KX nb B C) : KX nb A C := ⟨fun i c t z hn hi => k.1 i c t z hn (h.1 i c t z hn hi), Nat.le_trans h.2 k.2⟩
theorem KX.ofBelow {nb : Nat} {W W' : World} (h : Below W.heap.size W W') : KX nb W W' := ⟨fun i _ _ _ _ hi => (h.block i (Array.getElem?_eq_some_iff.1 hi).1).trans hi, h.size⟩
theorem KX.cell {nb : Nat} {W W' : World} (h : KX nb W W') {g o : Nat} {v : Value} (hg : g ≠ nb) (hc : W.cell? ⟨g, o, none⟩ = some v) : W'.cell? ⟨g, o, none⟩ = some v := by
  obtain ⟨c, t, z, hb, hv⟩ := Go.Sort.cells_of_cell? hc
  rw [cell_of_row _ _ _ _ _ _ (h.1 g c t z hg hb)]
  exact hv
theorem KX.five {nb : Nat} {W W' : World} (h : KX nb W W') {g o : Nat} {x : EV} (hg : g ≠ nb) (hc : Five W g o x) : Five W' g o x :=
  ⟨h.cell hg hc.k, h.cell hg hc.t, h.cell hg hc.n, h.cell hg hc.p, h.cell hg hc.r⟩
theorem kx_putObj (nb : Nat) (W : World) (l : Nat) (o o' : Obj) (hl : W.heap[l]? = some o) (hc : o.isCells = false) : KX nb W (W.putObj l o') := by
  refine ⟨fun i c t z _ hi => ?_, by simp [World.putObj]⟩
  have hne : i ≠ l := fun e => by
    subst e
    rw [hi] at hl
    cases hl
    simp [Obj.isCells] at hc
  simp only [World.putObj]
  rw [Array.getElem?_setIfInBounds_ne (fun e => hne e.symm)]
  exact hi
set_option maxRecDepth 100000 in
set_option maxHeartbeats 2000000 in
theorem back1_in (n : Nat) (hn : 1 ≤ n) (l Bn nb cap N : Nat) (a : Option Addr) (vs : Nat → EV) (hl : N ≤ 1000000000) (J Jx : List (Fin N) → World → Prop)
    (hY : ∀ pre x W, J pre W → pre.length < N → YieldAt Fence.wide (n - 1) Tryd.prog l #[.int .i64 ((x.val : Nat) : Int), .agg #[(vs x.val).k, (vs x.val).t, (vs x.val).n, (vs x.val).p, (vs x.val).r]] W fun e W' =>
      (e = .returned (.bool true) ∧ J (pre ++ [x]) W' ∧ KX nb W W') ∨ (e = .returned (.bool false) ∧ Jx (pre ++ [x]) W'))
    (W : World) (hBn : W.heap[Bn]? = some (.cells #[.slice a N cap] 26 (0, 0))) (hne : Bn ≠ nb) (hel : ∀ i, i < N → ∃ g off, a = some ⟨g, off, none⟩ ∧ g ≠ nb ∧ Five W g (off + i * 5) (vs i)) (h0 : J [] W) :
    CallsIn Fence.wide n Tryd.prog 79 #[.func (.yield l) #[] #[], .pointer (some ⟨Bn, 0, none⟩)] W fun e W' => (∃ v, e = .returned v) ∧
      ((∃ ys : List (Fin N), ys.map (·.val) = (List.range N).reverse ∧ J ys W') ∨ (∃ pre : List (Fin N), True ∧ Jx pre W')) := by
  have hcell : W.cell? ⟨Bn, 0, none⟩ = some (.slice a N cap) := by rw [cell_of_row W Bn 0 _ _ _ hBn]; rfl
  refine callsIn_of_wp Tryd.func79 rfl trivial ?_ rfl
  simp only [Tryd.ntmps79, List.size_toArray, List.length_cons, List.length_nil, Nat.reduceAdd, Nat.reduceSub, Array.replicate_succ, Array.replicate_zero, List.push_toArray, List.append_toArray, List.nil_append, List.cons_append]
  have hlI : (N : Int) ≤ 1000000000 := by omega
  have hw : IntKind.i64.wrap ((N : Int) - 1) = (N : Int) - 1 := by simp [IntKind.wrap, IntKind.bits, IntKind.signed]; omega
  gi_wp2
  have HYd := hid0 hY
  have H0 := hid0 h0
  have HBn := hid0 hBn
  have HEl := hid0 hel
  clear hY h0 hBn hel hcell
  gi_loopw [3] (fun i wr => ∃ (k : Nat) (pre : List (Fin N)), k ≤ N ∧ i = .int .i64 ((k : Int) - 1) ∧ Hid (pre.map (·.val) = ((List.range N).drop k).reverse) ∧ Hid (J pre wr) ∧ Hid (KX nb W wr)) (fun i _ => (intOf i + 1).toNat)
  case atStart => exact ⟨N, [], Nat.le_refl _, rfl, hid0 (by simp), H0, hid0 (KX.refl _ _)⟩
  case round =>
    clear H0
    obtain ⟨k, pre, hk, rfl, HP, HJ, HK⟩ := hrel
    cases k with
    | zero =>
      have hneg : ¬ (0 : Int) ≤ ((0 : Nat) : Int) - 1 := by omega
      gi_wp2
      go_end0
      exact ⟨⟨_, rfl⟩, .inl ⟨pre, by have h := HP.out; rw [List.drop_zero] at h; exact h, HJ.out⟩⟩
    | succ m =>
      have hm : (((m + 1 : Nat) : Int) - 1) = (m : Int) := by omega
      rw [hm]
      have hcell : wr.cell? ⟨Bn, 0, none⟩ = some (.slice a N cap) := by rw [cell_of_row wr Bn 0 _ _ _ (HK.out.1 _ _ _ _ hne HBn.out)]; rfl
      obtain ⟨g, off, rfl, hgn, h5⟩ := HEl.out m (by omega)
      obtain ⟨e0, e1, e2, e3, e4⟩ := HK.out.five hgn h5
      have hpl : pre.length < N := by have h := congrArg List.length HP.out; simp at h; omega
      obtain ⟨fn, tmps, assign, body, hy, hR⟩ := HYd.out pre ⟨m, by omega⟩ wr HJ.out hpl
      have HR := hid0 hR
      have HP2 : Hid ((pre ++ [(⟨m, by omega⟩ : Fin N)]).map (·.val) = ((List.range N).drop m).reverse) := hid0 (by
        rw [List.map_append, HP.out, List.drop_eq_getElem_cons (by simp; omega : m < (List.range N).length), List.reverse_cons]; simp)
      have m0 : (0 : Int) ≤ (m : Int) := by omega
      have m1 : (m : Int) < (N : Int) := by omega
      simp only at hy HR
      generalize (vs m).k = xk at *
      generalize (vs m).t = xt at *
      generalize (vs m).n = xn at *
      generalize (vs m).p = xp at *
      generalize (vs m).r = xr at *
      clear hR hm hpl HP HJ h5
      gi_wp2
      clear hy
      refine HR.out.mono ?_
      rintro e W3 (⟨rfl, hJ3, hk3⟩ | ⟨rfl, hJx3⟩)
      · have HJ3 := hid0 hJ3
        have HK3 := hid0 (HK.out.trans hk3)
        clear hJ3 hk3
        gi_wp2
        go_roundw
        case rel => exact ⟨m, pre ++ [⟨m, by omega⟩], by omega, by go_num, HP2, HJ3, HK3⟩
        case measure => simp [intOf]
      · gi_wp2
        refine bodyPost_ret (results_none rfl _ _ _) rfl ?_
        exact ⟨⟨_, rfl⟩, .inr ⟨pre ++ [⟨m, by omega⟩], trivial, hJx3⟩⟩
theorem back_stops (n : Nat) (hn : 1 ≤ n) (Bn nb cap N : Nat) (a : Option Addr) (vs : Nat → EV) (hl : N ≤ 1000000000) (w : World) (hBn : w.heap[Bn]? = some (.cells #[.slice a N cap] 26 (0, 0))) (hne : Bn ≠ nb) (hel : ∀ i, i < N → ∃ g off, a = some ⟨g, off, none⟩ ∧ g ≠ nb ∧ Five w g (off + i * 5) (vs i)) :
    SeqStopsK Fence.wide n Tryd.prog 79 #[.pointer (some ⟨Bn, 0, none⟩)] (fun x : Fin N => #[.int .i64 ((x.val : Nat) : Int), .agg #[(vs x.val).k, (vs x.val).t, (vs x.val).n, (vs x.val).p, (vs x.val).r]]) (KX nb) (fun ys => ys.map (·.val) = (List.range N).reverse) (fun _ => True) N w := fun l J Jx W hW _ _ hY h0 =>
  back1_in n hn l Bn nb cap N a vs hl J Jx hY W ((hW.block Bn (Array.getElem?_eq_some_iff.1 hBn).1).trans hBn) hne (fun i hi => by
    obtain ⟨g, off, e, hg, h5⟩ := hel i hi
    exact ⟨g, off, e, hg, (KX.ofBelow (nb := nb) hW).five hg h5⟩) h0
set_option maxRecDepth 100000 in
theorem back_in (n : Nat) (a : Option Addr) (m c : Nat) (w : World) : CallsIn Fence.wide n Tryd.prog 67 #[.slice a m c] w fun e w' => e = .returned (.func (.func 79) #[] #[.pointer (some ⟨w.heap.size, 0, none⟩)]) ∧ w' = w.alloc (.cells #[.slice a m c] 26) := by
  refine callsIn_of_wp Tryd.func67 rfl trivial ?_ rfl
  simp only [Tryd.ntmps67, List.size_toArray, List.length_cons, List.length_nil, Nat.reduceAdd, Nat.reduceSub, Array.replicate_succ, Array.replicate_zero, List.push_toArray, List.append_toArray, List.nil_append, List.cons_append]
  gi_wp2
  go_ret
  exact ⟨rfl, rfl⟩
end Go.Proofs.YtiapefdklojhdaaDoor
namespace Go.Proofs.YtiapefdklojhdaaDoor
open Go.RowKit Go.Shelf
attribute [local go_sem] Oper.semAt_some
theorem Bd.keep {W W' : World} {base R : Nat} {Y : Lay} {F : Nat → Nat → Prop} {G : List Nd} (h : Bd W base R Y F G) (kb : Below base W W') (k : ∀ (b : Nat) c t z, W.heap[b]? = some (.cells c t z) → W'.heap[b]? = some (.cells c t z)) : Bd W' base R Y F G :=
  ⟨h.g.kp ⟨kb, fun b c t z e _ _ _ => k b c t z e⟩ (fun i d hi hd => k _ _ _ _ ((h.g.node i d hi).lastRow hd).2), h.ok⟩
theorem Bd.store {W : World} {base R nb : Nat} {Y : Lay} {F : Nat → Nat → Prop} {G : List Nd} {v : Value} (h : Bd W base R Y F G) (hF : ∀ i b, i < G.length → F i b → b ≠ nb) (hr : row W nb v 90) (hb : base ≤ nb) (x : Value) : Bd (W.setCell ⟨nb, 0, none⟩ x) base R Y F G := by
  have bel : Below base W (W.setCell ⟨nb, 0, none⟩ x) := (Below.refl base W).setCell (p := ⟨nb, 0, none⟩) hb _
  refine ⟨⟨fun i d hi => (h.g.node i d hi).kp (fun b c t z hFb e _ _ _ => (Below.heap_setCell W _ x b (hF i b (List.getElem?_eq_some_iff.1 hi).1 hFb)).trans e) (fun hd => ?_), h.g.inj, fun i nt N P nx hi => (h.g.sets i nt N P nx hi).below bel⟩, h.ok⟩
  have hl := ((h.g.node i d hi).lastRow hd).2
  refine (Below.heap_setCell W _ x _ (fun e => ?_)).trans hl
  simp only at e
  rw [e] at hl
  unfold row at hl hr
  rw [hr] at hl
  cases hl
/-- What the rounds over parts keep. -/
structure SeqI (w : World) (base R : Nat) (Y : Lay) (F : Nat → Nat → Prop) (G : List Nd) (nt : Bool) (N : List ByteArray) (P : List (Int × Int)) (L : List Ex) (nx : Nat) (pre : List (Fin L.length)) (W : World) : Prop where
  is : ∃ Y' G' i, Wayed w base R Y (fun i b => F i b ∧ b ≠ w.heap.size + 2) G (.mk 3 nt N P (pre.reverse.map fun q => L[q.val])) nx W Y' G' i ∧ row W (w.heap.size + 2) (Y'.val i) 90
  r : row W w.heap.size (ptr R) 101
  big : w.heap.size + 4 ≤ W.heap.size
theorem seqI_own (w : World) (base R : Nat) (Y : Lay) (F : Nat → Nat → Prop) (G : List Nd) (nt : Bool) (N : List ByteArray) (P : List (Int × Int)) (L : List Ex) (nx B : Nat) (hB : w.heap.size ≤ B) (hb : base ≤ w.heap.size) : OwnFrom B (SeqI w base R Y F G nt N P L nx) := fun pre W W' row' ⟨⟨Y', G', i, hw, hr⟩, hr2, hz⟩ hg hr' => by
  have key : ∀ (b : Nat) c t z, W.heap[b]? = some (.cells c t z) → W'.heap[b]? = some (.cells c t z) := fun b c t z e => (hg.block b (lt_of_row e) (fun q => by
    obtain ⟨_, o, ho, hc⟩ := hr' b q.symm
    rw [e] at ho
    cases ho
    simp [Obj.isCells] at hc)).trans e
  have hlow : ∀ k, k < B → some k ≠ row' := fun k hk e => by have := (hr' k e.symm).1; omega
  have bel : ∀ {C : Nat}, C ≤ B → C ≤ W.heap.size → Below C W W' := fun {C} hC hCW => ⟨hg.os, hg.tape, hg.output, hg.size, fun k hk => hg.block k (by omega) (hlow k (by omega))⟩
  have hws := hw.bel.size
  refine ⟨⟨Y', G', i, ⟨hw.lt, hw.ext, ?_, hw.built, hw.holes, hw.size, hw.bel.trans (bel hB hws)⟩, key _ _ _ _ hr⟩, key _ _ _ _ hr2, Nat.le_trans hz hg.size⟩
  exact hw.bd.keep (bel (Nat.le_trans hb hB) (Nat.le_trans hb hws)) key
theorem sizes_cons (e : Ex) (L : List Ex) : Ex.size.sizes (e :: L) = e.size + Ex.size.sizes L := by rw [Ex.size.sizes]
/-- A round over a part. -/
theorem seq_step {w : World} {base R : Nat} {Y : Lay} {F : Nat → Nat → Prop} {G : List Nd} {nt : Bool} {N : List ByteArray} {P : List (Int × Int)} {L : List Ex} {nx : Nat} {pre : List (Fin L.length)} {W w3 : World} {Y1 Y2 : Lay} {G1 G2 : List Nd} {i1 i2 B : Nat} {v1 v2 : Value}
    (hW1 : Wayed w base R Y (fun i b => F i b ∧ b ≠ w.heap.size + 2) G (.mk 3 nt N P (pre.reverse.map fun q => L[q.val])) nx W Y1 G1 i1) (x : Fin L.length) (hW2 : Wayed W base R Y1 (fun i b => F i b ∧ b ≠ w.heap.size + 2) G1 L[x.val] i1 w3 Y2 G2 i2)
    (hn2 : row w3 (w.heap.size + 2) v1 90) (hr1 : row W w.heap.size (ptr R) 101) (hv2 : Y2.val i2 = v2) (hb : base ≤ w.heap.size) (hz : w.heap.size + 4 ≤ W.heap.size) :
    KeepsFrom B W (w3.setCell ⟨w.heap.size + 2, 0, none⟩ v2) ∧ KX (w.heap.size + 2) W (w3.setCell ⟨w.heap.size + 2, 0, none⟩ v2) ∧ SeqI w base R Y F G nt N P L nx (pre ++ [x]) (w3.setCell ⟨w.heap.size + 2, 0, none⟩ v2) := by
  have hsz : (w3.setCell ⟨w.heap.size + 2, 0, none⟩ v2).heap.size = w3.heap.size := by simp [World.setCell]
  have hs2 := hW2.bel.size
  have hs1 := hW1.bel.size
  refine ⟨⟨by omega, fun k o _ hk ho => ?_⟩, ⟨fun i c t z hne hi => (Below.heap_setCell w3 _ v2 i hne).trans ((hW2.bel.block i (lt_of_row hi)).trans hi), by omega⟩, ⟨⟨Y2, G2, i2, ⟨hW2.lt, hW1.ext.trans hW2.ext, hW2.bd.store (fun i b _ h => h.2) hn2 (by omega) v2, ?_, fun j hj => ?_, ?_, ?_⟩, by rw [hv2]; exact heap_setCell_same _ _ 0 _ _ _ hn2⟩, (Below.heap_setCell w3 _ v2 _ (by simp)).trans ((hW2.bel.block _ (lt_of_row hr1)).trans hr1), by omega⟩⟩
  · have e3 := (hW2.bel.block k (lt_of_row hk)).trans hk
    refine (Below.heap_setCell w3 _ v2 k (fun e => ?_)).trans e3
    simp only at e
    subst e
    unfold row at hn2
    rw [hn2] at e3
    cases e3
    simp [Obj.isCells] at ho
  · rw [List.reverse_append, List.reverse_singleton, List.singleton_append, List.map_cons]
    exact .seq1 nt N P _ _ nx i2 i1 (hW2.ext.built hW1.built) hW2.built
  · rcases Nat.lt_or_ge j G1.length with h | h
    · rw [hW2.ext.nodes j h]; exact hW1.holes j hj
    · exact hW2.holes j h
  · have a1 := hW1.size
    have a2 := hW2.size
    rw [List.reverse_append, List.reverse_singleton, List.singleton_append, List.map_cons, Ex.size_mk, sizes_cons]
    rw [Ex.size_mk] at a1
    omega
  · exact (hW1.bel.trans (hW2.bel.mono hs1)).setCell (p := ⟨w.heap.size + 2, 0, none⟩) (by simp) v2
set_option maxRecDepth 100000 in
set_option maxHeartbeats 3200000 in
theorem way_seq (nt : Bool) (N : List ByteArray) (P : List (Int × Int)) (L : List Ex) (IH : ∀ e, e ∈ L → WayP e) : WayP (.mk 3 nt N P L) := by
  intro w base R Y F G nx x hF hB hnx hx hb
  obtain ⟨a, ca, b, cb, c, cc, rfl, hsq, hrq, lN, lP, lL, vs, hel, hpt⟩ := hx.shape
  obtain ⟨fn, fx, fy, hfn⟩ := (hB.g.node nx _ (List.getElem?_eq_getElem hnx)).func
  obtain ⟨w0, hw0, hs0, hb0, r0, r1, r2⟩ := box3 w R (Y.val nx) ⟨.int .i64 3, .bool nt, .slice a N.length ca, .slice b P.length cb, .slice c L.length cc⟩
  obtain ⟨wR, hwR⟩ : ∃ wR, wR = w0.alloc (.cells #[.slice c L.length cc] 26) := ⟨_, rfl⟩
  have hbR : Below w0.heap.size w0 wR := by rw [hwR]; exact (Below.refl _ _).alloc (Nat.le_refl _) _
  have hsR : wR.heap.size = w.heap.size + 4 := by rw [hwR]; simp [hs0]
  have hnR : wR.heap[w.heap.size + 3]? = some (.cells #[.slice c L.length cc] 26 (0, 0)) := by rw [hwR, ← hs0]; exact heap_alloc_new w0 _
  have hbw : Below w.heap.size w wR := Below.later hb0 hbR
  have rR0 := (hbR.block _ (lt_of_row r0)).trans r0
  have rR2 := (hbR.block _ (lt_of_row r2)).trans r2
  have HI0 : Hid (SeqI w base R Y F G nt N P L nx [] wR) := hid0 ⟨⟨Y, G, nx, ⟨hnx, Ext.refl _ _, (hB.mono (fun i b _ h1 h2 => ⟨h2, by omega⟩)).later hb hbw, .seq0 nt N P nx, fun j hj => by rw [List.getElem?_eq_none hj]; simp, by omega, hbw⟩, rR2⟩, rR0, by omega⟩
  have helR : ∀ i, i < L.length → ∃ g off, c = some ⟨g, off, none⟩ ∧ g ≠ w.heap.size + 2 ∧ Five wR g (off + i * 5) (vs i) := fun i hi => by
    obtain ⟨g, off, e, hg, h5⟩ := hel i hi
    exact ⟨g, off, e, by omega, h5.keeps (Q := fun g => g < base) hg (Keeps.ofBelow (hbw.mono hb))⟩
  have HW0 := hid0 hw0
  rw [hfn] at hw0 r2 ⊢
  have c0 : w0.cell? ⟨w.heap.size + 1, 0, none⟩ = some (.int .i64 3) := by rw [cell_of_row _ _ _ _ _ _ r1]; rfl
  have c4 : w0.cell? ⟨w.heap.size + 1, 4, none⟩ = some (.slice c L.length cc) := by rw [cell_of_row _ _ _ _ _ _ r1]; rfl
  have hf := hw0.symm
  simp only at hf
  unfold EV.v
  have HB := hid0 hB
  have HF := hid0 hF
  have HPt := hid0 hpt
  have HEl := hid0 helR
  have HNR := hid0 hnR
  have HBR := hid0 hbR
  have HBW := hid0 hbw
  have HSR := hid0 hsR
  have HIH := hid0 IH
  have HWR := hid0 hwR
  have HS0 := hid0 hs0
  clear hw0 hx hB r0 r1 r2 hb0 hbR hbw hsq hrq hel hpt helR hnR hsR rR0 rR2 IH hF hwR hs0
  refine (callsIn_wide (n := 8)).1 ?_
  refine callsIn_of_wp_marks Tryd.func53 rfl trivial ?_ rfl
  simp only [Tryd.ntmps53, List.size_toArray, List.length_cons, List.length_nil, Nat.reduceAdd, Nat.reduceSub, Array.replicate_succ, Array.replicate_zero, List.push_toArray, List.append_toArray, List.nil_append, List.cons_append]
  gi_wp2_with (first
    | (refine ⟨trivial, ?_⟩; gi_at_call 67; refine (back_in _ _ _ _ _).mono ?_; rintro e w' ⟨rfl, rfl⟩)
    | fail)
  have HS3 := HS0.out
  rw [HS3, ← HWR.out]
  clear hf c0 c4 HS3
  have HSh : Hid (∀ x : Fin L.length, ∃ k5 t5 a5 m5 c5 b5 n5 d5 g5 l5 e5, vs x.val = ⟨.int .i64 k5, .bool t5, .slice a5 m5 c5, .slice b5 n5 d5, .slice g5 l5 e5⟩) := hid0 (fun x => by
    have h := HPt.out x.val x.isLt
    cases hL5 : L[x.val] with
    | mk k5 t5 N5 P5 L5 =>
      rw [hL5] at h
      obtain ⟨a5, c5, b5, d5, g5, e5, hv, _⟩ := h.shape
      exact ⟨k5, t5, a5, _, c5, b5, _, d5, g5, _, e5, hv⟩)
  have hOwn := hid0 (seqI_own w base R Y F G nt N P L nx wR.heap.size (by have := HSR.out; omega) hb)
  refine wpIn_rangeFunc_ownH rfl (by omega) (gf := 79) (lb := #[.pointer (some ⟨w.heap.size + 3, 0, none⟩)]) rfl trivial (enters_of Tryd.func79 (by kernel_rfl) rfl)
    (back_stops 7 (by omega) (w.heap.size + 3) (w.heap.size + 2) cc L.length c vs lL wR HNR.out (by omega) HEl.out) KX.trans (fun W l o o' _ ho hc _ => kx_putObj _ W l o o' ho hc) (Below.refl _ _) (fun _ => rfl)
    (SeqI w base R Y F G nt N P L nx) (fun _ _ _ => False) hOwn.out (fun _ _ _ _ _ hs _ _ => hs) HI0.out
    (fun (x : Fin L.length) (a' : Act) (W : World) => ∃ (pb : Nat), W.heap[pb]? = some (.cells #[(vs x.val).k, (vs x.val).t, (vs x.val).n, (vs x.val).p, (vs x.val).r] 28 (0, 0)) ∧ a' = { tmps := #[.pointer (some ⟨R, 0, none⟩), .agg #[.int .i64 3, .bool nt, .slice a N.length ca, .slice b P.length cb, .slice c L.length cc], .func fn fx fy, .pointer (some ⟨w.heap.size, 0, none⟩), .pointer (some ⟨w.heap.size + 1, 0, none⟩), .pointer (some ⟨w.heap.size + 1 + 1, 0, none⟩), .nilFunc, undef, .pointer (some ⟨pb, 0, none⟩), undef, undef, undef, undef, .pointer (some ⟨w.heap.size + 1, 0, none⟩), .int .i64 3, .bool false, .bool false, undef, undef, .bool true, .bool true, .pointer (some ⟨w.heap.size + 1, 4, none⟩), .slice c L.length cc, .func (.func 79) #[] #[.pointer (some ⟨w.heap.size + 3, 0, none⟩)], .int .i64 ((x.val : Nat) : Int), .agg #[(vs x.val).k, (vs x.val).t, (vs x.val).n, (vs x.val).p, (vs x.val).r], undef, undef, undef, undef, undef, undef, undef, undef, undef, undef, undef, undef, undef, undef, undef, undef, undef, undef, undef, undef, undef, undef, undef, undef, undef, undef, undef, undef, undef, undef, undef, undef, undef, undef, undef, undef, undef, undef, undef, undef, undef, undef, undef, undef, undef, undef, undef, undef, undef, undef, undef], defers := [] })
    (fun x a' _ W W' row' ⟨pb, hpb, e⟩ hg hr => ⟨pb, (hg.block pb (lt_of_row hpb) (fun q => by
      obtain ⟨_, o, ho, hc⟩ := hr pb q.symm
      rw [hpb] at ho
      cases ho
      simp [Obj.isCells] at hc)).trans hpb, e⟩) ?assign ?body ?done ?stop
  case assign =>
    rintro l pre x W K hI hK
    have HIp := hid0 hI
    have HKp := hid0 hK
    obtain ⟨k5, t5, a5, m5, c5, b5, n5, d5, g5, l5, e5, hv5⟩ := HSh.out x
    rw [hv5] at HKp ⊢
    simp only at HKp ⊢
    clear hI hK hv5
    gi_wp2
    refine HKp.out _ _ ⟨by simp, fun k o _ hk _ => (Below.heap_alloc _ _ k (lt_of_row hk)).trans hk⟩ (KX.ofBelow ((Below.refl _ _).alloc (Nat.le_refl _) _)) (hOwn.out pre W _ none HIp.out (World.grownBy_alloc W _ none) (fun _ e => by cases e)) ⟨W.heap.size, heap_alloc_new W _, rfl⟩
  case body =>
    rintro l pre x a' W hl' ⟨r', hr'⟩ hI ⟨pb, hpb, rfl⟩ hlt
    have HIp := hid0 hI
    obtain ⟨⟨Y1, G1, i1, hW1, hn1⟩, hr1, hz1⟩ := hI
    obtain ⟨fn1, fx1, fy1, hfn1⟩ := (hW1.bd.g.node i1 _ (List.getElem?_eq_getElem hW1.lt)).func
    have hbW : Below base w W := hW1.bel.mono hb
    have hbase : base ≤ W.heap.size := Nat.le_trans hb hW1.bel.size
    have HC := hid0 (HIH.out _ (List.getElem_mem x.isLt) W base R Y1 (fun i b => F i b ∧ b ≠ w.heap.size + 2) G1 i1 (vs x.val) (fun i b h1 h2 => ⟨HF.out i b (Nat.le_trans hW1.ext.len h1) (Nat.le_trans hW1.bel.size h2), by omega⟩) hW1.bd hW1.lt ((HPt.out x.val x.isLt).keeps (Keeps.ofBelow hbW)) hbase)
    unfold EV.v at HC
    rw [hfn1] at HC hn1
    obtain ⟨k5, t5, a5, m5, c5, b5, n5, d5, g5, l5, e5, hv5⟩ := HSh.out x
    rw [hv5] at HC hpb ⊢
    simp only at HC hpb ⊢
    have y0 := row_cell hr1
    unfold ptr at y0
    have y1 := row_cell hn1
    have z0 : W.cell? ⟨pb, 0, none⟩ = some (.int .i64 k5) := by rw [cell_of_row _ _ _ _ _ _ hpb]; rfl
    have z1 : W.cell? ⟨pb, 1, none⟩ = some (.bool t5) := by rw [cell_of_row _ _ _ _ _ _ hpb]; rfl
    have z2 : W.cell? ⟨pb, 2, none⟩ = some (.slice a5 m5 c5) := by rw [cell_of_row _ _ _ _ _ _ hpb]; rfl
    have z3 : W.cell? ⟨pb, 3, none⟩ = some (.slice b5 n5 d5) := by rw [cell_of_row _ _ _ _ _ _ hpb]; rfl
    have z4 : W.cell? ⟨pb, 4, none⟩ = some (.slice g5 l5 e5) := by rw [cell_of_row _ _ _ _ _ _ hpb]; rfl
    have HW1 := hid0 hW1
    have HN1 := hid0 hn1
    have HR1 := hid0 hr1
    have hf1 : Fence.wide.fn 53 := trivial
    clear hW1 hn1 hr1 hpb hv5 hbW hr'
    gi_wp2_with (first
      | (gi_at_call 53; refine (CallsIn.inRound l (callsIn_wide.2 HC.out)).mono ?_; rintro e w3 ⟨Y2, G2, i2, he2, hW2⟩
         obtain ⟨fn2, fx2, fy2, hfn2⟩ := (hW2.bd.g.node i2 _ (List.getElem?_eq_getElem hW2.lt)).func
         rw [hfn2] at he2
         subst he2
         have hn2 : row w3 (w.heap.size + 2) (.func fn1 fx1 fy1) 90 := (hW2.bel.block _ (lt_of_row HN1.out)).trans HN1.out
         have q1 := row_cell hn2
         have q2 : w3.frozen? ⟨w.heap.size + 2, 0, none⟩ = false := frozen_of_row _ _ _ _ _ hn2
         have HN2 := hid0 hn2
         have HW2 := hid0 hW2
         clear hW2 hn2)
      | fail)
    exact seq_step HW1.out x HW2.out HN2.out HR1.out hfn2 hb hz1
  case done =>
    rintro D ys W hD hS hI hK
    obtain ⟨⟨Y1, G1, i1, hW1, hn1⟩, hr1, hz1⟩ := hI
    have hys : ys.reverse.map (fun q => L[q.val]) = L := by
      have h : ys.reverse.map (·.val) = List.range L.length := by rw [List.map_reverse, hS, List.reverse_reverse]
      have h2 : (ys.reverse.map (·.val)).map (fun k => (L[k]?).getD (.mk 0 false [] [] [])) = ys.reverse.map (fun q => L[q.val]) := by
        rw [List.map_map]
        exact List.map_congr_left (fun q _ => by simp)
      rw [← h2, h]
      apply List.ext_getElem
      · simp
      · intro i h1 h3
        simp [h3]
    rw [hys] at hW1
    have key : ∀ (b : Nat) c t z, W.heap[b]? = some (.cells c t z) → (W.putObj D (.deferred none)).heap[b]? = some (.cells c t z) := fun b c t z e => by
      rw [World.putObj_heap_other (fun q => by
        subst q
        rw [hK] at e
        cases e)]
      exact e
    have hDw : w.heap.size ≤ D := by have := HSR.out; omega
    have HE : Hid (Wayed w base R Y F G (.mk 3 nt N P L) nx (W.putObj D (.deferred none)) Y1 G1 i1) := hid0 ⟨hW1.lt, hW1.ext, (hW1.bd.mono (fun i b _ _ h => h.1)).keep ⟨rfl, rfl, rfl, by simp, fun k hk => World.putObj_heap_other (by omega)⟩ key, hW1.built, hW1.holes, hW1.size, ⟨hW1.bel.os, hW1.bel.tape, hW1.bel.output, by simp; exact hW1.bel.size, fun k hk => (World.putObj_heap_other (by omega)).trans (hW1.bel.block k hk)⟩⟩
    obtain ⟨fn1, fx1, fy1, hfn1⟩ := (hW1.bd.g.node i1 _ (List.getElem?_eq_getElem hW1.lt)).func
    rw [hfn1] at hn1
    have y1 := row_cell hn1
    have HKD := hid0 hK
    have HFN := hid0 hfn1
    clear hW1 hn1 hr1 hK hS key hys hfn1
    gi_wp2
    refine ⟨by simp, .inl ⟨_, _, rfl, run_takeDeferred HKD.out, ?_⟩⟩
    refine ⟨.func fn1 fx1 fy1, by simp [results, Tryd.results53, go_sem], Y1, G1, i1, by rw [HFN.out], HE.out⟩
  case stop =>
    rintro D c pre W _ _ h _
    exact h.elim
end Go.Proofs.YtiapefdklojhdaaDoor
namespace Go.Proofs.YtiapefdklojhdaaDoor
open Go.RowKit Go.Shelf
/-- A fork over a list of ways. -/
theorem Bd.fork {w w' : World} {base R : Nat} {Y : Lay} {F : Nat → Nat → Prop} {G : List Nd} (h : Bd w base R Y F G) (hb : base ≤ w.heap.size) (v : Value) (ys : List Nat) (hl : ys.length ≤ 1000000) (hy : ∀ y, y ∈ ys → y < G.length)
    (hW : WA w (F G.length) v (ys.map Y.val)) (hF : ∀ b, w.heap.size ≤ b → F G.length b) (hw : w' = ((w.alloc (.cells #[v] 109)).alloc (.cells #[forkF w.heap.size] 90)).alloc (.cells #[.int .i64 (-1)] 3)) :
    ∃ Y', Y'.val G.length = onceV (w.heap.size + 2) (w.heap.size + 1) ∧ Bd w' base R Y' F (G ++ [.fork ys]) ∧ Ext Y G Y' (G ++ [.fork ys]) ∧ Below w.heap.size w w' := by
  obtain ⟨wa, hwa⟩ : ∃ wa, wa = w.alloc (.cells #[v] 109) := ⟨_, rfl⟩
  obtain ⟨wb, hwb⟩ : ∃ wb, wb = wa.alloc (.cells #[forkF w.heap.size] 90) := ⟨_, rfl⟩
  have sa : wa.heap.size = w.heap.size + 1 := by rw [hwa]; simp
  have sb : wb.heap.size = w.heap.size + 2 := by rw [hwb]; simp [sa]
  have hw2 : w' = wb.alloc (.cells #[.int .i64 (-1)] 3) := by rw [hw, hwb, hwa]
  have bel : Below w.heap.size w w' := by rw [hw]; exact (((Below.refl _ _).alloc (Nat.le_refl _) _).alloc (by simp) _).alloc (by simp; omega) _
  have r0 : row w' w.heap.size v 109 := by
    unfold row
    rw [hw2, Below.heap_alloc wb _ _ (by omega), hwb, Below.heap_alloc wa _ _ (by omega), hwa]; exact heap_alloc_new w _
  have r1 : row w' (w.heap.size + 1) (forkF w.heap.size) 90 := by
    unfold row
    rw [hw2, Below.heap_alloc wb _ _ (by omega), hwb, ← sa]; exact heap_alloc_new wa _
  have r2 : row w' (w.heap.size + 2) (.int .i64 (-1)) 3 := by
    unfold row
    rw [hw2, ← sb]; exact heap_alloc_new wb _
  have hput : ∀ j, j < G.length → (Y.put G.length (onceV (w.heap.size + 2) (w.heap.size + 1)) (w.heap.size + 2) .nilFunc .nilFunc).val j = Y.val j := fun j hj => by
    have : ¬ j = G.length := by omega
    simp [Lay.put, this]
  have hmap : ys.map (Y.put G.length (onceV (w.heap.size + 2) (w.heap.size + 1)) (w.heap.size + 2) .nilFunc .nilFunc).val = ys.map Y.val := List.map_congr_left (fun y hy' => hput y (hy y hy'))
  have hnew := h.add hb bel (.fork ys) (onceV (w.heap.size + 2) (w.heap.size + 1)) (w.heap.size + 2) .nilFunc .nilFunc
    (.fork ys (w.heap.size + 1) w.heap.size v (by simp [Lay.put]) (by simp [Lay.put]; omega) (by simp [Lay.put]; exact r2) r1 r0 (by rw [hmap]; exact hW.kp (fun b c z _ e => (bel.block b (lt_of_row e)).trans e)) ⟨hF _ (by omega), hF _ (Nat.le_refl _)⟩)
    (fun _ => by omega) ⟨hl, fun y hy' => by have := hy y hy'; omega⟩ (fun nt N P nx e => by cases e)
  exact ⟨_, by simp [Lay.put], hnew.1, hnew.2, bel⟩
theorem hole_snoc {G : List Nd} {n : Nat} (h : ∀ (j : Nat), n ≤ j → G[j]? ≠ some .hole) (d : Nd) (hd : d ≠ .hole) : ∀ (j : Nat), n ≤ j → (G ++ [d])[j]? ≠ some .hole := fun j hj => by
  rcases Nat.lt_trichotomy j G.length with hlt | heq | hgt
  · rw [List.getElem?_append_left hlt]; exact h j hj
  · subst heq
    rw [List.getElem?_append_right (Nat.le_refl _), Nat.sub_self]
    simpa using hd
  · rw [List.getElem?_eq_none (by simp; omega)]; simp
/-- Two ways in a list of their own. -/
theorem wa_two {w : World} {F : Nat → Prop} {v0 v1 : Value} (hF : F w.heap.size) : WA (w.alloc (.cells #[v0, v1] 90)) F (.slice (some ⟨w.heap.size, 0, none⟩) 2 2) [v0, v1] :=
  ⟨some ⟨w.heap.size, 0, none⟩, 2, rfl, fun k hk => ⟨w.heap.size, 0, #[v0, v1], rfl, hF, heap_alloc_new w _, by
    have h2 : k < 2 := hk
    rcases (show k = 0 ∨ k = 1 by omega) with rfl | rfl <;> rfl⟩⟩
theorem opt_done {w w1 w2 w3 : World} {base R : Nat} {Y Y1 : Lay} {F : Nat → Nat → Prop} {G G1 : List Nd} {e : Ex} {nx i1 : Nat} {nt : Bool} {N : List ByteArray} {P : List (Int × Int)} {fv : Value} (hF : ∀ i b, G.length ≤ i → w.heap.size ≤ b → F i b) (hnx : nx < G.length) (hb : base ≤ w.heap.size)
    (hW : Wayed w base R Y F G e nx w1 Y1 G1 i1) (h2 : w2 = w1.alloc (.cells #[Y.val nx, Y1.val i1] 90))
    (h3 : w3 = ((w2.alloc (.cells #[.slice (some ⟨w1.heap.size, 0, none⟩) 2 2] 109)).alloc (.cells #[forkF w2.heap.size] 90)).alloc (.cells #[.int .i64 (-1)] 3)) (hf : fv = onceV (w2.heap.size + 2) (w2.heap.size + 1)) :
    ∃ Y' G' i, Ending.returned fv = .returned (Y'.val i) ∧ Wayed w base R Y F G (.mk 7 nt N P [e]) nx w3 Y' G' i := by
  have s1 := hW.bel.size
  have b2 : Below w1.heap.size w1 w2 := by rw [h2]; exact (Below.refl _ _).alloc (Nat.le_refl _) _
  have s2 := b2.size
  have hl := hW.ext.len
  have hv : Y.val nx = Y1.val nx := (hW.ext.val nx hnx).symm
  obtain ⟨Y', hv', hB', hE', bel⟩ := (hW.bd.later (Nat.le_trans hb s1) b2).fork (by omega) (.slice (some ⟨w1.heap.size, 0, none⟩) 2 2) [nx, i1] (by simp) (fun y hy => by
      rcases List.mem_cons.1 hy with rfl | hy
      · omega
      · rw [List.mem_singleton.1 hy]; exact hW.lt)
    (by rw [h2, hv]; exact wa_two (hF _ _ hl (by omega))) (fun b hb' => hF _ _ hl (by omega)) h3
  refine ⟨Y', G1 ++ [.fork [nx, i1]], G1.length, by rw [hv', hf], ⟨by simp, hW.ext.trans hE', hB', .opt nt N P e nx G1.length i1 (by simp) (hE'.built hW.built), hole_snoc hW.holes _ (by simp), ?_, Below.later (Below.later hW.bel b2) bel⟩⟩
  have := hW.size
  rw [List.length_append, List.length_singleton, Ex.size_mk, sizes_cons, Ex.size.sizes]
  omega
theorem Wayed.after {w w0 w' : World} {base R : Nat} {Y Y' : Lay} {F : Nat → Nat → Prop} {G G' : List Nd} {e : Ex} {nx i : Nat} (h : Wayed w0 base R Y F G e nx w' Y' G' i) (hb : Below w.heap.size w w0) : Wayed w base R Y F G e nx w' Y' G' i :=
  ⟨h.lt, h.ext, h.bd, h.built, h.holes, h.size, Below.later hb h.bel⟩
set_option maxRecDepth 10000 in
set_option maxHeartbeats 1600000 in
theorem way_opt (nt : Bool) (N : List ByteArray) (P : List (Int × Int)) (e : Ex) (IH : WayP e) : WayP (.mk 7 nt N P [e]) := by
  intro w base R Y F G nx x hF hB hnx hx hb
  obtain ⟨a, ca, b, cb, c, cc, rfl, hsq, hrq, lN, lP, lL, vs, hel, hpt⟩ := hx.shape
  obtain ⟨fn, fx, fy, hfn⟩ := (hB.g.node nx _ (List.getElem?_eq_getElem hnx)).func
  obtain ⟨w0, hw0, hs0, hb0, r0, r1, r2⟩ := box3 w R (Y.val nx) ⟨.int .i64 7, .bool nt, .slice a N.length ca, .slice b P.length cb, .slice c 1 cc⟩
  obtain ⟨g, off, rfl, hg, h5⟩ := hel 0 (by simp)
  rw [Nat.zero_mul, Nat.add_zero] at h5
  have hp := hpt 0 (by simp)
  rw [List.getElem_cons_zero] at hp
  obtain ⟨k5, t5, a5, m5, c5, b5, n5, d5, g5, l5, e5, hv5⟩ : ∃ k5 t5 a5 m5 c5 b5 n5 d5 g5 l5 e5, vs 0 = ⟨.int .i64 k5, .bool t5, .slice a5 m5 c5, .slice b5 n5 d5, .slice g5 l5 e5⟩ := by
    cases e with
    | mk k5 t5 N5 P5 L5 =>
      obtain ⟨a5, c5, b5, d5, g5, e5, hv, _⟩ := hp.shape
      exact ⟨k5, t5, a5, _, c5, b5, _, d5, g5, _, e5, hv⟩
  have HC : Hid (∀ W, Below w0.heap.size w0 W → Calls Tryd.prog 53 #[.pointer (some ⟨R, 0, none⟩), .agg #[.int .i64 k5, .bool t5, .slice a5 m5 c5, .slice b5 n5 d5, .slice g5 l5 e5], .func fn fx fy] W fun e' w' => ∃ Y' G' i, e' = .returned (Y'.val i) ∧ Wayed W base R Y F G e nx w' Y' G' i) := hid0 (fun W hW => by
    have hbW := Below.later hb0 hW
    have h := IH W base R Y F G nx (vs 0) (fun i b h1 h2 => hF i b h1 (by have := hbW.size; omega)) (hB.later hb hbW) hnx (hp.keeps (Keeps.ofBelow (hbW.mono hb))) (Nat.le_trans hb hbW.size)
    rw [hfn, hv5] at h
    exact h)
  rw [hv5] at h5
  have HSo : Hid (∀ W, Below w0.heap.size w0 W → W.cell? ⟨w.heap.size, 0, none⟩ = some (.pointer (some ⟨R, 0, none⟩)) ∧ W.cell? ⟨w.heap.size + 1, 4, none⟩ = some (.slice (some ⟨g, off, none⟩) 1 cc) ∧ W.cell? ⟨w.heap.size + 2, 0, none⟩ = some (.func fn fx fy) ∧ W.cell? ⟨g, off, none⟩ = some (.int .i64 k5) ∧ W.cell? ⟨g, off + 1, none⟩ = some (.bool t5) ∧ W.cell? ⟨g, off + 2, none⟩ = some (.slice a5 m5 c5) ∧ W.cell? ⟨g, off + 3, none⟩ = some (.slice b5 n5 d5) ∧ W.cell? ⟨g, off + 4, none⟩ = some (.slice g5 l5 e5)) := hid0 (fun W hW => by
    have q0 := row_cell ((hW.block _ (lt_of_row r0)).trans r0)
    have q1 : W.cell? ⟨w.heap.size + 1, 4, none⟩ = some (.slice (some ⟨g, off, none⟩) 1 cc) := by rw [cell_of_row _ _ _ _ _ _ ((hW.block _ (lt_of_row r1)).trans r1)]; rfl
    have q2 := row_cell ((hW.block _ (lt_of_row r2)).trans r2)
    rw [hfn] at q2
    obtain ⟨f0, f1, f2, f3, f4⟩ := h5.keeps (Q := fun g => g < base) hg (Keeps.ofBelow ((Below.later hb0 hW).mono hb))
    exact ⟨q0, q1, q2, f0, f1, f2, f3, f4⟩)
  have hY : Y.val nx = .func fn fx fy := hfn
  rw [hfn] at hw0 r2 ⊢
  have c0 : w0.cell? ⟨w.heap.size + 1, 0, none⟩ = some (.int .i64 7) := by rw [cell_of_row _ _ _ _ _ _ r1]; rfl
  have hf := hw0.symm
  simp only at hf
  unfold EV.v
  have HFF := hid0 hF
  have HB0 := hid0 hb0
  have HYn := hid0 hY
  have hs00 := HSo.out _ (Below.refl _ w0).drew
  clear hw0 hx hB r0 r1 r2 hb0 hsq hrq hF hel hpt h5 hp hv5 hfn hY
  go_enter Tryd.func53, Tryd.ntmps53
  go_wp2
  clear hf
  go_region_held3 (fun W => W.cell? ⟨w.heap.size, 0, none⟩ = some (.pointer (some ⟨R, 0, none⟩)) ∧ W.cell? ⟨w.heap.size + 1, 4, none⟩ = some (.slice (some ⟨g, off, none⟩) 1 cc) ∧ W.cell? ⟨w.heap.size + 2, 0, none⟩ = some (.func fn fx fy) ∧ W.cell? ⟨g, off, none⟩ = some (.int .i64 k5) ∧ W.cell? ⟨g, off + 1, none⟩ = some (.bool t5) ∧ W.cell? ⟨g, off + 2, none⟩ = some (.slice a5 m5 c5) ∧ W.cell? ⟨g, off + 3, none⟩ = some (.slice b5 n5 d5) ∧ W.cell? ⟨g, off + 4, none⟩ = some (.slice g5 l5 e5))
    (first | assumption | exact HSo.out _ HB2.out | exact HSo.out _ HB3.out)
    (first
      | (go_at_call 53; refine (HC.out _ (Below.refl _ w0).drew).mono ?_; rintro e' w1 ⟨Y1, G1, i1, he1, hW1⟩
         obtain ⟨fn1, fx1, fy1, hfn1⟩ := (hW1.bd.g.node i1 _ (List.getElem?_eq_getElem hW1.lt)).func
         rw [hfn1] at he1
         subst he1
         have hb1 : Below w0.heap.size w0 w1 := Below.later (Below.refl _ w0).drew hW1.bel
         have HW1 := hid0 (hW1.after (Below.later HB0.out (Below.refl _ w0).drew))
         have HFn1 := hid0 hfn1
         have hs1 := HSo.out _ hb1
         have HB2 : Hid (Below w0.heap.size w0 (w1.alloc (.cells #[.func fn fx fy, .func fn1 fx1 fy1] 90))) := hid0 (hb1.alloc hb1.size _)
         clear hW1 hfn1 hb1)
      | (go_at_call 68; refine (fork_new _ _ _ _).mono ?_; rintro e' w3 ⟨rfl, hw3⟩
         have HB3 : Hid (Below w0.heap.size w0 w3) := hid0 (by rw [hw3]; exact ((HB2.out.alloc HB2.out.size _).alloc (by have := HB2.out.size; simp at this ⊢; omega) _).alloc (by have := HB2.out.size; simp at this ⊢; omega) _)
         have HW3 := hid0 hw3
         clear hw3))
  go_wp2
  go_ret
  exact opt_done HFF.out hnx hb HW1.out (by rw [HYn.out, HFn1.out]) HW3.out (by simp)
end Go.Proofs.YtiapefdklojhdaaDoor
namespace Go.Proofs.YtiapefdklojhdaaDoor
open Go.RowKit Go.Shelf
theorem set_at {G : List Nd} {t : Nat} {d e : Nd} {i : Nat} (h : (G.set t d)[i]? = some e) : (i = t ∧ e = d) ∨ (i ≠ t ∧ G[i]? = some e) := by
  rw [List.getElem?_set] at h
  split at h
  · rename_i ht
    split at h
    · cases h; exact .inl ⟨ht.symm, rfl⟩
    · cases h
  · rename_i ht
    exact .inr ⟨fun e => ht e.symm, h⟩
/-- A hole is filled. -/
theorem Bd.fill {W W' : World} {base R : Nat} {Y : Lay} {F : Nat → Nat → Prop} {G : List Nd} {t f hb : Nat} {ys : List Nat} {v0 : Value} (h : Bd W base R Y F G) (ht : G[t]? = some .hole) (hf : G[f]? = some (.fork ys)) (hv : Y.val t = trampV hb) (hbase : base ≤ hb) (hFt : F t hb)
    (hF : ∀ i b, i < G.length → i ≠ t → F i b → b ≠ hb) (bel : Below base W W') (k : ∀ (b : Nat) c t z, b ≠ hb → W.heap[b]? = some (.cells c t z) → W'.heap[b]? = some (.cells c t z)) (h0 : row W hb v0 90) (hrow : row W' hb (Y.val f) 90) : Bd W' base R Y F (G.set t (.tramp f)) := by
  have hft : f ≠ t := fun e => by rw [e, ht] at hf; cases hf
  refine ⟨⟨fun i d hi => ?_, fun i j d e hi hj hd he hq => ?_, fun i nt N P nx hi => ?_⟩, fun i d hi => ?_⟩
  · rcases set_at hi with ⟨rfl, rfl⟩ | ⟨hne, hi⟩
    · exact .tramp f hb hv hbase hrow hFt
    · refine (h.g.node i d hi).kp (fun b c t' z hFb e _ _ _ => k b c t' z (hF i b (List.getElem?_eq_some_iff.1 hi).1 hne hFb) e) (fun hd => ?_)
      have hl := ((h.g.node i d hi).lastRow hd).2
      refine k _ _ _ _ (fun e => ?_) hl
      unfold row at hl h0
      rw [e, h0] at hl
      cases hl
  · rcases set_at hi with ⟨rfl, rfl⟩ | ⟨_, hi⟩
    · cases hd
    · rcases set_at hj with ⟨rfl, rfl⟩ | ⟨_, hj⟩
      · cases he
      · exact h.g.inj i j d e hi hj hd he hq
  · rcases set_at hi with ⟨_, e⟩ | ⟨_, hi⟩
    · cases e
    · exact (h.g.sets i nt N P nx hi).below bel
  · have hlen : (G.set t (.tramp f)).length = G.length := List.length_set
    have hkeep : ∀ (y : Nat) (ys : List Nat), G[y]? = some (.fork ys) → (G.set t (.tramp f))[y]? = some (.fork ys) := fun y ys' hy => by
      rw [List.getElem?_set_ne (fun e => by rw [← e, ht] at hy; cases hy)]; exact hy
    rcases set_at hi with ⟨rfl, rfl⟩ | ⟨_, hi⟩
    · exact ⟨ys, hkeep f ys hf⟩
    · exact (h.ok i d hi).more (by rw [hlen]; exact Nat.le_refl _) hkeep
/-- What a way round comes to. -/
structure Rounded (w : World) (base R : Nat) (Y : Lay) (F : Nat → Nat → Prop) (G : List Nd) (e : Ex) (nx : Nat) (w' : World) (Y' : Lay) (G' : List Nd) (t f b : Nat) : Prop where
  tr : G'[t]? = some (.tramp f)
  fk : G'[f]? = some (.fork [nx, b])
  built : Built G' e t b
  ltb : b < G'.length
  ext : Ext Y G Y' G'
  bd : Bd w' base R Y' F G'
  holes : ∀ (j : Nat), G.length ≤ j → G'[j]? ≠ some .hole
  size : G'.length ≤ G.length + 2 * (1 + e.size)
  bel : Below w.heap.size w w'
/-- The hole that a way round begins with. -/
theorem Bd.hole {w w0 : World} {base R : Nat} {Y : Lay} {F : Nat → Nat → Prop} {G : List Nd} (h : Bd w base R Y F G) (hb : base ≤ w.heap.size) (k : Below w.heap.size w w0) (hbk : Nat) (hge : w.heap.size ≤ hbk) (hr : row w0 hbk .nilFunc 90) (hF : F G.length hbk) :
    ∃ Y', Y'.val G.length = trampV hbk ∧ Bd w0 base R Y' (fun i b => F i b ∧ (b = hbk → i = G.length)) (G ++ [.hole]) ∧ Ext Y G Y' (G ++ [.hole]) := by
  have h1 := (h.mono (F' := fun i b => F i b ∧ (b = hbk → i = G.length)) (fun i b _ hb' hf => ⟨hf, fun e => by omega⟩)).add hb k .hole (trampV hbk) 0 .nilFunc .nilFunc
    (.hole hbk (by simp [Lay.put]) (by omega) hr ⟨hF, fun _ => rfl⟩) (fun e => by cases e) trivial (fun nt N P nx e => by cases e)
  exact ⟨_, by simp [Lay.put], h1.1, h1.2⟩
theorem round_done {w w0 w1 w2 w3 w4 : World} {base R : Nat} {Y Y0 Y1 : Lay} {F : Nat → Nat → Prop} {G G1 : List Nd} {e : Ex} {nx i1 hbk : Nat} (hF : ∀ i b, G.length ≤ i → w.heap.size ≤ b → F i b) (hnx : nx < G.length) (hb : base ≤ w.heap.size)
    (k0 : Below w.heap.size w w0) (hge : w.heap.size ≤ hbk) (hlt : hbk < w0.heap.size) (hr : row w0 hbk .nilFunc 90) (hv0 : Y0.val G.length = trampV hbk) (hE0 : Ext Y G Y0 (G ++ [.hole]))
    (hW : Wayed w0 base R Y0 (fun i b => F i b ∧ (b = hbk → i = G.length)) (G ++ [.hole]) e G.length w1 Y1 G1 i1) (h2 : w2 = w1.alloc (.cells #[Y.val nx, Y1.val i1] 90))
    (h3 : w3 = ((w2.alloc (.cells #[.slice (some ⟨w1.heap.size, 0, none⟩) 2 2] 109)).alloc (.cells #[forkF w2.heap.size] 90)).alloc (.cells #[.int .i64 (-1)] 3))
    (k4 : ∀ (b : Nat), b ≠ hbk → w4.heap[b]? = w3.heap[b]?) (b4 : Below w.heap.size w3 w4) (r4 : row w4 hbk (onceV (w2.heap.size + 2) (w2.heap.size + 1)) 90) :
    ∃ Y' G' t f b, Y'.val b = Y1.val i1 ∧ Y'.val f = onceV (w2.heap.size + 2) (w2.heap.size + 1) ∧ Rounded w base R Y F G e nx w4 Y' G' t f b := by
  have s0 := k0.size
  have s1 := hW.bel.size
  have b2 : Below w1.heap.size w1 w2 := by rw [h2]; exact (Below.refl _ _).alloc (Nat.le_refl _) _
  have s2 := b2.size
  have hl0 : (G ++ [Nd.hole]).length = G.length + 1 := by simp
  have hl := hW.ext.len
  rw [hl0] at hl
  have hv : Y.val nx = Y1.val nx := ((hW.ext.val nx (by omega)).trans (hE0.val nx hnx)).symm
  obtain ⟨Y', hv', hB', hE', bel⟩ := (hW.bd.later (Nat.le_trans hb (by omega)) b2).fork (by omega) (.slice (some ⟨w1.heap.size, 0, none⟩) 2 2) [nx, i1] (by simp) (fun y hy => by
      rcases List.mem_cons.1 hy with rfl | hy
      · omega
      · rw [List.mem_singleton.1 hy]; exact hW.lt)
    (by rw [h2, hv]; exact wa_two ⟨hF _ _ (by omega) (by omega), fun e => by omega⟩) (fun b hb' => ⟨hF _ _ (by omega) (by omega), fun e => by omega⟩) h3
  have b3 : Below w0.heap.size w0 w3 := Below.later (Below.later hW.bel b2) bel
  have ht : (G1 ++ [Nd.fork [nx, i1]])[G.length]? = some .hole := by
    rw [List.getElem?_append_left (by omega), hW.ext.nodes G.length (by omega)]; simp
  have hf : (G1 ++ [Nd.fork [nx, i1]])[G1.length]? = some (.fork [nx, i1]) := by simp
  have hvt : Y'.val G.length = trampV hbk := (hE'.val _ (by omega)).trans ((hW.ext.val _ (by omega)).trans hv0)
  have h0 : row w3 hbk .nilFunc 90 := (b3.block _ hlt).trans hr
  have hfill := hB'.fill ht hf hvt (by omega) ⟨hF _ _ (Nat.le_refl _) hge, fun _ => rfl⟩ (fun i b _ hne hFb e => hne (hFb.2 e)) (b4.mono hb) (fun b c t z hne e => (k4 b hne).trans e) h0 (by rw [hv']; exact r4)
  refine ⟨Y', (G1 ++ [Nd.fork [nx, i1]]).set G.length (.tramp G1.length), G.length, G1.length, i1, hE'.val i1 hW.lt, hv', ⟨?_, ?_, ?_, ?_, ⟨?_, fun i hi => ?_, fun i hi => ?_⟩, hfill.mono (fun i b _ _ h => h.1), fun j hj => ?_, ?_, ?_⟩⟩
  · rw [List.getElem?_set_self (by simp; omega)]
  · rw [List.getElem?_set_ne (by omega)]; exact hf
  · refine Built.more (fun i d hi hd => ?_) (hE'.built hW.built)
    rw [List.getElem?_set_ne (fun e => by rw [← e, ht] at hi; cases hi; exact hd rfl)]; exact hi
  · simp; have := hW.lt; omega
  · simp; omega
  · rw [List.getElem?_set_ne (by omega), List.getElem?_append_left (by omega), hW.ext.nodes i (by omega), List.getElem?_append_left hi]
  · exact (hE'.val i (by omega)).trans ((hW.ext.val i (by omega)).trans (hE0.val i hi))
  · rcases Nat.lt_or_ge G.length j with hlt' | hge'
    · rw [List.getElem?_set_ne (by omega)]
      exact hole_snoc hW.holes _ (by simp) j (by omega)
    · have : j = G.length := by omega
      subst this
      rw [List.getElem?_set_self (by simp; omega)]; simp
  · have := hW.size
    rw [List.length_set, List.length_append, List.length_singleton]
    omega
  · exact (Below.later k0 b3).trans b4
set_option maxRecDepth 10000 in
set_option maxHeartbeats 1600000 in
theorem round_any (e : Ex) (IH : WayP e) (w : World) (base R : Nat) (Y : Lay) (F : Nat → Nat → Prop) (G : List Nd) (nx : Nat) (x : EV) (hF : ∀ i b, G.length ≤ i → w.heap.size ≤ b → F i b) (hB : Bd w base R Y F G) (hnx : nx < G.length) (hx : ExIs w (fun g => g < base) e x) (hb : base ≤ w.heap.size) :
    Calls Tryd.prog 71 #[.pointer (some ⟨R, 0, none⟩), x.v, Y.val nx] w fun e' w' => ∃ Y' G' t f b, e' = .returned (.tuple #[Y'.val b, Y'.val f]) ∧ Rounded w base R Y F G e nx w' Y' G' t f b := by
  obtain ⟨fn, fx, fy, hfn⟩ := (hB.g.node nx _ (List.getElem?_eq_getElem hnx)).func
  obtain ⟨k5, t5, a5, m5, c5, b5, n5, d5, g5, l5, e5, hv5⟩ : ∃ k5 t5 a5 m5 c5 b5 n5 d5 g5 l5 e5, x = ⟨.int .i64 k5, .bool t5, .slice a5 m5 c5, .slice b5 n5 d5, .slice g5 l5 e5⟩ := by
    cases e with
    | mk k5 t5 N5 P5 L5 =>
      obtain ⟨a5, c5, b5, d5, g5, e5, hv, _⟩ := hx.shape
      exact ⟨k5, t5, a5, _, c5, b5, _, d5, g5, _, e5, hv⟩
  subst hv5
  obtain ⟨w0, hw0⟩ : ∃ w0, w0 = (w.alloc (.cells #[.int .i64 k5, .bool t5, .slice a5 m5 c5, .slice b5 n5 d5, .slice g5 l5 e5] 28)).alloc (.cells #[.nilFunc] 90) := ⟨_, rfl⟩
  have hs0 : w0.heap.size = w.heap.size + 2 := by rw [hw0]; simp
  have hb0 : Below w.heap.size w w0 := by rw [hw0]; exact ((Below.refl _ _).alloc (Nat.le_refl _) _).alloc (by simp) _
  have r0 : w0.heap[w.heap.size]? = some (.cells #[.int .i64 k5, .bool t5, .slice a5 m5 c5, .slice b5 n5 d5, .slice g5 l5 e5] 28 (0, 0)) := by
    rw [hw0, Below.heap_alloc _ _ _ (by simp)]; exact heap_alloc_new w _
  have r1 : row w0 (w.heap.size + 1) .nilFunc 90 := by
    unfold row
    have h := heap_alloc_new (w.alloc (.cells #[.int .i64 k5, .bool t5, .slice a5 m5 c5, .slice b5 n5 d5, .slice g5 l5 e5] 28)) (.cells #[.nilFunc] 90)
    rw [World.size_alloc] at h
    rw [hw0]; exact h
  obtain ⟨Y0, hv0, hB0, hE0⟩ := hB.hole hb hb0 (w.heap.size + 1) (by omega) r1 (hF _ _ (Nat.le_refl _) (by omega))
  have hmf : ∀ (fn : Fn) (first cap : Array Value) (w : World), (Instr.makeFunc fn first cap).run Tryd.prog w = .ok (.func fn first cap) w := fun _ _ _ _ => rfl
  have HC := hid0 (IH w0 base R Y0 _ (G ++ [.hole]) G.length ⟨.int .i64 k5, .bool t5, .slice a5 m5 c5, .slice b5 n5 d5, .slice g5 l5 e5⟩ (fun i b h1 h2 => ⟨hF i b (by simp at h1; omega) (by omega), fun e => by omega⟩) hB0 (by simp) (hx.keeps (Keeps.ofBelow (hb0.mono hb))) (Nat.le_trans hb hb0.size))
  rw [hv0] at HC
  unfold EV.v trampV ptr at HC
  simp only at HC
  obtain ⟨⟨x0, x1, x2, x3, x4⟩, _⟩ : (w0.cell? ⟨w.heap.size, 0, none⟩ = some (.int .i64 k5) ∧ w0.cell? ⟨w.heap.size, 1, none⟩ = some (.bool t5) ∧ w0.cell? ⟨w.heap.size, 2, none⟩ = some (.slice a5 m5 c5) ∧ w0.cell? ⟨w.heap.size, 3, none⟩ = some (.slice b5 n5 d5) ∧ w0.cell? ⟨w.heap.size, 4, none⟩ = some (.slice g5 l5 e5)) ∧ True :=
    ⟨⟨by rw [cell_of_row _ _ _ _ _ _ r0]; rfl, by rw [cell_of_row _ _ _ _ _ _ r0]; rfl, by rw [cell_of_row _ _ _ _ _ _ r0]; rfl, by rw [cell_of_row _ _ _ _ _ _ r0]; rfl, by rw [cell_of_row _ _ _ _ _ _ r0]; rfl⟩, trivial⟩
  have HYn := hid0 hfn
  have HFF := hid0 hF
  have HB0 := hid0 hb0
  have HS0 := hid0 hs0
  have HR1 := hid0 r1
  have HV0 := hid0 hv0
  have HE0 := hid0 hE0
  rw [hfn]
  have hf := hw0.symm
  unfold EV.v
  clear hw0 hx hB hF hb0 r0 r1 hv0 hB0 hE0 hfn
  go_enter Tryd.func71, Tryd.ntmps71
  go_wp2_with (first
    | (go_at_call 53; refine HC.out.mono ?_; rintro e' w1 ⟨Y1, G1, i1, he1, hW1⟩
       obtain ⟨fn1, fx1, fy1, hfn1⟩ := (hW1.bd.g.node i1 _ (List.getElem?_eq_getElem hW1.lt)).func
       rw [hfn1] at he1
       subst he1
       have HW1 := hid0 hW1
       have HFn1 := hid0 hfn1
       clear hW1 hfn1 hf x0 x1 x2 x3 x4)
    | (go_at_call 68; refine (fork_new _ _ _ _).mono ?_; rintro e' w3 ⟨rfl, hw3⟩
       have hbe : Below w0.heap.size w0 w3 := by
         rw [hw3]
         have hs1 := HW1.out.bel.size
         exact (((HW1.out.bel.alloc hs1 _).alloc (by simp; omega) _).alloc (by simp; omega) _).alloc (by simp; omega) _
       have hn3 : row w3 (w.heap.size + 1) .nilFunc 90 := (hbe.block _ (lt_of_row HR1.out)).trans HR1.out
       have q1 := row_cell hn3
       have q2 : w3.frozen? ⟨w.heap.size + 1, 0, none⟩ = false := frozen_of_row _ _ _ _ _ hn3
       have HN3 := hid0 hn3
       have HW3 := hid0 hw3
       unfold onceV ptr
       clear hw3 hbe hn3)
    | fail)
  have hn4 : row (w3.setCell ⟨w.heap.size + 1, 0, none⟩ (.func (.func 78) #[] #[.pointer (some ⟨w1.heap.size + 1 + 2, 0, none⟩), .pointer (some ⟨w1.heap.size + 1 + 1, 0, none⟩)])) (w.heap.size + 1) (.func (.func 78) #[] #[.pointer (some ⟨w1.heap.size + 1 + 2, 0, none⟩), .pointer (some ⟨w1.heap.size + 1 + 1, 0, none⟩)]) 90 := heap_setCell_same _ _ 0 _ _ _ HN3.out
  have hk4 : ∀ (b : Nat), b ≠ w.heap.size + 1 → (w3.setCell ⟨w.heap.size + 1, 0, none⟩ (.func (.func 78) #[] #[.pointer (some ⟨w1.heap.size + 1 + 2, 0, none⟩), .pointer (some ⟨w1.heap.size + 1 + 1, 0, none⟩)])).heap[b]? = w3.heap[b]? := fun b hne => Below.heap_setCell w3 _ _ b hne
  have hb4 : Below w.heap.size w3 (w3.setCell ⟨w.heap.size + 1, 0, none⟩ (.func (.func 78) #[] #[.pointer (some ⟨w1.heap.size + 1 + 2, 0, none⟩), .pointer (some ⟨w1.heap.size + 1 + 1, 0, none⟩)])) := (Below.refl _ w3).setCell (p := ⟨w.heap.size + 1, 0, none⟩) (by simp) _
  generalize w3.setCell ⟨w.heap.size + 1, 0, none⟩ (.func (.func 78) #[] #[.pointer (some ⟨w1.heap.size + 1 + 2, 0, none⟩), .pointer (some ⟨w1.heap.size + 1 + 1, 0, none⟩)]) = w4 at *
  have hn5 : row (w4.drew.setCell ⟨w.heap.size + 1, 0, none⟩ (.func (.func 78) #[] #[.pointer (some ⟨w1.heap.size + 1 + 2, 0, none⟩), .pointer (some ⟨w1.heap.size + 1 + 1, 0, none⟩)])) (w.heap.size + 1) (.func (.func 78) #[] #[.pointer (some ⟨w1.heap.size + 1 + 2, 0, none⟩), .pointer (some ⟨w1.heap.size + 1 + 1, 0, none⟩)]) 90 := heap_setCell_same _ _ 0 _ _ _ (show row w4.drew (w.heap.size + 1) (.func (.func 78) #[] #[.pointer (some ⟨w1.heap.size + 1 + 2, 0, none⟩), .pointer (some ⟨w1.heap.size + 1 + 1, 0, none⟩)]) 90 from hn4)
  have HN5 := hid0 hn5
  have HK5 : Hid (∀ (b : Nat), b ≠ w.heap.size + 1 → (w4.drew.setCell ⟨w.heap.size + 1, 0, none⟩ (.func (.func 78) #[] #[.pointer (some ⟨w1.heap.size + 1 + 2, 0, none⟩), .pointer (some ⟨w1.heap.size + 1 + 1, 0, none⟩)])).heap[b]? = w3.heap[b]?) := hid0 (fun b hne => (Below.heap_setCell w4.drew _ _ b hne).trans (hk4 b hne))
  have HB5 : Hid (Below w.heap.size w3 (w4.drew.setCell ⟨w.heap.size + 1, 0, none⟩ (.func (.func 78) #[] #[.pointer (some ⟨w1.heap.size + 1 + 2, 0, none⟩), .pointer (some ⟨w1.heap.size + 1 + 1, 0, none⟩)]))) := hid0 (hb4.drew.setCell (p := ⟨w.heap.size + 1, 0, none⟩) (by simp) _)
  have hS4 : w4.drew.cell? ⟨w.heap.size + 1, 0, none⟩ = some (.func (.func 78) #[] #[.pointer (some ⟨w1.heap.size + 1 + 2, 0, none⟩), .pointer (some ⟨w1.heap.size + 1 + 1, 0, none⟩)]) ∧ w4.drew.frozen? ⟨w.heap.size + 1, 0, none⟩ = false := ⟨row_cell (show row w4.drew (w.heap.size + 1) (.func (.func 78) #[] #[.pointer (some ⟨w1.heap.size + 1 + 2, 0, none⟩), .pointer (some ⟨w1.heap.size + 1 + 1, 0, none⟩)]) 90 from hn4), frozen_of_row _ _ _ _ _ (show row w4.drew (w.heap.size + 1) (.func (.func 78) #[] #[.pointer (some ⟨w1.heap.size + 1 + 2, 0, none⟩), .pointer (some ⟨w1.heap.size + 1 + 1, 0, none⟩)]) 90 from hn4)⟩
  have HS5 : Hid ((w4.drew.setCell ⟨w.heap.size + 1, 0, none⟩ (.func (.func 78) #[] #[.pointer (some ⟨w1.heap.size + 1 + 2, 0, none⟩), .pointer (some ⟨w1.heap.size + 1 + 1, 0, none⟩)])).cell? ⟨w.heap.size + 1, 0, none⟩ = some (.func (.func 78) #[] #[.pointer (some ⟨w1.heap.size + 1 + 2, 0, none⟩), .pointer (some ⟨w1.heap.size + 1 + 1, 0, none⟩)]) ∧ (w4.drew.setCell ⟨w.heap.size + 1, 0, none⟩ (.func (.func 78) #[] #[.pointer (some ⟨w1.heap.size + 1 + 2, 0, none⟩), .pointer (some ⟨w1.heap.size + 1 + 1, 0, none⟩)])).frozen? ⟨w.heap.size + 1, 0, none⟩ = false) := hid0 ⟨row_cell hn5, frozen_of_row _ _ _ _ _ hn5⟩
  clear q1 q2 hk4 hb4 hn5 hn4
  go_region_held3 (fun W => W.cell? ⟨w.heap.size + 1, 0, none⟩ = some (.func (.func 78) #[] #[.pointer (some ⟨w1.heap.size + 1 + 2, 0, none⟩), .pointer (some ⟨w1.heap.size + 1 + 1, 0, none⟩)]) ∧ W.frozen? ⟨w.heap.size + 1, 0, none⟩ = false)
    (first | assumption | exact HS5.out)
    (first | fail)
  have hk6 : ∀ (b : Nat), b ≠ w.heap.size + 1 → (w4.setCell ⟨w.heap.size + 1, 0, none⟩ (.func (.func 78) #[] #[.pointer (some ⟨w1.heap.size + 1 + 2, 0, none⟩), .pointer (some ⟨w1.heap.size + 1 + 1, 0, none⟩)])).drew.heap[b]? = w3.heap[b]? := fun b hne => HK5.out b hne
  have hn6 : row (w4.setCell ⟨w.heap.size + 1, 0, none⟩ (.func (.func 78) #[] #[.pointer (some ⟨w1.heap.size + 1 + 2, 0, none⟩), .pointer (some ⟨w1.heap.size + 1 + 1, 0, none⟩)])).drew (w.heap.size + 1) (.func (.func 78) #[] #[.pointer (some ⟨w1.heap.size + 1 + 2, 0, none⟩), .pointer (some ⟨w1.heap.size + 1 + 1, 0, none⟩)]) 90 := HN5.out
  have hb6 : Below w.heap.size w3 (w4.setCell ⟨w.heap.size + 1, 0, none⟩ (.func (.func 78) #[] #[.pointer (some ⟨w1.heap.size + 1 + 2, 0, none⟩), .pointer (some ⟨w1.heap.size + 1 + 1, 0, none⟩)])).drew := HB5.out
  clear hS4 HS5 HN5 HK5 HB5
  generalize (w4.setCell ⟨w.heap.size + 1, 0, none⟩ (.func (.func 78) #[] #[.pointer (some ⟨w1.heap.size + 1 + 2, 0, none⟩), .pointer (some ⟨w1.heap.size + 1 + 1, 0, none⟩)])).drew = w6 at *
  have hc6 := row_cell hn6
  have HF6 := hid0 (round_done HFF.out hnx hb HB0.out (by omega) (by have := HS0.out; omega) HR1.out HV0.out HE0.out HW1.out rfl (by rw [HYn.out, HFn1.out]; exact HW3.out) hk6 hb6 (by rw [HYn.out, HFn1.out]; simp only [World.size_alloc]; exact hn6))
  go_wp2
  refine bodyPost_ret (v := .tuple #[.func fn1 fx1 fy1, (.func (.func 78) #[] #[.pointer (some ⟨w1.heap.size + 1 + 2, 0, none⟩), .pointer (some ⟨w1.heap.size + 1 + 1, 0, none⟩)])]) (by simp [results, Tryd.results71, go_sem, hc6]) rfl ?_
  obtain ⟨Y', G', t, f, b, e1, e2, h⟩ := HF6.out
  refine ⟨Y', G', t, f, b, ?_, h⟩
  rw [e1, e2, HFn1.out]
  simp [onceV, ptr]
end Go.Proofs.YtiapefdklojhdaaDoor
namespace Go.Proofs.YtiapefdklojhdaaDoor
open Go.RowKit Go.Shelf
set_option maxRecDepth 10000 in
set_option maxHeartbeats 1600000 in
theorem way_star (nt : Bool) (N : List ByteArray) (P : List (Int × Int)) (e : Ex) (IH : WayP e) : WayP (.mk 5 nt N P [e]) := by
  intro w base R Y F G nx x hF hB hnx hx hb
  obtain ⟨a, ca, b, cb, c, cc, rfl, hsq, hrq, lN, lP, lL, vs, hel, hpt⟩ := hx.shape
  obtain ⟨fn, fx, fy, hfn⟩ := (hB.g.node nx _ (List.getElem?_eq_getElem hnx)).func
  obtain ⟨w0, hw0, hs0, hb0, r0, r1, r2⟩ := box3 w R (Y.val nx) ⟨.int .i64 5, .bool nt, .slice a N.length ca, .slice b P.length cb, .slice c 1 cc⟩
  obtain ⟨g, off, rfl, hg, h5⟩ := hel 0 (by simp)
  rw [Nat.zero_mul, Nat.add_zero] at h5
  have hp := hpt 0 (by simp)
  rw [List.getElem_cons_zero] at hp
  obtain ⟨k5, t5, a5, m5, c5, b5, n5, d5, g5, l5, e5, hv5⟩ : ∃ k5 t5 a5 m5 c5 b5 n5 d5 g5 l5 e5, vs 0 = ⟨.int .i64 k5, .bool t5, .slice a5 m5 c5, .slice b5 n5 d5, .slice g5 l5 e5⟩ := by
    cases e with
    | mk k5 t5 N5 P5 L5 =>
      obtain ⟨a5, c5, b5, d5, g5, e5, hv, _⟩ := hp.shape
      exact ⟨k5, t5, a5, _, c5, b5, _, d5, g5, _, e5, hv⟩
  have HC : Hid (∀ W, Below w0.heap.size w0 W → Calls Tryd.prog 71 #[.pointer (some ⟨R, 0, none⟩), .agg #[.int .i64 k5, .bool t5, .slice a5 m5 c5, .slice b5 n5 d5, .slice g5 l5 e5], .func fn fx fy] W fun e' w' => ∃ Y' G' t f b, e' = .returned (.tuple #[Y'.val b, Y'.val f]) ∧ Rounded W base R Y F G e nx w' Y' G' t f b) := hid0 (fun W hW => by
    have hbW := Below.later hb0 hW
    have h := round_any e IH W base R Y F G nx (vs 0) (fun i b h1 h2 => hF i b h1 (by have := hbW.size; omega)) (hB.later hb hbW) hnx (hp.keeps (Keeps.ofBelow (hbW.mono hb))) (Nat.le_trans hb hbW.size)
    rw [hfn, hv5] at h
    exact h)
  rw [hv5] at h5
  have HSo : Hid (∀ W, Below w0.heap.size w0 W → W.cell? ⟨w.heap.size, 0, none⟩ = some (.pointer (some ⟨R, 0, none⟩)) ∧ W.cell? ⟨w.heap.size + 1, 4, none⟩ = some (.slice (some ⟨g, off, none⟩) 1 cc) ∧ W.cell? ⟨w.heap.size + 2, 0, none⟩ = some (.func fn fx fy) ∧ W.cell? ⟨g, off, none⟩ = some (.int .i64 k5) ∧ W.cell? ⟨g, off + 1, none⟩ = some (.bool t5) ∧ W.cell? ⟨g, off + 2, none⟩ = some (.slice a5 m5 c5) ∧ W.cell? ⟨g, off + 3, none⟩ = some (.slice b5 n5 d5) ∧ W.cell? ⟨g, off + 4, none⟩ = some (.slice g5 l5 e5)) := hid0 (fun W hW => by
    have q0 := row_cell ((hW.block _ (lt_of_row r0)).trans r0)
    have q1 : W.cell? ⟨w.heap.size + 1, 4, none⟩ = some (.slice (some ⟨g, off, none⟩) 1 cc) := by rw [cell_of_row _ _ _ _ _ _ ((hW.block _ (lt_of_row r1)).trans r1)]; rfl
    have q2 := row_cell ((hW.block _ (lt_of_row r2)).trans r2)
    rw [hfn] at q2
    obtain ⟨f0, f1, f2, f3, f4⟩ := h5.keeps (Q := fun g => g < base) hg (Keeps.ofBelow ((Below.later hb0 hW).mono hb))
    exact ⟨q0, q1, q2, f0, f1, f2, f3, f4⟩)
  have hY : Y.val nx = .func fn fx fy := hfn
  rw [hfn] at hw0 r2 ⊢
  have c0 : w0.cell? ⟨w.heap.size + 1, 0, none⟩ = some (.int .i64 5) := by rw [cell_of_row _ _ _ _ _ _ r1]; rfl
  have hf := hw0.symm
  simp only at hf
  unfold EV.v
  have HFF := hid0 hF
  have HB0 := hid0 hb0
  have HYn := hid0 hY
  have hs00 := HSo.out _ (Below.refl _ w0).drew
  clear hw0 hx hB r0 r1 r2 hb0 hsq hrq hF hel hpt h5 hp hv5 hfn hY
  go_enter Tryd.func53, Tryd.ntmps53
  go_wp2
  clear hf
  go_region_held3 (fun W => W.cell? ⟨w.heap.size, 0, none⟩ = some (.pointer (some ⟨R, 0, none⟩)) ∧ W.cell? ⟨w.heap.size + 1, 4, none⟩ = some (.slice (some ⟨g, off, none⟩) 1 cc) ∧ W.cell? ⟨w.heap.size + 2, 0, none⟩ = some (.func fn fx fy) ∧ W.cell? ⟨g, off, none⟩ = some (.int .i64 k5) ∧ W.cell? ⟨g, off + 1, none⟩ = some (.bool t5) ∧ W.cell? ⟨g, off + 2, none⟩ = some (.slice a5 m5 c5) ∧ W.cell? ⟨g, off + 3, none⟩ = some (.slice b5 n5 d5) ∧ W.cell? ⟨g, off + 4, none⟩ = some (.slice g5 l5 e5))
    (first | assumption)
    (first
      | (go_at_call 71; refine (HC.out _ (Below.refl _ w0).drew).mono ?_; rintro e' w1 ⟨Y1, G1, t1, f1, b1, he1, hW1⟩
         obtain ⟨fn1, fx1, fy1, hfn1⟩ := (hW1.bd.g.node b1 _ (List.getElem?_eq_getElem hW1.ltb)).func
         obtain ⟨fn2, fx2, fy2, hfn2⟩ := (hW1.bd.g.node f1 _ hW1.fk).func
         rw [hfn1, hfn2] at he1
         subst he1
         have HW1 := hid0 hW1
         have HFn := hid0 hfn2
         have hs1 := HSo.out _ (Below.later (Below.refl _ w0).drew hW1.bel)
         clear hW1 hfn1 hfn2))
  go_wp2
  go_ret
  exact ⟨Y1, G1, f1, by rw [HFn.out]; rfl, ⟨(List.getElem?_eq_some_iff.1 HW1.out.fk).1, HW1.out.ext, HW1.out.bd, .star nt N P e nx t1 f1 b1 HW1.out.tr HW1.out.fk HW1.out.built, HW1.out.holes, by have := HW1.out.size; rw [Ex.size_mk, sizes_cons, Ex.size.sizes]; omega, Below.later (Below.later HB0.out (Below.refl _ w0).drew) HW1.out.bel⟩⟩
set_option maxRecDepth 10000 in
set_option maxHeartbeats 1600000 in
theorem way_plus (nt : Bool) (N : List ByteArray) (P : List (Int × Int)) (e : Ex) (IH : WayP e) : WayP (.mk 6 nt N P [e]) := by
  intro w base R Y F G nx x hF hB hnx hx hb
  obtain ⟨a, ca, b, cb, c, cc, rfl, hsq, hrq, lN, lP, lL, vs, hel, hpt⟩ := hx.shape
  obtain ⟨fn, fx, fy, hfn⟩ := (hB.g.node nx _ (List.getElem?_eq_getElem hnx)).func
  obtain ⟨w0, hw0, hs0, hb0, r0, r1, r2⟩ := box3 w R (Y.val nx) ⟨.int .i64 6, .bool nt, .slice a N.length ca, .slice b P.length cb, .slice c 1 cc⟩
  obtain ⟨g, off, rfl, hg, h5⟩ := hel 0 (by simp)
  rw [Nat.zero_mul, Nat.add_zero] at h5
  have hp := hpt 0 (by simp)
  rw [List.getElem_cons_zero] at hp
  obtain ⟨k5, t5, a5, m5, c5, b5, n5, d5, g5, l5, e5, hv5⟩ : ∃ k5 t5 a5 m5 c5 b5 n5 d5 g5 l5 e5, vs 0 = ⟨.int .i64 k5, .bool t5, .slice a5 m5 c5, .slice b5 n5 d5, .slice g5 l5 e5⟩ := by
    cases e with
    | mk k5 t5 N5 P5 L5 =>
      obtain ⟨a5, c5, b5, d5, g5, e5, hv, _⟩ := hp.shape
      exact ⟨k5, t5, a5, _, c5, b5, _, d5, g5, _, e5, hv⟩
  have HC : Hid (∀ W, Below w0.heap.size w0 W → Calls Tryd.prog 71 #[.pointer (some ⟨R, 0, none⟩), .agg #[.int .i64 k5, .bool t5, .slice a5 m5 c5, .slice b5 n5 d5, .slice g5 l5 e5], .func fn fx fy] W fun e' w' => ∃ Y' G' t f b, e' = .returned (.tuple #[Y'.val b, Y'.val f]) ∧ Rounded W base R Y F G e nx w' Y' G' t f b) := hid0 (fun W hW => by
    have hbW := Below.later hb0 hW
    have h := round_any e IH W base R Y F G nx (vs 0) (fun i b h1 h2 => hF i b h1 (by have := hbW.size; omega)) (hB.later hb hbW) hnx (hp.keeps (Keeps.ofBelow (hbW.mono hb))) (Nat.le_trans hb hbW.size)
    rw [hfn, hv5] at h
    exact h)
  rw [hv5] at h5
  have HSo : Hid (∀ W, Below w0.heap.size w0 W → W.cell? ⟨w.heap.size, 0, none⟩ = some (.pointer (some ⟨R, 0, none⟩)) ∧ W.cell? ⟨w.heap.size + 1, 4, none⟩ = some (.slice (some ⟨g, off, none⟩) 1 cc) ∧ W.cell? ⟨w.heap.size + 2, 0, none⟩ = some (.func fn fx fy) ∧ W.cell? ⟨g, off, none⟩ = some (.int .i64 k5) ∧ W.cell? ⟨g, off + 1, none⟩ = some (.bool t5) ∧ W.cell? ⟨g, off + 2, none⟩ = some (.slice a5 m5 c5) ∧ W.cell? ⟨g, off + 3, none⟩ = some (.slice b5 n5 d5) ∧ W.cell? ⟨g, off + 4, none⟩ = some (.slice g5 l5 e5)) := hid0 (fun W hW => by
    have q0 := row_cell ((hW.block _ (lt_of_row r0)).trans r0)
    have q1 : W.cell? ⟨w.heap.size + 1, 4, none⟩ = some (.slice (some ⟨g, off, none⟩) 1 cc) := by rw [cell_of_row _ _ _ _ _ _ ((hW.block _ (lt_of_row r1)).trans r1)]; rfl
    have q2 := row_cell ((hW.block _ (lt_of_row r2)).trans r2)
    rw [hfn] at q2
    obtain ⟨f0, f1, f2, f3, f4⟩ := h5.keeps (Q := fun g => g < base) hg (Keeps.ofBelow ((Below.later hb0 hW).mono hb))
    exact ⟨q0, q1, q2, f0, f1, f2, f3, f4⟩)
  have hY : Y.val nx = .func fn fx fy := hfn
  rw [hfn] at hw0 r2 ⊢
  have c0 : w0.cell? ⟨w.heap.size + 1, 0, none⟩ = some (.int .i64 6) := by rw [cell_of_row _ _ _ _ _ _ r1]; rfl
  have hf := hw0.symm
  simp only at hf
  unfold EV.v
  have HFF := hid0 hF
  have HB0 := hid0 hb0
  have HYn := hid0 hY
  have hs00 := HSo.out _ (Below.refl _ w0).drew
  clear hw0 hx hB r0 r1 r2 hb0 hsq hrq hF hel hpt h5 hp hv5 hfn hY
  go_enter Tryd.func53, Tryd.ntmps53
  go_wp2
  clear hf
  go_region_held3 (fun W => W.cell? ⟨w.heap.size, 0, none⟩ = some (.pointer (some ⟨R, 0, none⟩)) ∧ W.cell? ⟨w.heap.size + 1, 4, none⟩ = some (.slice (some ⟨g, off, none⟩) 1 cc) ∧ W.cell? ⟨w.heap.size + 2, 0, none⟩ = some (.func fn fx fy) ∧ W.cell? ⟨g, off, none⟩ = some (.int .i64 k5) ∧ W.cell? ⟨g, off + 1, none⟩ = some (.bool t5) ∧ W.cell? ⟨g, off + 2, none⟩ = some (.slice a5 m5 c5) ∧ W.cell? ⟨g, off + 3, none⟩ = some (.slice b5 n5 d5) ∧ W.cell? ⟨g, off + 4, none⟩ = some (.slice g5 l5 e5))
    (first | assumption)
    (first
      | (go_at_call 71; refine (HC.out _ (Below.refl _ w0).drew).mono ?_; rintro e' w1 ⟨Y1, G1, t1, f1, b1, he1, hW1⟩
         obtain ⟨fn1, fx1, fy1, hfn1⟩ := (hW1.bd.g.node b1 _ (List.getElem?_eq_getElem hW1.ltb)).func
         obtain ⟨fn2, fx2, fy2, hfn2⟩ := (hW1.bd.g.node f1 _ hW1.fk).func
         rw [hfn1, hfn2] at he1
         subst he1
         have HW1 := hid0 hW1
         have HFn := hid0 hfn1
         have hs1 := HSo.out _ (Below.later (Below.refl _ w0).drew hW1.bel)
         clear hW1 hfn1 hfn2))
  go_wp2
  go_ret
  exact ⟨Y1, G1, b1, by rw [HFn.out]; rfl, ⟨HW1.out.ltb, HW1.out.ext, HW1.out.bd, .plus nt N P e nx t1 f1 b1 HW1.out.tr HW1.out.fk HW1.out.built, HW1.out.holes, by have := HW1.out.size; rw [Ex.size_mk, sizes_cons, Ex.size.sizes]; omega, Below.later (Below.later HB0.out (Below.refl _ w0).drew) HW1.out.bel⟩⟩
end Go.Proofs.YtiapefdklojhdaaDoor
namespace Go.Proofs.YtiapefdklojhdaaDoor
open Go.RowKit Go.Shelf
theorem infoWay : (Tryd.prog.info? 90).map (fun i => (i.zero, i.size, i.bytes)) = some (some .nilFunc, 1, 8) := by kernel_rfl
theorem Bd.keepF {W W' : World} {base R : Nat} {Y : Lay} {F : Nat → Nat → Prop} {G : List Nd} (h : Bd W base R Y F G) (bel : Below base W W') (k : ∀ (i b : Nat) c t z, F i b → W.heap[b]? = some (.cells c t z) → W'.heap[b]? = some (.cells c t z))
    (kl : ∀ (b : Nat) c z, W.heap[b]? = some (.cells c 3 z) → W'.heap[b]? = some (.cells c 3 z)) : Bd W' base R Y F G :=
  ⟨⟨fun i d hi => (h.g.node i d hi).kp (fun b c t z hFb e _ _ _ => k i b c t z hFb e) (fun hd => kl _ _ _ ((h.g.node i d hi).lastRow hd).2), h.g.inj, fun i nt N P nx hi => (h.g.sets i nt N P nx hi).below bel⟩, h.ok⟩
theorem own_wa {w : World} {lo : Nat} {v : Value} {l : List Value} {F : Nat → Prop} (h : w.ownsRow lo 90 1 v l.length l) (hF : ∀ b, lo ≤ b → F b) : WA w F v l := by
  have h0 := h
  rcases h.2 with ⟨rfl, hn⟩ | ⟨g, cap, cur, rfl, hg, hr, _⟩
  · exact ⟨none, 0, by rw [hn], fun k hk => by omega⟩
  · refine ⟨some ⟨g, 0, none⟩, cap, rfl, fun k hk => ⟨g, 0, cur, rfl, hF g hg, hr, ?_⟩⟩
    have h1 := World.ownsRow.cellAt h0 k (by omega)
    rw [cell_of_row _ _ _ _ _ _ hr] at h1
    rw [Nat.zero_add, h1, List.getElem?_eq_getElem hk]
/-- What the rounds over alternatives keep. -/
structure AltI (w : World) (base R : Nat) (Y : Lay) (F : Nat → Nat → Prop) (G : List Nd) (L : List Ex) (nx k : Nat) (v : Value) (W : World) (Y' : Lay) (G' : List Nd) (ys : List Nat) : Prop where
  len : ys.length = k
  le : k ≤ L.length
  lt : ∀ y, y ∈ ys → y < G'.length
  ext : Ext Y G Y' G'
  bd : Bd W base R Y' (fun i b => F i b ∧ v.ownBlock ≠ some b) G'
  built : ∀ i (h : i < k), Built G' (L[i]'(by omega)) nx (ys[i]'(by omega))
  holes : ∀ (j : Nat), G.length ≤ j → G'[j]? ≠ some .hole
  size : G'.length ≤ G.length + 2 * Ex.size.sizes (L.take k)
  own : W.ownsRow w.heap.size 90 1 v k (ys.map Y'.val)
  bel : Below w.heap.size w W
theorem sizes_append (L M : List Ex) : Ex.size.sizes (L ++ M) = Ex.size.sizes L + Ex.size.sizes M := by
  induction L with
  | nil => rw [List.nil_append, Ex.size.sizes]; omega
  | cons e L ih => rw [List.cons_append, sizes_cons, sizes_cons, ih]; omega
theorem AltI.past {w W W' : World} {base R : Nat} {Y Y' : Lay} {F : Nat → Nat → Prop} {G G' : List Nd} {L : List Ex} {nx k : Nat} {v : Value} {ys : List Nat} (h : AltI w base R Y F G L nx k v W Y' G' ys) (hb : base ≤ w.heap.size) (q : Below W.heap.size W W') : AltI w base R Y F G L nx k v W' Y' G' ys :=
  ⟨h.len, h.le, h.lt, h.ext, h.bd.later (Nat.le_trans hb h.bel.size) q, h.built, h.holes, h.size, own_blk h.own (fun g hg => q.block g (World.ownsRow.lt h.own g hg).2), Below.later h.bel q⟩
theorem AltI.snoc {w W w2 w3 w4 : World} {base R : Nat} {Y Y1 Y2 : Lay} {F : Nat → Nat → Prop} {G G1 G2 : List Nd} {L : List Ex} {nx k i2 : Nat} {v v4 : Value} {ys : List Nat} (h : AltI w base R Y F G L nx k v W Y1 G1 ys) (hb : base ≤ w.heap.size) (hk : k < L.length)
    (hW : Wayed W base R Y1 (fun i b => F i b ∧ v.ownBlock ≠ some b) G1 L[k] nx w2 Y2 G2 i2) (h3 : Below w2.heap.size w2 w3) (hg : w3.grownBy w4 v.ownBlock) (ho : w4.ownsRow w.heap.size 90 1 v4 (k + 1) (ys.map Y1.val ++ [Y2.val i2])) (hat : v4.ownBlock = v.ownBlock ∨ v4.ownBlock = some w3.heap.size) :
    AltI w base R Y F G L nx (k + 1) v4 w4 Y2 G2 (ys ++ [i2]) := by
  have sW := h.bel.size
  have s2 := hW.bel.size
  have s3 := h3.size
  have hlow : ∀ b, v.ownBlock = some b → w.heap.size ≤ b := fun b e => (World.ownsRow.lt h.own b e).1
  have b3 : Below w.heap.size w w3 := Below.later (Below.later h.bel hW.bel) h3
  have hbel : Below w.heap.size w w4 := b3.grown hg (by omega) hlow
  have key : ∀ (b : Nat) c t z, v.ownBlock ≠ some b → w2.heap[b]? = some (.cells c t z) → w4.heap[b]? = some (.cells c t z) := fun b c t z hne e =>
    (hg.block b (Nat.lt_of_lt_of_le (lt_of_row e) s3) (fun q => hne q.symm)).trans ((h3.block b (lt_of_row e)).trans e)
  have hint : ∀ (b : Nat) c z, w2.heap[b]? = some (.cells c 3 z) → w4.heap[b]? = some (.cells c 3 z) := fun b c z e => key b c _ z (fun q => by
    obtain ⟨c', e', _⟩ := own_type h.own b q
    have e2 := (hW.bel.block b (lt_of_row e')).trans e'
    rw [e] at e2
    cases e2) e
  have hm2 : Bd w2 base R Y2 (fun i b => (F i b ∧ v.ownBlock ≠ some b) ∧ v4.ownBlock ≠ some b) G2 := hW.bd.mono (fun i b _ hlt hf => ⟨hf, fun e => by
    rcases hat with q | q
    · exact hf.2 (q ▸ e)
    · rw [q] at e
      simp only [Option.some.injEq] at e
      omega⟩)
  have hm4 := hm2.keepF (W' := w4) (by
      have bb : Below base w2 w3 := h3.mono (by omega)
      exact bb.grown hg (by omega) (fun b e => Nat.le_trans hb (hlow b e))) (fun i b c t z hf e => key b c t z hf.1.2 e) hint
  refine ⟨by simp [h.len], hk, fun y hy => ?_, h.ext.trans hW.ext, hm4.mono (fun i b _ _ hf => ⟨hf.1.1, hf.2⟩), fun i hi => ?_, fun j hj => ?_, ?_, ?_, hbel⟩
  · rcases List.mem_append.1 hy with hy | hy
    · exact Nat.lt_of_lt_of_le (h.lt y hy) hW.ext.len
    · rw [List.mem_singleton.1 hy]; exact hW.lt
  · have hlen := h.len
    rcases Nat.lt_or_ge i k with hlt | hge
    · rw [List.getElem_append_left (by omega)]
      exact hW.ext.built (h.built i hlt)
    · have : i = k := by omega
      subst this
      have e : (ys ++ [i2])[i]'(by simp [hlen]) = i2 := by rw [List.getElem_append_right (by omega)]; simp [hlen]
      rw [e]
      exact hW.built
  · rcases Nat.lt_or_ge j G1.length with hlt | hge
    · rw [hW.ext.nodes j hlt]; exact h.holes j hj
    · exact hW.holes j hge
  · have a1 := h.size
    have a2 := hW.size
    rw [List.take_add_one, List.getElem?_eq_getElem hk, sizes_append]
    simp only [Option.toList_some, sizes_cons, Ex.size.sizes]
    omega
  · have hmap : ys.map Y2.val = ys.map Y1.val := List.map_congr_left (fun y hy => hW.ext.val y (h.lt y hy))
    rw [List.map_append, hmap]
    exact ho
set_option maxRecDepth 10000 in
set_option maxHeartbeats 800000 in
theorem through2 (e : Ex) (IH : WayP e) (w : World) (base R : Nat) (Y : Lay) (F : Nat → Nat → Prop) (G : List Nd) (nx r n : Nat) (k5 : Int) (t5 : Bool) (a5 : Option Addr) (m5 c5 : Nat) (b5 : Option Addr) (n5 d5 : Nat) (g5 : Option Addr) (l5 e5 : Nat) (hF : ∀ i b, G.length ≤ i → w.heap.size ≤ b → F i b) (hB : Bd w base R Y F G) (hnx : nx < G.length) (hx : ExIs w (fun g => g < base) e ⟨.int .i64 k5, .bool t5, .slice a5 m5 c5, .slice b5 n5 d5, .slice g5 l5 e5⟩) (hb : base ≤ w.heap.size)
    (hr : row w r (ptr R) 101) (hn : row w n (Y.val nx) 90) :
    Calls Tryd.prog 70 #[.agg #[.int .i64 k5, .bool t5, .slice a5 m5 c5, .slice b5 n5 d5, .slice g5 l5 e5], .pointer (some ⟨r, 0, none⟩), .pointer (some ⟨n, 0, none⟩)] w fun e' w' => ∃ Y' G' i, e' = .returned (Y'.val i) ∧ Wayed w base R Y F G e nx w' Y' G' i := by
  obtain ⟨fn, fx, fy, hfn⟩ := (hB.g.node nx _ (List.getElem?_eq_getElem hnx)).func
  obtain ⟨w0, hw0⟩ : ∃ w0, w0 = w.alloc (.cells #[.int .i64 k5, .bool t5, .slice a5 m5 c5, .slice b5 n5 d5, .slice g5 l5 e5] 28) := ⟨_, rfl⟩
  have hb0 : Below w.heap.size w w0 := by rw [hw0]; exact (Below.refl _ _).alloc (Nat.le_refl _) _
  have r0 : w0.heap[w.heap.size]? = some (.cells #[.int .i64 k5, .bool t5, .slice a5 m5 c5, .slice b5 n5 d5, .slice g5 l5 e5] 28 (0, 0)) := by rw [hw0]; exact heap_alloc_new w _
  have x0 : w0.cell? ⟨w.heap.size, 0, none⟩ = some (.int .i64 k5) := by rw [cell_of_row _ _ _ _ _ _ r0]; rfl
  have x1 : w0.cell? ⟨w.heap.size, 1, none⟩ = some (.bool t5) := by rw [cell_of_row _ _ _ _ _ _ r0]; rfl
  have x2 : w0.cell? ⟨w.heap.size, 2, none⟩ = some (.slice a5 m5 c5) := by rw [cell_of_row _ _ _ _ _ _ r0]; rfl
  have x3 : w0.cell? ⟨w.heap.size, 3, none⟩ = some (.slice b5 n5 d5) := by rw [cell_of_row _ _ _ _ _ _ r0]; rfl
  have x4 : w0.cell? ⟨w.heap.size, 4, none⟩ = some (.slice g5 l5 e5) := by rw [cell_of_row _ _ _ _ _ _ r0]; rfl
  have y0 := row_cell ((hb0.block _ (lt_of_row hr)).trans hr)
  have y1 := row_cell ((hb0.block _ (lt_of_row hn)).trans hn)
  have HC := hid0 (IH w0 base R Y F G nx ⟨.int .i64 k5, .bool t5, .slice a5 m5 c5, .slice b5 n5 d5, .slice g5 l5 e5⟩ (fun i b h1 h2 => hF i b h1 (Nat.le_trans hb0.size h2)) (hB.later hb hb0) hnx (hx.keeps (Keeps.ofBelow (hb0.mono hb))) (Nat.le_trans hb hb0.size))
  unfold EV.v at HC
  rw [hfn] at HC y1
  unfold ptr at y0
  have HB0 := hid0 hb0
  have hf := hw0.symm
  clear hw0 hb0 r0 hx hB hF hr hn
  go_enter Tryd.func70, Tryd.ntmps70
  go_wp2_with (first
    | (go_at_call 53; refine HC.out.mono ?_; rintro e' w1 ⟨Y1, G1, i1, he1, hW1⟩
       obtain ⟨fn1, fx1, fy1, hfn1⟩ := (hW1.bd.g.node i1 _ (List.getElem?_eq_getElem hW1.lt)).func
       rw [hfn1] at he1
       subst he1
       have HW1 := hid0 hW1
       have HFn1 := hid0 hfn1
       clear hW1 hfn1)
    | fail)
  go_ret
  exact ⟨Y1, G1, i1, by rw [HFn1.out]; rfl, HW1.out.after HB0.out⟩
/-- What ways through alternatives come to. -/
def AltR (w : World) (base R : Nat) (Y : Lay) (F : Nat → Nat → Prop) (G : List Nd) (L : List Ex) (nx : Nat) (r : Ending) (w' : World) : Prop := ∃ a c Y' G' ys, r = .returned (.slice a L.length c) ∧ AltI w base R Y F G L nx L.length (.slice a L.length c) w' Y' G' ys
set_option maxRecDepth 10000 in
set_option maxHeartbeats 1600000 in
theorem eachWay_any (L : List Ex) (IH : ∀ e, e ∈ L → WayP e) (w : World) (base R : Nat) (Y : Lay) (F : Nat → Nat → Prop) (G : List Nd) (nx r n : Nat) (c : Option Addr) (cc : Nat) (vs : Nat → EV) (hl : L.length ≤ 1000000) (hF : ∀ i b, G.length ≤ i → w.heap.size ≤ b → F i b) (hB : Bd w base R Y F G) (hnx : nx < G.length) (hb : base ≤ w.heap.size)
    (hL : ∀ i, i < L.length → ∃ g off, c = some ⟨g, off, none⟩ ∧ g < base ∧ Five w g (off + i * 5) (vs i)) (hR : ∀ i (h : i < L.length), ExIs w (fun g => g < base) L[i] (vs i)) (hr : row w r (ptr R) 101) (hn : row w n (Y.val nx) 90) :
    Calls Tryd.prog 69 #[.slice c L.length cc, .func (.func 70) #[] #[.pointer (some ⟨r, 0, none⟩), .pointer (some ⟨n, 0, none⟩)]] w fun e' w' => AltR w base R Y F G L nx e' w' := by
  obtain ⟨i0, hi, hz0, hz1, hz2⟩ := info_parts infoWay
  have HIH := hid0 IH
  have HF := hid0 hF
  have HL := hid0 hL
  have HR := hid0 hR
  have HR0 := hid0 hr
  have HN0 := hid0 hn
  have H0 : Hid (AltI w base R Y F G L nx 0 (.slice none 0 0) w Y G []) := hid0 ⟨rfl, Nat.zero_le _, fun y hy => (by cases hy), Ext.refl _ _, hB.mono (fun i b _ _ h => ⟨h, by simp [Value.ownBlock]⟩), fun i hi => absurd hi (Nat.not_lt_zero _), fun j hj => by rw [List.getElem?_eq_none hj]; simp, by omega, World.ownsRow_nil _ _ _ _, Below.refl _ _⟩
  clear hF hB hL hR hr hn IH
  go_enter Tryd.func69, Tryd.ntmps69
  go_wp2
  go_loopw [5, 7, 10] (fun v _ i wr => ∃ (k : Nat) (Y' : Lay) (G' : List Nd) (ys : List Nat), k ≤ L.length ∧ i = .int .i64 (k : Int) ∧ Hid (AltI w base R Y F G L nx k v wr Y' G' ys)) (fun _ _ i _ => L.length - (intOf i).toNat)
  case atStart => exact ⟨0, Y, G, [], Nat.zero_le _, rfl, H0⟩
  case round =>
    clear H0
    obtain ⟨k, Y', G', ys, hk, rfl, HI⟩ := hrel
    by_cases hlt : k < L.length
    · have hkI : (k : Int) < (L.length : Int) := by omega
      have hkI0 : (0 : Int) ≤ (k : Int) := by omega
      obtain ⟨g, off, rfl, hg, h5⟩ := HL.out k hlt
      have hp := HR.out k hlt
      have hbw := HI.out.bel
      obtain ⟨k5, t5, a5, m5, c5, b5, n5, d5, g5, l5, e5, hv5⟩ : ∃ k5 t5 a5 m5 c5 b5 n5 d5 g5 l5 e5, vs k = ⟨.int .i64 k5, .bool t5, .slice a5 m5 c5, .slice b5 n5 d5, .slice g5 l5 e5⟩ := by
        cases hLk : L[k] with
        | mk k5 t5 N5 P5 L5 =>
          rw [hLk] at hp
          obtain ⟨a5, c5, b5, d5, g5, e5, hv, _⟩ := hp.shape
          exact ⟨k5, t5, a5, _, c5, b5, _, d5, g5, _, e5, hv⟩
      rw [hv5] at h5 hp
      obtain ⟨q0, q1, q2, q3, q4⟩ := h5.keeps (Q := fun g => g < base) hg (Keeps.ofBelow (hbw.mono hb))
      obtain ⟨w1, hw1⟩ : ∃ w1, wr.alloc (.cells #[.int .i64 k5, .bool t5, .slice a5 m5 c5, .slice b5 n5 d5, .slice g5 l5 e5] 28) = w1 := ⟨_, rfl⟩
      have hb1 : Below wr.heap.size wr w1 := by rw [← hw1]; exact (Below.refl _ _).alloc (Nat.le_refl _) _
      have r1 : w1.heap[wr.heap.size]? = some (.cells #[.int .i64 k5, .bool t5, .slice a5 m5 c5, .slice b5 n5 d5, .slice g5 l5 e5] 28 (0, 0)) := by rw [← hw1]; exact heap_alloc_new wr _
      have x0 : w1.cell? ⟨wr.heap.size, 0, none⟩ = some (.int .i64 k5) := by rw [cell_of_row _ _ _ _ _ _ r1]; rfl
      have x1 : w1.cell? ⟨wr.heap.size, 1, none⟩ = some (.bool t5) := by rw [cell_of_row _ _ _ _ _ _ r1]; rfl
      have x2 : w1.cell? ⟨wr.heap.size, 2, none⟩ = some (.slice a5 m5 c5) := by rw [cell_of_row _ _ _ _ _ _ r1]; rfl
      have x3 : w1.cell? ⟨wr.heap.size, 3, none⟩ = some (.slice b5 n5 d5) := by rw [cell_of_row _ _ _ _ _ _ r1]; rfl
      have x4 : w1.cell? ⟨wr.heap.size, 4, none⟩ = some (.slice g5 l5 e5) := by rw [cell_of_row _ _ _ _ _ _ r1]; rfl
      have HI1 := hid0 (HI.out.past hb hb1)
      have hbw1 := HI1.out.bel
      have hnv : Y'.val nx = Y.val nx := HI1.out.ext.val nx hnx
      have HC := hid0 (through2 L[k] (HIH.out _ (List.getElem_mem hlt)) w1 base R Y' (fun i b => F i b ∧ u5.ownBlock ≠ some b) G' nx r n k5 t5 a5 m5 c5 b5 n5 d5 g5 l5 e5 (fun i b h1 h2 => ⟨HF.out i b (Nat.le_trans HI1.out.ext.len h1) (Nat.le_trans hbw1.size h2), fun e => by have := (World.ownsRow.lt HI1.out.own b e).2; omega⟩) HI1.out.bd (Nat.lt_of_lt_of_le hnx HI1.out.ext.len) (hp.keeps (Keeps.ofBelow (hbw1.mono hb))) (Nat.le_trans hb hbw1.size) ((hbw1.block _ (lt_of_row HR0.out)).trans HR0.out) (by rw [hnv]; exact (hbw1.block _ (lt_of_row HN0.out)).trans HN0.out))
      obtain ⟨av, cv, rfl⟩ : ∃ av cv, u5 = .slice av k cv := by
        rcases HI1.out.own.2 with ⟨rfl, e⟩ | ⟨g, cap', cur, rfl, _⟩
        · exact ⟨none, 0, by rw [e]⟩
        · exact ⟨_, _, rfl⟩
      clear hb1 r1 hbw hbw1 hnv h5 hp hv5 HI
      go_wp2_with (first
        | (go_at_call 70; refine HC.out.mono ?_; rintro e' w2 ⟨Y2, G2, i2, he2, hW2⟩
           obtain ⟨fn2, fx2, fy2, hfn2⟩ := (hW2.bd.g.node i2 _ (List.getElem?_eq_getElem hW2.lt)).func
           rw [hfn2] at he2
           subst he2
           have HW2 := hid0 hW2
           have HFn2 := hid0 hfn2
           have HOk := hid0 (own_blk HI1.out.own (fun g hg => hW2.bel.block g (World.ownsRow.lt HI1.out.own g hg).2))
           have hsz : w.heap.size ≤ w2.heap.size := Nat.le_trans HI1.out.bel.size hW2.bel.size
           clear hW2 hfn2 hw1 x0 x1 x2 x3 x4)
        | (at_builtin; go_loud ((
             refine wpList_append_own_at _ (by rfl) _ _ 109 (by rfl) w.heap.size 90 i0 .nilFunc 1 8 Tryd.underlying109 hi hz0 hz1 hz2 rfl (by decide) (.slice av k cv) k (ys.map Y'.val) (by rfl) (World.ownsRow.alloc HOk.out _) ⟨w2.heap.size, 0, none⟩ 1 1 [.func fn2 fx2 fy2] (by rfl) (by rfl) (cell_one_new w2 _ _) (fun u hu => by rw [List.mem_singleton.1 hu]; rfl) (by unfold maxLen; omega) (by omega) (by simp; omega) ?_
             intro v4 w4 hown4 hgrow4 _ hat4
             have HI4 := hid0 (AltI.snoc HI1.out hb hlt HW2.out ((Below.refl _ w2).alloc (Nat.le_refl _) _) hgrow4 (by rw [HFn2.out]; exact hown4) hat4)
             clear hown4 hgrow4 hat4)))
        | fail)
      go_roundw
      case rel => exact ⟨k + 1, Y2, G2, ys ++ [i2], by omega, by go_num, HI4⟩
      case measure => simp [intOf]; omega
    · have hkI : ¬ (k : Int) < (L.length : Int) := by omega
      obtain rfl : k = L.length := by omega
      obtain ⟨av, cv, rfl⟩ : ∃ av cv, u5 = .slice av L.length cv := by
        rcases HI.out.own.2 with ⟨rfl, e⟩ | ⟨g, cap', cur, rfl, _⟩
        · exact ⟨none, 0, by rw [e]⟩
        · exact ⟨_, _, rfl⟩
      go_wp2
      go_ret
      exact ⟨av, cv, Y', G', ys, rfl, HI.out⟩
end Go.Proofs.YtiapefdklojhdaaDoor
namespace Go.Proofs.YtiapefdklojhdaaDoor
open Go.RowKit Go.Shelf
theorem alt_done {w w0 w1 w2 : World} {base R : Nat} {Y Y1 : Lay} {F : Nat → Nat → Prop} {G G1 : List Nd} {L : List Ex} {nx : Nat} {nt : Bool} {N : List ByteArray} {P : List (Int × Int)} {a : Option Addr} {c : Nat} {ys : List Nat} {fv : Value} (hl : L.length ≤ 1000000) (hF : ∀ i b, G.length ≤ i → w.heap.size ≤ b → F i b) (hb : base ≤ w.heap.size) (hb0 : Below w.heap.size w w0)
    (hA : AltI w0 base R Y F G L nx L.length (.slice a L.length c) w1 Y1 G1 ys) (h2 : w2 = ((w1.alloc (.cells #[.slice a L.length c] 109)).alloc (.cells #[forkF w1.heap.size] 90)).alloc (.cells #[.int .i64 (-1)] 3)) (hf : fv = onceV (w1.heap.size + 2) (w1.heap.size + 1)) :
    ∃ Y' G' i, Ending.returned fv = .returned (Y'.val i) ∧ Wayed w base R Y F G (.mk 4 nt N P L) nx w2 Y' G' i := by
  have s0 := hb0.size
  have s1 := hA.bel.size
  have hlen := hA.ext.len
  obtain ⟨Y', hv', hB', hE', bel⟩ := (hA.bd.mono (fun i b _ _ h => h.1)).fork (by omega) (.slice a L.length c) ys (by rw [hA.len]; exact hl) hA.lt
    (own_wa (by rw [List.length_map, hA.len]; exact hA.own) (fun b hb' => hF _ _ hlen (by omega))) (fun b hb' => hF _ _ hlen (by omega)) h2
  refine ⟨Y', G1 ++ [.fork ys], G1.length, by rw [hv', hf], ⟨by simp, hA.ext.trans hE', hB', .alt nt N P L nx G1.length ys (by simp) hA.len (fun i hi => hE'.built (hA.built i hi)), hole_snoc hA.holes _ (by simp), ?_, Below.later (Below.later hb0 hA.bel) bel⟩⟩
  have := hA.size
  rw [List.take_length] at this
  rw [List.length_append, List.length_singleton, Ex.size_mk]
  omega
set_option maxRecDepth 10000 in
set_option maxHeartbeats 1600000 in
theorem way_alt (nt : Bool) (N : List ByteArray) (P : List (Int × Int)) (L : List Ex) (hl : L.length ≤ 1000000) (IH : ∀ e, e ∈ L → WayP e) : WayP (.mk 4 nt N P L) := by
  intro w base R Y F G nx x hF hB hnx hx hb
  obtain ⟨a, ca, b, cb, c, cc, rfl, hsq, hrq, lN, lP, lL, vs, hel, hpt⟩ := hx.shape
  obtain ⟨fn, fx, fy, hfn⟩ := (hB.g.node nx _ (List.getElem?_eq_getElem hnx)).func
  obtain ⟨w0, hw0, hs0, hb0, r0, r1, r2⟩ := box3 w R (Y.val nx) ⟨.int .i64 4, .bool nt, .slice a N.length ca, .slice b P.length cb, .slice c L.length cc⟩
  have HC := hid0 (eachWay_any L IH w0 base R Y F G nx w.heap.size (w.heap.size + 2) c cc vs hl (fun i b h1 h2 => hF i b h1 (Nat.le_trans hb0.size h2)) (hB.later hb hb0) hnx (Nat.le_trans hb hb0.size) (fun i hi => by
    obtain ⟨g, off, e, hg, h5⟩ := hel i hi
    exact ⟨g, off, e, hg, h5.keeps (Q := fun g => g < base) hg (Keeps.ofBelow (hb0.mono hb))⟩) (fun i hi => (hpt i hi).keeps (Keeps.ofBelow (hb0.mono hb))) r0 r2)
  have hmf : ∀ (fn : Fn) (first cap : Array Value) (w : World), (Instr.makeFunc fn first cap).run Tryd.prog w = .ok (.func fn first cap) w := fun _ _ _ _ => rfl
  rw [hfn] at hw0 r2 ⊢
  have c0 : w0.cell? ⟨w.heap.size + 1, 0, none⟩ = some (.int .i64 4) := by rw [cell_of_row _ _ _ _ _ _ r1]; rfl
  have c4 : w0.cell? ⟨w.heap.size + 1, 4, none⟩ = some (.slice c L.length cc) := by rw [cell_of_row _ _ _ _ _ _ r1]; rfl
  have hf := hw0.symm
  simp only at hf
  unfold EV.v
  have HFF := hid0 hF
  have HB0 := hid0 hb0
  clear hw0 hx hB r0 r1 r2 hb0 hsq hrq hF hel hpt
  go_enter Tryd.func53, Tryd.ntmps53
  go_wp2_with (first
    | (go_at_call 69; refine HC.out.mono ?_; rintro e' w1 ⟨a1, c1, Y1, G1, ys, rfl, hA1⟩; have HA1 := hid0 hA1; clear hA1 hf c0 c4)
    | (go_at_call 68; refine (fork_new _ _ _ _).mono ?_; rintro e' w2 ⟨rfl, hw2⟩; have HW2 := hid0 hw2; clear hw2)
    | fail)
  go_ret
  exact alt_done hl HFF.out hb HB0.out HA1.out HW2.out (by simp)
/-- Ways can be made of every such expression. -/
theorem way_good {e : Ex} (h : Good e) : WayP e := by
  induction h with
  | none nt N P L => exact way_none nt N P L
  | set nt N P L hN hP => exact way_set nt N P L hN hP
  | seq nt N P L hl _ ih => exact way_seq nt N P L ih
  | alt nt N P L hl _ ih => exact way_alt nt N P L hl ih
  | star nt N P e _ ih => exact way_star nt N P e ih
  | plus nt N P e _ ih => exact way_plus nt N P e ih
  | opt nt N P e _ ih => exact way_opt nt N P e ih
end Go.Proofs.YtiapefdklojhdaaDoor
namespace Go.Proofs.YtiapefdklojhdaaDoor
open Go.RowKit Go.Shelf
theorem ExIs.form {w : World} {Q : Nat → Prop} {e : Ex} {x : EV} (h : ExIs w Q e x) : x.k = .int .i64 e.kind ∧ (∃ b, x.t = .bool b) ∧ (∃ a m c, x.n = .slice a m c) ∧ (∃ a m c, x.p = .slice a m c) ∧ ∃ a m c, x.r = .slice a m c := by
  cases h with
  | mk k nt N P L a ca b cb c cc vs => exact ⟨rfl, ⟨_, rfl⟩, ⟨_, _, _, rfl⟩, ⟨_, _, _, rfl⟩, _, _, _, rfl⟩
/-- Parts in memory, and what they are. -/
structure LA (w : World) (Q : Nat → Prop) (c : Option Addr) (L : List Ex) (vs : Nat → EV) : Prop where
  at' : ∀ i, i < L.length → ∃ g off, c = some ⟨g, off, none⟩ ∧ Q g ∧ Five w g (off + i * 5) (vs i)
  is : ∀ i (h : i < L.length), ExIs w Q L[i] (vs i)
theorem LA.keeps {w w' : World} {Q : Nat → Prop} {c : Option Addr} {L : List Ex} {vs : Nat → EV} (h : LA w Q c L vs) (k : Keeps Q w w') : LA w' Q c L vs :=
  ⟨fun i hi => by
    obtain ⟨g, off, e, hg, h5⟩ := h.at' i hi
    exact ⟨g, off, e, hg, h5.keeps hg k⟩, fun i hi => (h.is i hi).keeps k⟩
theorem Keeps.past {Q : Nat → Prop} {w w' : World} (h : Below w.heap.size w w') : Keeps Q w w' := ⟨h.size, fun g o _ hl => h.cell (p := ⟨g, o, none⟩) hl⟩
theorem hasK_iff (L : List Ex) (q : Int) : hasK L q = true ↔ ∃ k, ∃ h : k < L.length, L[k].kind = q := by
  unfold hasK
  rw [List.any_eq_true]
  constructor
  · rintro ⟨s, hs, h⟩
    obtain ⟨k, hk, rfl⟩ := List.getElem_of_mem hs
    exact ⟨k, hk, of_decide_eq_true h⟩
  · rintro ⟨k, hk, h⟩
    exact ⟨L[k], List.getElem_mem hk, decide_eq_true h⟩
set_option maxRecDepth 10000 in
set_option maxHeartbeats 800000 in
theorem index_kind (L : List Ex) (c : Option Addr) (cc : Nat) (vs : Nat → EV) (Q : Nat → Prop) (q : Int) (g : Nat) (w : World) (hl : L.length ≤ 1000000000) (ha : LA w Q c L vs) (hg : w.cell? ⟨g, 0, none⟩ = some (.int .i64 q)) :
    Calls Tryd.prog 93 #[.slice c L.length cc, .func (.func 77) #[] #[.pointer (some ⟨g, 0, none⟩)]] w fun e w' => (∃ r : Int, e = .returned (.int .i64 r) ∧ (0 ≤ r ↔ hasK L q = true)) ∧ Below w.heap.size w w' := by
  have hgl := World.block_lt_of_cell? w _ hg
  have HG : Hid (∀ W, Below w.heap.size w W → W.cell? ⟨g, 0, none⟩ = some (.int .i64 q)) := hid0 (fun W hW => (hW.cell (p := ⟨g, 0, none⟩) hgl).trans hg)
  have HA := hid0 ha
  have HB0 := hid0 (Below.refl w.heap.size w)
  clear ha hg hgl
  go_enter Tryd.func93, Tryd.ntmps93
  go_wp2
  go_loopw [8] (fun v wr => ∃ i : Nat, i ≤ L.length ∧ v = .int .i64 (i : Int) ∧ Hid (∀ k (h : k < L.length), k < i → L[k].kind ≠ q) ∧ Hid (Below w.heap.size w wr)) (fun v _ => L.length - (intOf v).toNat)
  case atStart => exact ⟨0, Nat.zero_le _, rfl, hid0 (fun k _ h => absurd h (Nat.not_lt_zero _)), HB0⟩
  case round =>
    obtain ⟨i, hi, rfl, HN, HB⟩ := hrel
    by_cases hlt : i < L.length
    · have hiI : (i : Int) < (L.length : Int) := by omega
      have hi0 : (0 : Int) ≤ (i : Int) := by omega
      have hla := HA.out.keeps (Keeps.past HB.out)
      obtain ⟨b, off, rfl, _, e0, e1, e2, e3, e4⟩ := hla.at' i hlt
      obtain ⟨f0, f1, f2, f3, f4⟩ := (hla.is i hlt).form
      have HS := hid0 (kind_is L[i].kind q (vs i).t (vs i).n (vs i).p (vs i).r g wr f1 f2 f3 f4 (HG.out _ HB.out))
      rw [f0] at e0
      have HD : Hid (L[i].kind = q → hasK L q = true) := hid0 (fun h => (hasK_iff L q).2 ⟨i, hlt, h⟩)
      have HN2 : Hid (L[i].kind ≠ q → ∀ k (h : k < L.length), k < i + 1 → L[k].kind ≠ q) := hid0 (fun hne k h hk => by
        by_cases e : k = i
        · subst e; exact hne
        · exact HN.out k h (by omega))
      generalize L[i].kind = l at *
      generalize (vs i).t = xt at *
      generalize (vs i).n = xn at *
      generalize (vs i).p = xp at *
      generalize (vs i).r = xr at *
      clear hla f0 f1 f2 f3 f4
      cases hd : decide (l = q) with
      | true =>
        rw [hd] at HS
        have HV := hid0 (HD.out (of_decide_eq_true hd))
        clear HD HN2 HN hd
        go_wp2_with (go_at_call 77; refine HS.out.mono ?_; rintro e w1 ⟨rfl, hb1⟩; have HB1 := hid0 (HB.out.trans (hb1.mono HB.out.size)); clear hb1)
        go_ret
        exact ⟨⟨_, rfl, by simp [HV.out]⟩, HB1.out⟩
      | false =>
        rw [hd] at HS
        have HV := hid0 (HN2.out (of_decide_eq_false hd))
        clear HD HN2 HN hd
        go_wp2_with (go_at_call 77; refine HS.out.mono ?_; rintro e w1 ⟨rfl, hb1⟩; have HB1 := hid0 (HB.out.trans (hb1.mono HB.out.size)); clear hb1)
        go_roundw
        case rel => exact ⟨i + 1, by omega, by go_num, HV, HB1⟩
        case measure => simp [intOf]; omega
    · have hiI : ¬ (i : Int) < (L.length : Int) := by omega
      have HV : Hid (hasK L q = false) := hid0 (by
        rw [Bool.eq_false_iff]
        intro h
        obtain ⟨k, hk, e⟩ := (hasK_iff L q).1 h
        exact HN.out k hk (by omega) e)
      clear HN HA
      go_wp2
      go_ret
      exact ⟨⟨-1, rfl, by simp [HV.out]⟩, HB.out⟩
set_option maxRecDepth 10000 in
set_option maxHeartbeats 400000 in
theorem contains_kind (L : List Ex) (c : Option Addr) (cc : Nat) (vs : Nat → EV) (Q : Nat → Prop) (q : Int) (g : Nat) (w : World) (hl : L.length ≤ 1000000000) (ha : LA w Q c L vs) (hg : w.cell? ⟨g, 0, none⟩ = some (.int .i64 q)) :
    Calls Tryd.prog 76 #[.slice c L.length cc, .func (.func 77) #[] #[.pointer (some ⟨g, 0, none⟩)]] w fun e w' => e = .returned (.bool (hasK L q)) ∧ Below w.heap.size w w' := by
  have H := hid0 (index_kind L c cc vs Q q g w hl ha hg)
  clear ha
  go_enter Tryd.func76, Tryd.ntmps76
  go_wp2_with (go_at_call 93; refine H.out.mono ?_; rintro e w1 ⟨⟨r, rfl, hr⟩, hb⟩)
  go_ret
  refine ⟨?_, hb⟩
  cases hq : hasK L q <;> simp [hq] at hr ⊢ <;> omega
set_option maxRecDepth 10000 in
set_option maxHeartbeats 800000 in
theorem hasPart_any (k : Int) (t : Bool) (a b c : Option Addr) (n ca m cb cc : Nat) (L : List Ex) (vs : Nat → EV) (Q : Nat → Prop) (q : Int) (w : World) (hl : L.length ≤ 1000000000) (ha : LA w Q c L vs) :
    Calls Tryd.prog 64 #[.agg #[.int .i64 k, .bool t, .slice a n ca, .slice b m cb, .slice c L.length cc], .int .i64 q] w fun e w' => e = .returned (.bool (hasK L q)) ∧ Below w.heap.size w w' := by
  obtain ⟨w0, hw0⟩ : ∃ w0, w0 = (w.alloc (.cells #[.int .i64 k, .bool t, .slice a n ca, .slice b m cb, .slice c L.length cc] 28)).alloc (.cells #[.int .i64 q] 3) := ⟨_, rfl⟩
  have hB0 : Below w.heap.size w w0 := by rw [hw0]; exact ((Below.refl _ _).alloc (Nat.le_refl _) _).alloc (by simp) _
  have hX0 : w0.heap[w.heap.size]? = some (.cells #[.int .i64 k, .bool t, .slice a n ca, .slice b m cb, .slice c L.length cc] 28 (0, 0)) := by
    rw [hw0]
    exact (Below.heap_alloc _ _ _ (by simp)).trans (heap_alloc_new w _)
  have hX1 : w0.heap[w.heap.size + 1]? = some (.cells #[.int .i64 q] 3 (0, 0)) := by
    rw [hw0]
    have h := heap_alloc_new (w.alloc (.cells #[.int .i64 k, .bool t, .slice a n ca, .slice b m cb, .slice c L.length cc] 28)) (.cells #[.int .i64 q] 3)
    rw [show (w.alloc (.cells #[.int .i64 k, .bool t, .slice a n ca, .slice b m cb, .slice c L.length cc] 28)).heap.size = w.heap.size + 1 by simp] at h
    exact h
  have x4 : w0.cell? ⟨w.heap.size, 4, none⟩ = some (.slice c L.length cc) := by rw [cell_of_row _ _ _ _ _ _ hX0]; rfl
  have y0 : w0.cell? ⟨w.heap.size + 1, 0, none⟩ = some (.int .i64 q) := by rw [cell_of_row _ _ _ _ _ _ hX1]; rfl
  have H := hid0 (contains_kind L c cc vs Q q (w.heap.size + 1) w0 hl (ha.keeps (Keeps.past hB0)) y0)
  have hmf : ∀ (fn : Fn) (first cap : Array Value) (w : World), (Instr.makeFunc fn first cap).run Tryd.prog w = .ok (.func fn first cap) w := fun _ _ _ _ => rfl
  have HB0 := hid0 hB0
  have hf := hw0.symm
  clear ha hw0 hX0 hX1 hB0
  go_enter Tryd.func64, Tryd.ntmps64
  go_wp2_with (go_at_call 76; refine H.out.mono ?_; rintro e w1 ⟨rfl, hb1⟩)
  go_ret
  exact ⟨rfl, Below.later HB0.out hb1⟩
end Go.Proofs.YtiapefdklojhdaaDoor
