/-
  ExTaW, ExSW, ExAW, ExTW, ShelfN, ExNmW, ExNbW, ExJW, ExKW, ExRM.
-/
import Derived.Test.YtiapefdklojhdaaDoorMpa
import Derived.Deep.RegionHeldLaw
import Derived.Lib.SmallJoins
import Derived.RegionDies
import Derived.Shelf.Small.Strs
import Derived.Shelf.Small.Wraps
import Derived.Shelf.Strings.SlTrimAscii
import Derived.Shelf.Spec.SearchS
import Derived.Ground.Names2Prog
import Derived.Test.YtiapefdklojhdaaDoorProg
import Derived.Sort.Walk0
namespace Go.Proofs.YtiapefdklojhdaaDoor
open Go.RowKit Go.Shelf
def pickN (k : Int) (n : Nat) : Nat := (if k.tmod n < 0 then k.tmod n + n else k.tmod n).toNat
theorem pickN_lt (k : Int) (n : Nat) (hn : 0 < n) : pickN k n < n := by
  have hm1 := Int.tmod_lt_of_pos k (b := (n : Int)) (by omega)
  have hm2 : -(n : Int) < k.tmod n := by
    have := Int.tmod_lt_of_pos (-k) (b := (n : Int)) (by omega)
    rw [Int.neg_tmod] at this
    omega
  unfold pickN
  split <;> omega
set_option maxRecDepth 10000 in
set_option maxHeartbeats 400000 in
theorem pick_at (k : Int) (n : Nat) (hn : 0 < n) (hn2 : n ≤ 2000000) (w : World) :
    Calls Tryd.prog 20 #[.int .i64 k, .int .i64 (n : Int)] w fun e w' => e = .returned (.int .i64 (pickN k n : Nat)) ∧ w' = w := by
  have hm1 := Int.tmod_lt_of_pos k (b := (n : Int)) (by omega)
  have hm2 : -(n : Int) < k.tmod n := by
    have := Int.tmod_lt_of_pos (-k) (b := (n : Int)) (by omega)
    rw [Int.neg_tmod] at this
    omega
  have hz : ((n : Int) == 0) = false := by simp; omega
  have hz2 : ¬ (n : Int) = 0 := by omega
  have hz3 : ¬ (n : Int) < 1 := by omega
  by_cases hneg : k.tmod n < 0
  · have HE : Hid (((pickN k n : Nat) : Int) = k.tmod n + n) := hid0 (by rw [pickN, if_pos hneg]; omega)
    go_enter Tryd.func20, Tryd.ntmps20
    go_wp2
    go_ret
    exact ⟨by rw [HE.out]; rfl, rfl⟩
  · have HE : Hid (((pickN k n : Nat) : Int) = k.tmod n) := hid0 (by rw [pickN, if_neg hneg]; omega)
    go_enter Tryd.func20, Tryd.ntmps20
    go_wp2
    go_ret
    exact ⟨by rw [HE.out]; rfl, rfl⟩
def abc (k : Nat) : ByteArray := if k = 0 then ⟨#[65]⟩ else if k = 1 then ⟨#[66]⟩ else ⟨#[67]⟩
def oddN (N : List ByteArray) (k : Nat) : Bool := match N[k]? with | some s => s.size % 2 == 1 | none => false
/-- The names of a set that may be, out of any. -/
def nmK (N : List ByteArray) : Nat → List ByteArray
  | 0 => []
  | k + 1 => nmK N k ++ (if oddN N k then [abc k] else [])
def ptK (P : List (Int × Int)) : List (Int × Int) := match P with
  | [] => []
  | r :: _ => [((pickN r.1 100 : Nat), (pickN r.1 100 : Nat) + (pickN r.2 9 : Nat))]
/-- What the making of a set holds. -/
structure SO (w W : World) (nt : Bool) (sN sP v : Value) (N : List ByteArray) (k : Nat) : Prop where
  bel : Below w.heap.size w W
  r0 : W.heap[w.heap.size]? = some (.cells #[.bool nt, sN, sP] 25 (0, 0))
  r1 : W.heap[w.heap.size + 1]? = some (.cells #[.bool false, .slice none 0 0, .slice none 0 0] 25 (0, 0))
  r2 : W.heap[w.heap.size + 1 + 1]? = some (.cells #[.bool nt, v, .slice none 0 0] 25 (0, 0))
  r3 : W.heap[w.heap.size + 1 + 1 + 1]? = some (.cells #[.string ⟨#[65]⟩, .string ⟨#[66]⟩, .string ⟨#[67]⟩] 9 (0, 0))
  own : OwnS W (w.heap.size + 4) v (nmK N k)
  sz : w.heap.size + 4 ≤ W.heap.size
theorem row3 {W : World} {X : Nat} {t : TypeId} {a b c : Value} (h : W.heap[X]? = some (.cells #[a, b, c] t (0, 0))) : (W.cell? ⟨X, 0, none⟩ = some a ∧ W.cell? ⟨X, 1, none⟩ = some b ∧ W.cell? ⟨X, 2, none⟩ = some c) ∧ (W.frozen? ⟨X, 0, none⟩ = false ∧ W.frozen? ⟨X, 1, none⟩ = false ∧ W.frozen? ⟨X, 2, none⟩ = false) :=
  ⟨⟨by rw [cell_of_row _ _ _ _ _ _ h]; rfl, by rw [cell_of_row _ _ _ _ _ _ h]; rfl, by rw [cell_of_row _ _ _ _ _ _ h]; rfl⟩, by simp [World.frozen?, h], by simp [World.frozen?, h], by simp [World.frozen?, h]⟩
theorem nmK_len (N : List ByteArray) : ∀ k, (nmK N k).length ≤ k
  | 0 => Nat.le_refl _
  | k + 1 => by
    have := nmK_len N k
    unfold nmK
    rw [List.length_append]
    split <;> simp <;> omega
theorem SO.first (w : World) (nt : Bool) (sN sP : Value) (N : List ByteArray) (W : World) (hW : W = (((w.alloc (.cells #[.bool nt, sN, sP] 25)).alloc (.cells #[.bool false, .slice none 0 0, .slice none 0 0] 25)).alloc (.cells #[.bool nt, .slice none 0 0, .slice none 0 0] 25)).alloc (.cells #[.string ⟨#[65]⟩, .string ⟨#[66]⟩, .string ⟨#[67]⟩] 9)) : SO w W nt sN sP (.slice none 0 0) N 0 := by
  obtain ⟨wa, hwa⟩ : ∃ wa, wa = w.alloc (.cells #[.bool nt, sN, sP] 25) := ⟨_, rfl⟩
  obtain ⟨wb, hwb⟩ : ∃ wb, wb = wa.alloc (.cells #[.bool false, .slice none 0 0, .slice none 0 0] 25) := ⟨_, rfl⟩
  obtain ⟨wc, hwc⟩ : ∃ wc, wc = wb.alloc (.cells #[.bool nt, .slice none 0 0, .slice none 0 0] 25) := ⟨_, rfl⟩
  have sa : wa.heap.size = w.heap.size + 1 := by rw [hwa]; simp
  have sb : wb.heap.size = w.heap.size + 1 + 1 := by rw [hwb]; simp [sa]
  have sc : wc.heap.size = w.heap.size + 1 + 1 + 1 := by rw [hwc]; simp [sb]
  have hW2 : W = wc.alloc (.cells #[.string ⟨#[65]⟩, .string ⟨#[66]⟩, .string ⟨#[67]⟩] 9) := by rw [hW, hwc, hwb, hwa]
  refine ⟨by rw [hW]; exact ((((Below.refl _ _).alloc (Nat.le_refl _) _).alloc (by simp) _).alloc (by simp; omega) _).alloc (by simp; omega) _, ?_, ?_, ?_, ?_, World.ownsRow_nil _ _ _ _, by rw [hW2]; simp [sc]⟩
  · rw [hW2, Below.heap_alloc wc _ _ (by omega), hwc, Below.heap_alloc wb _ _ (by omega), hwb, Below.heap_alloc wa _ _ (by omega), hwa]; exact heap_alloc_new w _
  · rw [hW2, Below.heap_alloc wc _ _ (by omega), hwc, Below.heap_alloc wb _ _ (by omega), hwb, ← sa]; exact heap_alloc_new wa _
  · rw [hW2, Below.heap_alloc wc _ _ (by omega), hwc, ← sb]; exact heap_alloc_new wb _
  · rw [hW2, ← sc]; exact heap_alloc_new wc _
theorem SO.cells {w W : World} {nt : Bool} {sN sP v : Value} {N : List ByteArray} {k : Nat} (h : SO w W nt sN sP v N k) : W.cell? ⟨w.heap.size, 1, none⟩ = some sN ∧ W.cell? ⟨w.heap.size, 2, none⟩ = some sP ∧ W.cell? ⟨w.heap.size + 1 + 1, 1, none⟩ = some v ∧ W.frozen? ⟨w.heap.size + 1 + 1, 1, none⟩ = false ∧ (∀ j, j < 3 → W.cell? ⟨w.heap.size + 1 + 1 + 1, j, none⟩ = some (.string (abc j))) := by
  obtain ⟨⟨_, a1, a2⟩, _⟩ := row3 h.r0
  obtain ⟨⟨_, b1, _⟩, _, f1, _⟩ := row3 h.r2
  obtain ⟨⟨c0, c1, c2⟩, _⟩ := row3 h.r3
  refine ⟨a1, a2, b1, f1, fun j hj => ?_⟩
  rcases (show j = 0 ∨ j = 1 ∨ j = 2 by omega) with rfl | rfl | rfl
  · exact c0
  · exact c1
  · exact c2
theorem SO.same {w W : World} {nt : Bool} {sN sP v : Value} {N : List ByteArray} {k : Nat} (h : SO w W nt sN sP v N k) (ho : oddN N k = false) : SO w W nt sN sP v N (k + 1) :=
  ⟨h.bel, h.r0, h.r1, h.r2, h.r3, by have := h.own; unfold nmK; rw [ho]; simpa using this, h.sz⟩
theorem SO.snoc {w W w2 : World} {nt : Bool} {sN sP v v2 : Value} {N : List ByteArray} {k : Nat} (h : SO w W nt sN sP v N k) (ho : oddN N k = true) (hg : (W.alloc (.cells #[.string (abc k)] 9)).drew.grownBy w2 v.ownBlock) (hown : w2.ownsRow (w.heap.size + 4) 9 1 v2 ((nmK N k).length + 1) (cellsS (nmK N k) ++ [.string (abc k)])) :
    SO w (w2.setCell ⟨w.heap.size + 1 + 1, 1, none⟩ v2) nt sN sP v2 N (k + 1) ∧ w2.cell? ⟨w.heap.size + 1 + 1, 1, none⟩ = some v ∧ w2.frozen? ⟨w.heap.size + 1 + 1, 1, none⟩ = false ∧ (∀ j, j < 3 → w2.cell? ⟨w.heap.size + 1 + 1 + 1, j, none⟩ = some (.string (abc j))) := by
  have hz := h.sz
  have hlow : ∀ q, v.ownBlock = some q → w.heap.size + 4 ≤ q := fun q hq => (World.ownsRow.lt h.own q hq).1
  have key : ∀ b, b < w.heap.size + 4 → w2.heap[b]? = W.heap[b]? := fun b hb => by
    rw [hg.block b (by show b < (W.alloc _).heap.size; simp; omega) (fun q => by have := hlow b q.symm; omega)]
    exact Below.heap_alloc W _ b (by omega)
  have bel2 : Below w.heap.size w w2 := ((h.bel.alloc h.bel.size _).drew).grown hg (by simp; omega) (fun q hq => by have := hlow q hq; omega)
  have e2 := (key _ (by omega : w.heap.size + 1 + 1 < w.heap.size + 4)).trans h.r2
  have e3 := (key _ (by omega : w.heap.size + 1 + 1 + 1 < w.heap.size + 4)).trans h.r3
  obtain ⟨⟨_, b1, _⟩, _, f1, _⟩ := row3 e2
  refine ⟨⟨bel2.setCell (p := ⟨w.heap.size + 1 + 1, 1, none⟩) (by simp; omega) _, ?_, ?_, heap_setCell_same _ _ 1 _ _ v2 e2, ?_, ?_, ?_⟩, b1, f1, fun j hj => ?_⟩
  · rw [Below.heap_setCell _ _ _ _ (by simp <;> omega)]; exact (key _ (by omega)).trans h.r0
  · rw [Below.heap_setCell _ _ _ _ (by simp <;> omega)]; exact (key _ (by omega)).trans h.r1
  · rw [Below.heap_setCell _ _ _ _ (by simp <;> omega)]; exact e3
  · have hw : OwnS w2 (w.heap.size + 4) v2 (nmK N (k + 1)) := by
      unfold nmK OwnS
      rw [ho, if_pos rfl, List.length_append, List.length_singleton]
      have : cellsS (nmK N k ++ [abc k]) = cellsS (nmK N k) ++ [.string (abc k)] := by unfold cellsS; rw [List.map_append]; rfl
      rw [this]
      exact hown
    exact own_blk hw (fun q hq => Below.heap_setCell _ _ _ _ (by have := (World.ownsRow.lt hw q hq).1; simp; omega))
  · have := bel2.size
    have h2 := hg.size
    simp at h2 ⊢
    omega
  · obtain ⟨⟨c0, c1, c2⟩, _⟩ := row3 e3
    rcases (show j = 0 ∨ j = 1 ∨ j = 2 by omega) with rfl | rfl | rfl
    · exact c0
    · exact c1
    · exact c2
theorem OwnS.sq {w : World} {lo : Nat} {v : Value} {L : List ByteArray} (h : OwnS w lo v L) : ∃ a cap, v = .slice a L.length cap ∧ SQ w (fun g => lo ≤ g) a L := by
  have h0 := h
  rcases h.2 with ⟨rfl, hn⟩ | ⟨g, cap, cur, rfl, hg, hr, _⟩
  · exact ⟨none, 0, by rw [hn], ⟨fun k hk => by omega⟩⟩
  · refine ⟨_, cap, rfl, ⟨fun k hk => ⟨g, 0, rfl, hg, (World.ownsRow.lt h0 g rfl).2, ?_⟩⟩⟩
    have := World.ownsRow.cellAt h0 k (by omega)
    rw [Nat.zero_add, this]
    simp [cellsS, hk]
/-- A row of three written over. -/
def set3 (W : World) (X : Nat) (a b c : Value) : World := ((W.setCell ⟨X, 0, none⟩ a).setCell ⟨X, 1, none⟩ b).setCell ⟨X, 2, none⟩ c
theorem set3_row {W : World} {X : Nat} {t : TypeId} {a0 b0 c0 : Value} (h : W.heap[X]? = some (.cells #[a0, b0, c0] t (0, 0))) (a b c : Value) : (set3 W X a b c).heap[X]? = some (.cells #[a, b, c] t (0, 0)) := by
  unfold set3
  exact heap_setCell_same _ _ 2 _ _ c (heap_setCell_same _ _ 1 _ _ b (heap_setCell_same _ _ 0 _ _ a h))
theorem set3_other {W : World} {X k : Nat} (hk : k ≠ X) (a b c : Value) : (set3 W X a b c).heap[k]? = W.heap[k]? := by
  unfold set3
  rw [Below.heap_setCell _ _ _ k hk, Below.heap_setCell _ _ _ k hk, Below.heap_setCell _ _ _ k hk]
/-- What setOf leaves. -/
def SetR (w : World) (nt : Bool) (N : List ByteArray) (P : List (Int × Int)) (e : Ending) (w' : World) : Prop := ∃ g ce h cf, e = .returned (.agg #[.bool nt, .slice g (nmK N 3).length ce, .slice h (ptK P).length cf]) ∧ SQ w' (fun b => w.heap.size ≤ b) g (nmK N 3) ∧ RQ w' (fun b => w.heap.size ≤ b) h (ptK P) ∧ Below w.heap.size w w'
theorem setR_done {w W : World} {nt : Bool} {N : List ByteArray} {P : List (Int × Int)} {a h : Option Addr} {ca cf : Nat} {z0 z1 z2 : Value} (bel : Below w.heap.size w W) (r1 : W.heap[w.heap.size + 1]? = some (.cells #[z0, z1, z2] 25 (0, 0))) (hN : SQ W (fun g => w.heap.size + 4 ≤ g) a (nmK N 3)) (hP : RQ W (fun g => w.heap.size + 4 ≤ g) h (ptK P)) :
    ∃ V, V = set3 W (w.heap.size + 1) (.bool nt) (.slice a (nmK N 3).length ca) (.slice h (ptK P).length cf) ∧ V.heap[w.heap.size + 1]? = some (.cells #[.bool nt, .slice a (nmK N 3).length ca, .slice h (ptK P).length cf] 25 (0, 0)) ∧ SetR w nt N P (.returned (.agg #[.bool nt, .slice a (nmK N 3).length ca, .slice h (ptK P).length cf])) V := by
  have ho : ∀ g, g ≠ w.heap.size + 1 → (set3 W (w.heap.size + 1) (.bool nt) (.slice a (nmK N 3).length ca) (.slice h (ptK P).length cf)).heap[g]? = W.heap[g]? := fun g hg => set3_other hg _ _ _
  have hr := set3_row r1 (.bool nt) (.slice a (nmK N 3).length ca) (.slice h (ptK P).length cf)
  have hs : W.heap.size ≤ (set3 W (w.heap.size + 1) (.bool nt) (.slice a (nmK N 3).length ca) (.slice h (ptK P).length cf)).heap.size := by unfold set3; simp
  have hb : Below w.heap.size w (set3 W (w.heap.size + 1) (.bool nt) (.slice a (nmK N 3).length ca) (.slice h (ptK P).length cf)) := by
    unfold set3
    exact ((bel.setCell (p := ⟨w.heap.size + 1, 0, none⟩) (by simp) _).setCell (p := ⟨w.heap.size + 1, 1, none⟩) (by simp) _).setCell (p := ⟨w.heap.size + 1, 2, none⟩) (by simp) _
  refine ⟨_, rfl, hr, a, ca, h, cf, rfl, ?_, ?_, hb⟩
  · generalize set3 W (w.heap.size + 1) (.bool nt) (.slice a (nmK N 3).length ca) (.slice h (ptK P).length cf) = V at *
    have hk : Keeps (fun g => w.heap.size + 4 ≤ g) W V := ⟨hs, fun g o hg _ => World.cell?_of_block (w := W) (ho g (by omega))⟩
    have h2 := hN.keeps hk
    exact ⟨fun k hk => by
      obtain ⟨b, off, e, hq, h3, h4⟩ := h2.at' k hk
      exact ⟨b, off, e, by omega, h3, h4⟩⟩
  · generalize set3 W (w.heap.size + 1) (.bool nt) (.slice a (nmK N 3).length ca) (.slice h (ptK P).length cf) = V at *
    have hk : Keeps (fun g => w.heap.size + 4 ≤ g) W V := ⟨hs, fun g o hg _ => World.cell?_of_block (w := W) (ho g (by omega))⟩
    have h2 := hP.keeps hk
    exact ⟨fun k hk => by
      obtain ⟨b, off, e, hq, h3, h4⟩ := h2.at' k hk
      exact ⟨b, off, e, by omega, h3, h4⟩⟩
set_option maxRecDepth 10000 in
set_option maxHeartbeats 3200000 in
theorem setOf_any (nt : Bool) (N : List ByteArray) (P : List (Int × Int)) (a b : Option Addr) (ca cb : Nat) (w : World) (ha : SA w a N) (hb : RA w b P) :
    Calls Tryd.prog 6 #[.agg #[.bool nt, .slice a N.length ca, .slice b P.length cb]] w fun e w' => SetR w nt N P e w' := by
  obtain ⟨i0, hi, hz0, hz1, hz2⟩ := info_parts infoStr
  obtain ⟨W0, hW0⟩ : ∃ W0, (((w.alloc (.cells #[.bool nt, .slice a N.length ca, .slice b P.length cb] 25)).alloc (.cells #[.bool false, .slice none 0 0, .slice none 0 0] 25)).alloc (.cells #[.bool nt, .slice none 0 0, .slice none 0 0] 25)).alloc (.cells #[.string ⟨#[65]⟩, .string ⟨#[66]⟩, .string ⟨#[67]⟩] 9) = W0 := ⟨_, rfl⟩
  have HS0 := hid0 (SO.first w nt (.slice a N.length ca) (.slice b P.length cb) N W0 hW0.symm)
  have HA := hid0 ha
  have HB := hid0 hb
  clear ha hb
  go_enter Tryd.func6, Tryd.ntmps6
  go_wp2
  clear hW0
  go_loopw [5] (fun i wr => ∃ (k : Nat) (v : Value), k ≤ 3 ∧ i = .int .i64 (k : Int) ∧ Hid (SO w wr nt (.slice a N.length ca) (.slice b P.length cb) v N k)) (fun i _ => 3 - (intOf i).toNat)
  case atStart => exact ⟨0, _, by omega, rfl, HS0⟩
  case round =>
    clear HS0
    obtain ⟨k, v, hk, rfl, HS⟩ := hrel
    obtain ⟨q0, q1, q2, q3, q4⟩ := HS.out.cells
    by_cases hlt : k < 3
    · have hkI : (k : Int) < 3 := by omega
      have hkI0 : (0 : Int) ≤ (k : Int) := by omega
      have q5 := q4 k hlt
      by_cases hn : k < N.length
      · have hnI : (k : Int) < (N.length : Int) := by omega
        obtain ⟨b1, o1, rfl, hb1, hc⟩ := (HA.out.below HS.out.bel).at' k hn
        by_cases hodd : N[k].size % 2 = 1
        · have hoI : Int.tmod (N[k].size : Int) 2 = 1 := by rw [Int.tmod_eq_emod_of_nonneg (by omega)]; omega
          have hO : oddN N k = true := by unfold oddN; rw [List.getElem?_eq_getElem hn]; simpa using hodd
          obtain ⟨av, cv, rfl⟩ : ∃ av cv, v = .slice av (nmK N k).length cv := by
            obtain ⟨av, cv, e, _⟩ := HS.out.own.sa
            exact ⟨av, cv, e⟩
          have hnl := nmK_len N k
          have hsz := HS.out.sz
          have HOk : Hid (wr.drew.ownsRow (w.heap.size + 4) 9 1 (.slice av (nmK N k).length cv) (nmK N k).length (cellsS (nmK N k))) := hid0 (own_blk HS.out.own (fun _ _ => rfl))
          have hba : Below wr.heap.size wr (wr.alloc (.cells #[.string (abc k)] 9)) := (Below.refl _ _).alloc (Nat.le_refl _) _
          have c1 := (hba.cell (p := ⟨w.heap.size + 1 + 1, 1, none⟩) (show w.heap.size + 1 + 1 < wr.heap.size by omega)).trans q2
          have HCa := hid0 ((hba.cell (p := ⟨w.heap.size + 1 + 1 + 1, k, none⟩) (show w.heap.size + 1 + 1 + 1 < wr.heap.size by omega)).trans q5)
          generalize hs : N[k] = s at *
          clear q4 hba
          go_wp2
          refine wp_region_held_drew (S := fun W => W.cell? ⟨w.heap.size + 1 + 1 + 1, k, none⟩ = some (.string (abc k))) (by kernel_rfl) ?_ (fun hHeld => ?_)
          · exact q5
          refine tkV (i := 0) (d := some 32) (v := ?_) rfl (by kernel_rfl) (by kernel_rfl) (by kernel_rfl) rfl (fun _ _ _ h => h) (by rfl) ?_ (by assumption) ?_
          rotate_left
          · (intro w hSw; (try dsimp only at hSw); (try simp only [List.getElem_toArray, List.getElem_cons_zero]); go_simp; try with_reducible rfl)
          simp only [Act.put, List.setIfInBounds_toArray, List.set_cons_zero, List.set_cons_succ]
          refine tkV (i := 2) (d := some 34) (v := ?_) rfl (by kernel_rfl) (by kernel_rfl) (by kernel_rfl) rfl (fun _ _ _ h => h) (by rfl) ?_ (by assumption) ?_
          rotate_left
          · (intro w hSw; (try dsimp only at hSw); (try simp only [List.getElem_toArray, List.getElem_cons_zero, List.getElem_cons_succ]); go_simp; try with_reducible rfl)
          simp only [Act.put, List.setIfInBounds_toArray, List.set_cons_zero, List.set_cons_succ]
          refine tkV (i := 3) (d := some 35) (v := ?_) rfl (by kernel_rfl) (by kernel_rfl) (by kernel_rfl) rfl (fun _ _ _ h => h) (by rfl) ?_ (by assumption) ?_
          rotate_left
          · (intro w hSw; (try dsimp only at hSw); (try simp only [List.getElem_toArray, List.getElem_cons_zero, List.getElem_cons_succ]); go_simp; try with_reducible rfl)
          simp only [Act.put, List.setIfInBounds_toArray, List.set_cons_zero, List.set_cons_succ]
          refine tkV (i := 4) (d := some 36) (v := ?_) rfl (by kernel_rfl) (by kernel_rfl) (by kernel_rfl) rfl (fun _ _ _ h => h) (by rfl) ?_ (by assumption) ?_
          rotate_left
          · (intro w hSw; (try dsimp only at hSw); (try simp only [List.getElem_toArray, List.getElem_cons_zero, List.getElem_cons_succ]); go_simp; try with_reducible rfl)
          simp only [Act.put, List.setIfInBounds_toArray, List.set_cons_zero, List.set_cons_succ]
          refine tkV (i := 5) (d := some 37) (v := ?_) rfl (by kernel_rfl) (by kernel_rfl) (by kernel_rfl) rfl (fun _ _ _ h => h) (by rfl) ?_ (by assumption) ?_
          rotate_left
          · (intro w hSw; (try dsimp only at hSw); (try simp only [List.getElem_toArray, List.getElem_cons_zero, List.getElem_cons_succ]); go_simp; try with_reducible rfl)
          simp only [Act.put, List.setIfInBounds_toArray, List.set_cons_zero, List.set_cons_succ]
          refine wpAnyH_ready (rs := [1, 6]) (by kernel_rfl) (by simp) (AllReadyH.cons rfl (fun K hK => ?_) (AllReadyH.cons rfl (fun K hK => ?_) AllReadyH.nil))
          · try simp only [List.getElem_toArray, List.getElem_cons_zero, List.getElem_cons_succ]
            go_simp
            refine hK.out _ _ ?_ (fun hHeld3 => ?_)
            · first | assumption | exact HCa.out | exact HC3.out | exact HC4.out
            clear hK K
            try simp only [Act.put, List.setIfInBounds_toArray, List.set_cons_zero, List.set_cons_succ]
            refine wpAnyH_ready (rs := [6]) (by kernel_rfl) (by simp) (AllReadyH.cons rfl (fun K hK => ?_) AllReadyH.nil)
            try simp only [List.getElem_toArray, List.getElem_cons_zero, List.getElem_cons_succ]
            go_simp
            refine hK.out _ _ ?_ (fun hHeld4 => ?_)
            · first | assumption | exact HCa.out | exact HC3.out | exact HC4.out
            clear hK K
            try simp only [Act.put, List.setIfInBounds_toArray, List.set_cons_zero, List.set_cons_succ]
            refine wpAnyH_ready (rs := [7]) (by kernel_rfl) (by simp) (AllReadyH.cons rfl (fun K hK => ?_) AllReadyH.nil)
            refine step_append_own_at (by rfl) _ _ 22 (by rfl) (w.heap.size + 4) 9 i0 (.string ByteArray.empty) 1 16 Tryd.underlying22 hi hz0 hz1 hz2 rfl (by decide) (.slice av (nmK N k).length cv) (nmK N k).length (cellsS (nmK N k)) (by rfl) (World.ownsRow.alloc HOk.out _) ⟨wr.heap.size, 0, none⟩ 1 1 [.string (abc k)] (by rfl) (by rfl) (cell_one_new wr.drew _ _) (fun u hu => by rw [List.mem_singleton.1 hu]; rfl) (by unfold maxLen; omega) (by omega) (by simp; omega) ?_
            intro v2 w2 hown2 hgrow2 _
            obtain ⟨g2, cap2, rfl⟩ := Go.Joins.ownsRow_form hown2 (Nat.succ_pos _)
            have HN := hid0 (SO.snoc HS.out hO hgrow2 hown2)
            have HC3 := hid0 (HN.out.2.2.2 k hlt)
            have HC4 := hid0 (HN.out.1.cells.2.2.2.2 k hlt)
            have c2 := HN.out.2.1
            have c3 := HN.out.2.2.1
            clear hown2 hgrow2
            refine hK.out _ _ ?_ (fun hHeld5 => ?_)
            · first | assumption | exact HCa.out | exact HC3.out | exact HC4.out
            clear hK K
            try (try simp only [Act.put]); (try simp only [List.setIfInBounds_toArray]); (try simp only [List.set_cons_succ]); (try simp only [List.set_cons_zero])
            refine tkV (i := 8) (d := some 40) (v := ?_) rfl (by kernel_rfl) (by kernel_rfl) (by kernel_rfl) rfl (fun _ _ _ h => h) (by rfl) ?_ (by assumption) ?_
            rotate_left
            · (intro w hSw; (try dsimp only at hSw); (try simp only [List.getElem_toArray, List.getElem_cons_zero, List.getElem_cons_succ]); go_simp; try with_reducible rfl)
            (try simp only [Act.put]); (try simp only [List.setIfInBounds_toArray]); (try simp only [List.set_cons_succ]); (try simp only [List.set_cons_zero])
            refine wpAnyH_ready (rs := [9]) (by kernel_rfl) (by simp) (AllReadyH.cons rfl (fun K hK => ?_) AllReadyH.nil)
            try simp only [List.getElem_toArray, List.getElem_cons_zero, List.getElem_cons_succ]
            go_simp
            refine hK.out _ _ ?_ (fun hHeld6 => ?_)
            · first | assumption | exact HCa.out | exact HC3.out | exact HC4.out
            clear hK K
            try simp only [Act.put]
            refine wpAnyH_done (by kernel_rfl) ?_ _
            go_wp2
            go_roundw
            case rel => exact ⟨k + 1, _, by omega, by go_num, hid0 HN.out.1⟩
            case measure => simp [intOf]; omega
          · try simp only [List.getElem_toArray, List.getElem_cons_zero, List.getElem_cons_succ]
            go_simp
            refine hK.out _ _ ?_ (fun hHeld3 => ?_)
            · first | assumption | exact HCa.out | exact HC3.out | exact HC4.out
            clear hK K
            try simp only [Act.put, List.setIfInBounds_toArray, List.set_cons_zero, List.set_cons_succ]
            refine wpAnyH_ready (rs := [1]) (by kernel_rfl) (by simp) (AllReadyH.cons rfl (fun K hK => ?_) AllReadyH.nil)
            try simp only [List.getElem_toArray, List.getElem_cons_zero, List.getElem_cons_succ]
            go_simp
            refine hK.out _ _ ?_ (fun hHeld4 => ?_)
            · first | assumption | exact HCa.out | exact HC3.out | exact HC4.out
            clear hK K
            try simp only [Act.put, List.setIfInBounds_toArray, List.set_cons_zero, List.set_cons_succ]
            refine wpAnyH_ready (rs := [7]) (by kernel_rfl) (by simp) (AllReadyH.cons rfl (fun K hK => ?_) AllReadyH.nil)
            refine step_append_own_at (by rfl) _ _ 22 (by rfl) (w.heap.size + 4) 9 i0 (.string ByteArray.empty) 1 16 Tryd.underlying22 hi hz0 hz1 hz2 rfl (by decide) (.slice av (nmK N k).length cv) (nmK N k).length (cellsS (nmK N k)) (by rfl) (World.ownsRow.alloc HOk.out _) ⟨wr.heap.size, 0, none⟩ 1 1 [.string (abc k)] (by rfl) (by rfl) (cell_one_new wr.drew _ _) (fun u hu => by rw [List.mem_singleton.1 hu]; rfl) (by unfold maxLen; omega) (by omega) (by simp; omega) ?_
            intro v2 w2 hown2 hgrow2 _
            obtain ⟨g2, cap2, rfl⟩ := Go.Joins.ownsRow_form hown2 (Nat.succ_pos _)
            have HN := hid0 (SO.snoc HS.out hO hgrow2 hown2)
            have HC3 := hid0 (HN.out.2.2.2 k hlt)
            have HC4 := hid0 (HN.out.1.cells.2.2.2.2 k hlt)
            have c2 := HN.out.2.1
            have c3 := HN.out.2.2.1
            clear hown2 hgrow2
            refine hK.out _ _ ?_ (fun hHeld5 => ?_)
            · first | assumption | exact HCa.out | exact HC3.out | exact HC4.out
            clear hK K
            try (try simp only [Act.put]); (try simp only [List.setIfInBounds_toArray]); (try simp only [List.set_cons_succ]); (try simp only [List.set_cons_zero])
            refine tkV (i := 8) (d := some 40) (v := ?_) rfl (by kernel_rfl) (by kernel_rfl) (by kernel_rfl) rfl (fun _ _ _ h => h) (by rfl) ?_ (by assumption) ?_
            rotate_left
            · (intro w hSw; (try dsimp only at hSw); (try simp only [List.getElem_toArray, List.getElem_cons_zero, List.getElem_cons_succ]); go_simp; try with_reducible rfl)
            (try simp only [Act.put]); (try simp only [List.setIfInBounds_toArray]); (try simp only [List.set_cons_succ]); (try simp only [List.set_cons_zero])
            refine wpAnyH_ready (rs := [9]) (by kernel_rfl) (by simp) (AllReadyH.cons rfl (fun K hK => ?_) AllReadyH.nil)
            try simp only [List.getElem_toArray, List.getElem_cons_zero, List.getElem_cons_succ]
            go_simp
            refine hK.out _ _ ?_ (fun hHeld6 => ?_)
            · first | assumption | exact HCa.out | exact HC3.out | exact HC4.out
            clear hK K
            try simp only [Act.put]
            refine wpAnyH_done (by kernel_rfl) ?_ _
            go_wp2
            go_roundw
            case rel => exact ⟨k + 1, _, by omega, by go_num, hid0 HN.out.1⟩
            case measure => simp [intOf]; omega
        · have hoI : ¬ Int.tmod (N[k].size : Int) 2 = 1 := by rw [Int.tmod_eq_emod_of_nonneg (by omega)]; omega
          have hO : oddN N k = false := by unfold oddN; rw [List.getElem?_eq_getElem hn]; simpa using hodd
          generalize hs : N[k] = s at *
          clear q4
          go_wp2
          go_roundw
          case rel => exact ⟨k + 1, v, by omega, by go_num, hid0 (HS.out.same hO)⟩
          case measure => simp [intOf]; omega
      · have hnI : ¬ (k : Int) < (N.length : Int) := by omega
        have hO : oddN N k = false := by unfold oddN; rw [List.getElem?_eq_none (by omega)]
        clear q4
        go_wp2
        go_roundw
        case rel => exact ⟨k + 1, v, by omega, by go_num, hid0 (HS.out.same hO)⟩
        case measure => simp [intOf]; omega
    · have hkI : ¬ (k : Int) < 3 := by omega
      obtain rfl : k = 3 := by omega
      obtain ⟨av, cv, rfl, hsq⟩ := HS.out.own.sq
      obtain ⟨⟨e0, _, e2⟩, _, _, e5⟩ := row3 HS.out.r2
      obtain ⟨⟨y0, y1, y2⟩, f0, f1, f2⟩ := row3 HS.out.r1
      have HSQ := hid0 hsq
      clear q4 hsq
      obtain rfl | ⟨r, P', rfl⟩ : P = [] ∨ ∃ r P', P = r :: P' := by
        cases P with
        | nil => exact .inl rfl
        | cons r P' => exact .inr ⟨r, P', rfl⟩
      · obtain ⟨V, hV, hVr, hR⟩ := setR_done (nt := nt) (N := N) (P := []) (ca := cv) (cf := 0) HS.out.bel HS.out.r1 HSQ.out (RQ.nil _ _ none)
        have hl0 : (ptK []).length = 0 := rfl
        rw [hl0] at hV hVr hR
        rw [List.length_nil] at q1
        have HR := hid0 hR
        have HVr := hid0 hVr
        clear hR hVr
        unfold set3 at hV
        have HV := hid0 hV
        clear hV
        go_wp2
        rw [← HV.out]
        obtain ⟨⟨k0, k1, k2⟩, _⟩ := row3 HVr.out
        exact bodyPost_ret (v := .agg #[.bool nt, .slice av (nmK N 3).length cv, .slice none 0 0]) (by simp [results, Tryd.results6, go_sem, k0, k1, k2]) rfl HR.out
      · obtain ⟨b1, o1, rfl, d0, d1⟩ := (HB.out.below HS.out.bel).at' 0 (by simp)
        simp only [Nat.zero_mul, Nat.add_zero, List.getElem_cons_zero] at d0 d1
        have hsz := HS.out.sz
        obtain ⟨lo, hlo⟩ : ∃ lo, lo = pickN r.1 100 := ⟨_, rfl⟩
        obtain ⟨hi', hhi⟩ : ∃ hi', hi' = pickN r.2 9 := ⟨_, rfl⟩
        have hlo1 : lo < 100 := by rw [hlo]; exact pickN_lt _ _ (by omega)
        have hhi1 : hi' < 9 := by rw [hhi]; exact pickN_lt _ _ (by omega)
        have HP1 := hid0 (fun W => pick_at r.1 100 (by omega) (by omega) W)
        have HP2 := hid0 (fun W => pick_at r.2 9 (by omega) (by omega) W)
        rw [← hlo] at HP1
        rw [← hhi] at HP2
        have hadd : IntKind.i64.wrap ((lo : Int) + (hi' : Int)) = (lo : Int) + (hi' : Int) := by simp [IntKind.wrap, IntKind.bits, IntKind.signed]; omega
        have HPt : Hid (ptK (r :: P') = [((lo : Int), (lo : Int) + (hi' : Int))]) := hid0 (by rw [hlo, hhi]; rfl)
        clear hlo hhi
        generalize r.1 = r1 at *
        generalize r.2 = r2 at *
        have hlen : (0 : Int) < ((r :: P').length : Int) := by rw [List.length_cons]; omega
        generalize hn : (r :: P').length = n at *
        obtain ⟨Va, hVa⟩ : ∃ Va, wr.alloc (.cells #[.int .i64 (lo : Int), .int .i64 ((lo : Int) + (hi' : Int))] 57) = Va := ⟨_, rfl⟩
        have hba : Below wr.heap.size wr Va := by rw [← hVa]; exact (Below.refl _ _).alloc (Nat.le_refl _) _
        have hra : Va.heap[wr.heap.size]? = some (.cells #[.int .i64 (lo : Int), .int .i64 ((lo : Int) + (hi' : Int))] 57 (0, 0)) := by rw [← hVa]; exact heap_alloc_new wr _
        have s2 := (hba.block _ (by omega)).trans HS.out.r2
        have s1 := (hba.block _ (by omega)).trans HS.out.r1
        obtain ⟨⟨_, _, m2⟩, _, _, m5⟩ := row3 s2
        obtain ⟨W1, hW1⟩ : ∃ W1, Va.setCell ⟨w.heap.size + 1 + 1, 2, none⟩ (.slice (some ⟨wr.heap.size, 0, none⟩) 1 1) = W1 := ⟨_, rfl⟩
        have t2 : W1.heap[w.heap.size + 1 + 1]? = some (.cells #[.bool nt, .slice av (nmK N 3).length cv, .slice (some ⟨wr.heap.size, 0, none⟩) 1 1] 25 (0, 0)) := by rw [← hW1]; exact heap_setCell_same _ _ 2 _ _ _ s2
        have hoth : ∀ g, g ≠ w.heap.size + 1 + 1 → W1.heap[g]? = Va.heap[g]? := fun g hg => by rw [← hW1]; exact Below.heap_setCell _ _ _ _ hg
        have t1 := (hoth _ (by omega)).trans s1
        have tr := (hoth _ (by omega)).trans hra
        have hsz1 : Va.heap.size ≤ W1.heap.size := by rw [← hW1]; simp [World.setCell]
        have hbW : Below w.heap.size w W1 := by rw [← hW1]; exact (Below.later HS.out.bel hba).setCell (p := ⟨w.heap.size + 1 + 1, 2, none⟩) (by simp; omega) _
        have hkp : Keeps (fun g => w.heap.size + 4 ≤ g) wr W1 := ⟨Nat.le_trans hba.size hsz1, fun g o hg hl => (World.cell?_of_block (w := Va) (hoth g (by omega))).trans (hba.cell (p := ⟨g, o, none⟩) hl)⟩
        obtain ⟨⟨n0, n1, n2⟩, _⟩ := row3 t2
        obtain ⟨⟨p0, p1, p2⟩, u0', u1', u2'⟩ := row3 t1
        obtain ⟨V, hV, hVr, hR⟩ := setR_done (nt := nt) (N := N) (P := r :: P') (h := some ⟨wr.heap.size, 0, none⟩) (ca := cv) (cf := 1) hbW t1 (HSQ.out.keeps hkp) (by
          rw [HPt.out]
          exact ⟨fun k hk => by
            have : k = 0 := by simpa using hk
            subst this
            exact ⟨wr.heap.size, 0, rfl, by omega, by rw [cell_of_row _ _ _ _ _ _ tr]; rfl, by rw [cell_of_row _ _ _ _ _ _ tr]; rfl⟩⟩)
        have hl0 : (ptK (r :: P')).length = 1 := by rw [HPt.out]; rfl
        rw [hl0] at hV hVr hR
        have HR := hid0 hR
        have HVr := hid0 hVr
        clear hR hVr
        unfold set3 at hV
        have HV := hid0 hV
        clear hV t1 t2 tr s1 s2 hra hba hoth hsz1 hbW hkp
        go_wp2_with (first
          | (go_at_call 20; refine (HP1.out _).mono ?_; rintro e w1 ⟨rfl, hw1⟩; have hw1' := hw1.symm; subst hw1'; clear hw1 HP1)
          | (go_at_call 20; refine (HP2.out _).mono ?_; rintro e w1 ⟨rfl, hw1⟩; have hw1' := hw1.symm; subst hw1'; clear hw1 HP2)
          | fail)
        rw [← HV.out]
        obtain ⟨⟨k0, k1, k2⟩, _⟩ := row3 HVr.out
        exact bodyPost_ret (v := .agg #[.bool nt, .slice av (nmK N 3).length cv, .slice (some ⟨wr.heap.size, 0, none⟩) 1 1]) (by simp [results, Tryd.results6, go_sem, k0, k1, k2]) rfl HR.out
end Go.Proofs.YtiapefdklojhdaaDoor
namespace Go.Proofs.YtiapefdklojhdaaDoor
open Go.RowKit Go.Shelf
def sideF (lo hi p : Int) : Int := if hi < p then -1 else if p < lo then 1 else 0
set_option maxRecDepth 10000 in
theorem fromPoint_any (lo hi p : Int) (w : World) : Calls Tryd.prog 84 #[.agg #[.int .i64 lo, .int .i64 hi], .int .i64 p] w fun e w' => e = .returned (.int .i64 (sideF lo hi p)) ∧ Below w.heap.size w w' := by
  unfold sideF
  have HB : Hid (Below w.heap.size w (w.alloc (.cells #[.int .i64 lo, .int .i64 hi] 57))) := hid0 ((Below.refl _ _).alloc (Nat.le_refl _) _)
  by_cases h1 : hi < p
  · go_enter Tryd.func84, Tryd.ntmps84
    go_wp2
    go_ret
    exact ⟨rfl, HB.out⟩
  · by_cases h2 : p < lo
    · go_enter Tryd.func84, Tryd.ntmps84
      go_wp2
      go_ret
      exact ⟨rfl, HB.out⟩
    · go_enter Tryd.func84, Tryd.ntmps84
      go_wp2
      go_ret
      exact ⟨rfl, HB.out⟩
/-- Ranges that rise, from 0 on. -/
def RiseP (P : List (Int × Int)) : Prop := (∀ k (h : k < P.length), 0 ≤ P[k].1 ∧ P[k].1 ≤ P[k].2) ∧ ∀ i j (hi : i < P.length) (hj : j < P.length), i < j → P[i].2 < P[j].1
theorem RiseP.hit {P : List (Int × Int)} (h : RiseP P) (p : Int) (l : Nat) (hl : l ≤ P.length) (h1 : ∀ k (hk : k < P.length), k < l → P[k].2 < p) (h2 : ∀ k (hk : k < P.length), l ≤ k → p ≤ P[k].2) : ptF P p = (if hl : l < P.length then decide (P[l].1 ≤ p) else false) := by
  have key : ptF P p = true ↔ ∃ k, ∃ hk : k < P.length, P[k].1 ≤ p ∧ p ≤ P[k].2 := by
    unfold ptF
    rw [List.any_eq_true]
    constructor
    · rintro ⟨r, hr, h⟩
      obtain ⟨k, hk, rfl⟩ := List.getElem_of_mem hr
      simp only [Bool.and_eq_true, decide_eq_true_eq] at h
      exact ⟨k, hk, h⟩
    · rintro ⟨k, hk, h⟩
      exact ⟨P[k], List.getElem_mem hk, by simp [h]⟩
  rw [Bool.eq_iff_iff, key]
  constructor
  · rintro ⟨k, hk, a, b⟩
    have hkl : l ≤ k := by
      by_cases e : k < l
      · have := h1 k hk e; omega
      · omega
    have hl2 : l < P.length := by omega
    rw [dif_pos hl2, decide_eq_true_iff]
    by_cases e : l = k
    · subst e; exact a
    · have := h.2 l k hl2 hk (by omega)
      have := h2 l hl2 (Nat.le_refl _)
      omega
  · split
    · rename_i hl2
      intro e
      exact ⟨l, hl2, of_decide_eq_true e, h2 l hl2 (Nat.le_refl _)⟩
    · intro e; cases e
theorem sideF_neg (lo hi p : Int) : sideF lo hi p < 0 ↔ hi < p := by unfold sideF; split <;> (try split) <;> omega
theorem sideF_zero (lo hi p : Int) : sideF lo hi p = 0 ↔ lo ≤ p ∧ p ≤ hi := by unfold sideF; split <;> (try split) <;> omega
set_option maxRecDepth 10000 in
set_option maxHeartbeats 1600000 in
theorem search_any (P : List (Int × Int)) (a : Option Addr) (cap : Nat) (p : Int) (w : World) (hl : P.length ≤ 1000000000) (ha : RA w a P) (hP : RiseP P) :
    Calls Tryd.prog 83 #[.slice a P.length cap, .int .i64 p, .func (.func 84) #[] #[]] w fun e w' => (∃ q, e = .returned (.tuple #[.int .i64 q, .bool (ptF P p)])) ∧ Below w.heap.size w w' := by
  have HA := hid0 ha
  have HP := hid0 hP
  clear ha hP
  go_enter Tryd.func83, Tryd.ntmps83
  go_wp2
  go_loopw [9, 10, 11] (fun x y _ wr => ∃ l m : Nat, l ≤ m ∧ m ≤ P.length ∧ x = .int .i64 (l : Int) ∧ y = .int .i64 (m : Int) ∧ Hid (∀ k (hk : k < P.length), k < l → P[k].2 < p) ∧ Hid (∀ k (hk : k < P.length), m ≤ k → p ≤ P[k].2) ∧ Hid (Below w.heap.size w wr)) (fun x y _ _ => (intOf y).toNat - (intOf x).toNat)
  case atStart => exact ⟨0, P.length, Nat.zero_le _, Nat.le_refl _, rfl, rfl, hid0 (fun k _ h => absurd h (Nat.not_lt_zero _)), hid0 (fun k hk h => by omega), hid0 (Below.refl _ _)⟩
  case round =>
    obtain ⟨l, m, hlm, hmP, rfl, rfl, H1, H2, HB⟩ := hrel
    by_cases hlt : l < m
    · have hltI : (l : Int) < (m : Int) := by omega
      obtain ⟨c, hc⟩ : ∃ c, c = (l + m) / 2 := ⟨_, rfl⟩
      have hcl : l ≤ c := by omega
      have hcm : c < m := by omega
      have hcP : c < P.length := by omega
      obtain ⟨b, off, rfl, d0, d1⟩ := (HA.out.later HB.out).at' c hcP
      have HF := hid0 (fun W => fromPoint_any P[c].1 P[c].2 p W)
      have HS := hid0 (sideF_neg P[c].1 P[c].2 p)
      have HU : Hid (P[c].2 < p → ∀ k (hk : k < P.length), k < c + 1 → P[k].2 < p) := hid0 (fun h k hk hkc => by
        by_cases e : k = c
        · subst e; exact h
        · have a1 := HP.out.2 k c hk hcP (by omega)
          have a2 := (HP.out.1 c hcP).2
          omega)
      have HD : Hid (¬ P[c].2 < p → ∀ k (hk : k < P.length), c ≤ k → p ≤ P[k].2) := hid0 (fun h k hk hkc => by
        by_cases e : k = c
        · subst e; omega
        · have a1 := HP.out.2 c k hcP hk (by omega)
          have a2 := (HP.out.1 k hk).2
          omega)
      have hci : ((l : Int) + (m : Int)) / 2 < (P.length : Int) := by omega
      have hc0 : (0 : Int) ≤ ((l : Int) + (m : Int)) / 2 := by omega
      have HCC : Hid (((l : Int) + (m : Int)) / 2 = (c : Int)) := hid0 (by omega)
      have HCW : Hid (IntKind.i64.wrap (((l : Int) + (m : Int)) / 2 + 1) = ((c + 1 : Nat) : Int)) := hid0 (by simp [IntKind.wrap, IntKind.bits, IntKind.signed]; omega)
      generalize P[c] = r at *
      obtain ⟨lo, hi⟩ := r
      simp only at d0 d1 HF HS HU HD
      rw [hc] at d0 d1
      generalize sideF lo hi p = q at *
      by_cases hq : q < 0
      · have HN := hid0 (HU.out (HS.out.1 hq))
        clear HU HD HS
        go_wp2_with (go_at_call 84; refine (HF.out _).mono ?_; rintro e w1 ⟨rfl, hb1⟩; have HB1 := hid0 (Below.later HB.out hb1); clear hb1)
        go_roundw
        case rel => exact ⟨c + 1, m, by omega, hmP, by simp only [Value.int.injEq, true_and]; have := HCC.out; omega, rfl, HN, H2, HB1⟩
        case measure => simp [intOf]; omega
      · have HN := hid0 (HD.out (fun e => hq (HS.out.2 e)))
        clear HU HD HS
        go_wp2_with (go_at_call 84; refine (HF.out _).mono ?_; rintro e w1 ⟨rfl, hb1⟩; have HB1 := hid0 (Below.later HB.out hb1); clear hb1)
        go_roundw
        case rel => exact ⟨l, c, hcl, by omega, rfl, by rw [HCC.out], H1, HN, HB1⟩
        case measure => simp [intOf]; omega
    · have hltI : ¬ (l : Int) < (m : Int) := by omega
      have elm : l = m := by omega
      subst elm
      have hhit := HP.out.hit p l hmP H1.out H2.out
      by_cases hlP : l < P.length
      · rw [dif_pos hlP] at hhit
        have hlPI : (l : Int) < (P.length : Int) := by omega
        have hl0 : (0 : Int) ≤ (l : Int) := by omega
        obtain ⟨b, off, rfl, d0, d1⟩ := (HA.out.later HB.out).at' l hlP
        have HF := hid0 (fun W => fromPoint_any P[l].1 P[l].2 p W)
        have HZ : Hid (ptF P p = decide (sideF P[l].1 P[l].2 p = 0)) := hid0 (by
          rw [hhit]
          have h2 := H2.out l hlP (Nat.le_refl _)
          have h3 := sideF_zero P[l].1 P[l].2 p
          by_cases e : P[l].1 ≤ p
          · rw [decide_eq_true e, decide_eq_true (h3.2 ⟨e, h2⟩)]
          · rw [decide_eq_false e, decide_eq_false (fun e2 => e (h3.1 e2).1)])
        clear hhit H1 H2
        generalize P[l] = r at *
        obtain ⟨lo, hi⟩ := r
        simp only at d0 d1 HF HZ
        generalize sideF lo hi p = q at *
        go_wp2_with (go_at_call 84; refine (HF.out _).mono ?_; rintro e w1 ⟨rfl, hb1⟩; have HB1 := hid0 (Below.later HB.out hb1); clear hb1)
        go_ret2
        exact ⟨⟨_, by rw [HZ.out]; by_cases h : q = 0 <;> simp [h] <;> rfl⟩, HB1.out⟩
      · rw [dif_neg hlP] at hhit
        have hlPI : ¬ (l : Int) < (P.length : Int) := by omega
        go_wp2
        go_ret2
        exact ⟨⟨_, rfl⟩, HB.out⟩
set_option maxRecDepth 10000 in
theorem bs_none (a : Option Addr) (cap : Nat) (c : ByteArray) (w : World) : Calls Tryd.prog 82 #[.slice a 0 cap, .string c] w fun e w' => e = .returned (.tuple #[.int .i64 0, .bool false]) ∧ w' = w := by
  go_enter Tryd.func82, Tryd.ntmps82
  go_wp2
  go_rounds 1
  go_ret2
  exact ⟨rfl, rfl⟩
end Go.Proofs.YtiapefdklojhdaaDoor
namespace Go.Proofs.YtiapefdklojhdaaDoor
open Go.RowKit Go.Shelf
def faultV (e : Value) : Value := .iface 63 (.agg #[e])
set_option maxRecDepth 10000 in
theorem need_t (v : Value) (w : World) : Calls Tryd.prog 50 #[.bool true, v] w fun e w' => e = .returned (.tuple #[]) ∧ w' = w := by
  go_enter Tryd.func50, Tryd.ntmps50
  go_wp2
  go_end0
  exact ⟨rfl, rfl⟩
set_option maxRecDepth 10000 in
theorem need_f (t : TypeId) (x : Value) (w : World) : Calls Tryd.prog 50 #[.bool false, .iface t x] w fun e w' => e = .panicked [{ v := faultV (.iface t x), recovered := false }] ∧ w' = w := by
  go_enter Tryd.func50, Tryd.ntmps50
  go_wp2
  exact ⟨rfl, rfl, rfl⟩
theorem need_tb (b : Bool) (v : Value) (w : World) (hb : b = true) : Calls Tryd.prog 50 #[.bool b, v] w fun e w' => e = .returned (.tuple #[]) ∧ w' = w := by
  subst hb
  exact need_t v w
theorem need_fb (b : Bool) (t : TypeId) (x : Value) (w : World) (hb : b = false) : Calls Tryd.prog 50 #[.bool b, .iface t x] w fun e w' => e = .panicked [{ v := faultV (.iface t x), recovered := false }] ∧ w' = w := by
  subst hb
  exact need_f t x w
set_option maxRecDepth 10000 in
set_option maxHeartbeats 800000 in
theorem isZero_any (nt : Bool) (a b : Option Addr) (n m ca cb : Nat) (w : World) : Calls Tryd.prog 63 #[.agg #[.bool nt, .slice a n ca, .slice b m cb]] w fun e w' => e = .returned (.bool (!nt && n == 0 && m == 0)) ∧ Below w.heap.size w w' := by
  have HB : Hid (Below w.heap.size w (w.alloc (.cells #[.bool nt, .slice a n ca, .slice b m cb] 25))) := hid0 ((Below.refl _ _).alloc (Nat.le_refl _) _)
  cases nt with
  | true =>
    go_enter Tryd.func63, Tryd.ntmps63
    go_wp2
    go_ret
    exact ⟨rfl, HB.out⟩
  | false =>
    by_cases h1 : n = 0
    · subst h1
      by_cases h2 : m = 0
      · subst h2
        go_enter Tryd.func63, Tryd.ntmps63
        go_wp2
        go_ret
        exact ⟨rfl, HB.out⟩
      · have h2I : ¬ (m : Int) = 0 := by omega
        go_enter Tryd.func63, Tryd.ntmps63
        go_wp2
        go_ret
        exact ⟨by simp; rw [Bool.eq_iff_iff]; simp, HB.out⟩
    · have h1I : ¬ (n : Int) = 0 := by omega
      go_enter Tryd.func63, Tryd.ntmps63
      go_wp2
      go_ret
      exact ⟨by simp [h1], HB.out⟩
/-- Do ranges rise, a point free ahead of each? -/
def ptsGo : Int → List (Int × Int) → Bool
  | _, [] => true
  | f, r :: P => if r.1 < f then false else if r.2 < r.1 then false else if 1114111 < r.2 then false else ptsGo (r.2 + 2) P
def ptsF (P : List (Int × Int)) : Bool := ptsGo 0 P
theorem ptsGo_ok : ∀ (P : List (Int × Int)) (f : Int), ptsGo f P = true → (∀ k (h : k < P.length), f ≤ P[k].1 ∧ P[k].1 ≤ P[k].2) ∧ ∀ i j (hi : i < P.length) (hj : j < P.length), i < j → P[i].2 < P[j].1 := by
  intro P
  induction P with
  | nil => intro f _; exact ⟨fun k h => absurd h (Nat.not_lt_zero _), fun i j hi => absurd hi (Nat.not_lt_zero _)⟩
  | cons r P ih =>
    intro f h
    simp only [ptsGo] at h
    split at h
    · cases h
    · split at h
      · cases h
      · split at h
        · cases h
        · obtain ⟨h1, h2⟩ := ih _ h
          refine ⟨fun k hk => ?_, fun i j hi hj hij => ?_⟩
          · cases k with
            | zero => simp only [List.getElem_cons_zero]; omega
            | succ k =>
              have := h1 k (by simpa using hk)
              simp only [List.getElem_cons_succ]
              omega
          · cases i with
            | zero =>
              cases j with
              | zero => omega
              | succ j =>
                have := h1 j (by simpa using hj)
                simp only [List.getElem_cons_zero, List.getElem_cons_succ]
                omega
            | succ i =>
              cases j with
              | zero => omega
              | succ j =>
                simp only [List.getElem_cons_succ]
                exact h2 i j (by simpa using hi) (by simpa using hj) (by omega)
theorem ptsF_rise {P : List (Int × Int)} (h : ptsF P = true) : RiseP P := by
  obtain ⟨h1, h2⟩ := ptsGo_ok P 0 h
  exact ⟨h1, h2⟩
set_option maxRecDepth 10000 in
set_option maxHeartbeats 1600000 in
theorem pts_any (P : List (Int × Int)) (a : Option Addr) (cap : Nat) (w : World) (hl : P.length ≤ 1000000000) (ha : RA w a P) :
    Calls Tryd.prog 45 #[.slice a P.length cap] w fun e w' => e = .returned (.bool (ptsF P)) ∧ Below w.heap.size w w' := by
  have HA := hid0 ha
  clear ha
  go_enter Tryd.func45, Tryd.ntmps45
  go_wp2
  go_loopw [3, 5, 8] (fun f _ i wr => ∃ (k : Nat) (fr : Int), k ≤ P.length ∧ 0 ≤ fr ∧ i = .int .i64 (k : Int) ∧ f = .int .i64 fr ∧ Hid (ptsGo fr (P.drop k) = ptsF P) ∧ Hid (Below w.heap.size w wr)) (fun _ _ i _ => P.length - (intOf i).toNat)
  case atStart => exact ⟨0, 0, Nat.zero_le _, Int.le_refl _, rfl, rfl, hid0 rfl, hid0 (Below.refl _ _)⟩
  case round =>
    obtain ⟨k, fr, hk, hfr, rfl, rfl, HG, HB⟩ := hrel
    by_cases hlt : k < P.length
    · have hkI : (k : Int) < (P.length : Int) := by omega
      have hkI0 : (0 : Int) ≤ (k : Int) := by omega
      obtain ⟨b, off, rfl, d0, d1⟩ := (HA.out.later HB.out).at' k hlt
      have hg := HG.out
      rw [List.drop_eq_getElem_cons hlt, ptsGo] at hg
      generalize P[k] = r at *
      obtain ⟨lo, hi⟩ := r
      simp only at d0 d1 hg
      have HBA : Hid (Below w.heap.size w (wr.alloc (.cells #[.int .i64 lo, .int .i64 hi] 57))) := hid0 (HB.out.alloc HB.out.size _)
      by_cases h1 : lo < fr
      · rw [if_pos h1] at hg
        have HE := hid0 hg
        clear hg HG
        go_wp2
        go_ret
        exact ⟨by rw [← HE.out]; rfl, HBA.out⟩
      · rw [if_neg h1] at hg
        by_cases h2 : hi < lo
        · rw [if_pos h2] at hg
          have HE := hid0 hg
          clear hg HG
          go_wp2
          go_ret
          exact ⟨by rw [← HE.out]; rfl, HBA.out⟩
        · rw [if_neg h2] at hg
          by_cases h3 : 1114111 < hi
          · rw [if_pos h3] at hg
            have HE := hid0 hg
            clear hg HG
            go_wp2
            go_ret
            exact ⟨by rw [← HE.out]; rfl, HBA.out⟩
          · rw [if_neg h3] at hg
            have HE := hid0 hg
            clear hg HG
            have h4 : 0 ≤ hi := by omega
            have hwr : IntKind.i64.wrap (hi + 2) = hi + 2 := by simp [IntKind.wrap, IntKind.bits, IntKind.signed]; omega
            go_wp2
            go_roundw
            case rel => exact ⟨k + 1, hi + 2, by omega, by omega, by go_num, rfl, HE, HBA⟩
            case measure => simp [intOf]; omega
    · have hkI : ¬ (k : Int) < (P.length : Int) := by omega
      have hg := HG.out
      rw [List.drop_of_length_le (by omega), ptsGo] at hg
      have HE := hid0 hg
      clear hg HG
      go_wp2
      go_ret
      exact ⟨by rw [← HE.out]; rfl, HB.out⟩
set_option maxRecDepth 10000 in
theorem names_none (a : Option Addr) (cap : Nat) (w : World) : Calls Tryd.prog 44 #[.slice a 0 cap] w fun e w' => e = .returned (.bool true) ∧ w' = w := by
  go_enter Tryd.func44, Tryd.ntmps44
  go_wp2
  go_rounds 1
  go_ret
  exact ⟨rfl, rfl⟩
/-- What is asked of mayBe at a set. -/
def MayC (may : List ByteArray → List (Int × Int) → Bool) (N : List ByteArray) (P : List (Int × Int)) : Prop := ∀ (nt : Bool) (a b : Option Addr) (ca cb : Nat) (w : World), P.length ≤ 1000000000 → SA w a N → RA w b P →
  Calls Tryd.prog 23 #[.agg #[.bool nt, .slice a N.length ca, .slice b P.length cb]] w fun e w' => e = .returned (.bool (may N P)) ∧ Below w.heap.size w w'
set_option maxRecDepth 10000 in
set_option maxHeartbeats 800000 in
theorem mayC_none (P : List (Int × Int)) : MayC (fun _ P => ptsF P) [] P := by
  intro nt a b ca cb w hl ha hb
  obtain ⟨w0, hw0⟩ : ∃ w0, w0 = w.alloc (.cells #[.bool nt, .slice a 0 ca, .slice b P.length cb] 25) := ⟨_, rfl⟩
  have hB0 : Below w.heap.size w w0 := by rw [hw0]; exact (Below.refl _ _).alloc (Nat.le_refl _) _
  have hX0 : w0.heap[w.heap.size]? = some (.cells #[.bool nt, .slice a 0 ca, .slice b P.length cb] 25 (0, 0)) := by rw [hw0]; exact heap_alloc_new w _
  have x1 : w0.cell? ⟨w.heap.size, 1, none⟩ = some (.slice a 0 ca) := by rw [cell_of_row _ _ _ _ _ _ hX0]; rfl
  have x2 : w0.cell? ⟨w.heap.size, 2, none⟩ = some (.slice b P.length cb) := by rw [cell_of_row _ _ _ _ _ _ hX0]; rfl
  have HN := hid0 (names_none a ca w0)
  have HP := hid0 (pts_any P b cb w0 hl (hb.below hB0))
  have HB0 := hid0 hB0
  have hf := hw0.symm
  simp only [List.length_nil]
  clear ha hb hw0 hX0 hB0
  go_enter Tryd.func23, Tryd.ntmps23
  go_wp2_with (first
    | (go_at_call 44; refine HN.out.mono ?_; rintro e w1 ⟨rfl, hw1⟩; have hw1' := hw1.symm; subst hw1'; clear hw1)
    | (go_at_call 45; refine HP.out.mono ?_; rintro e w2 ⟨rfl, hb2⟩)
    | fail)
  go_ret
  exact ⟨rfl, Below.later HB0.out hb2⟩
/-- Parts in memory: the values, each where it is asked. -/
structure PA (w : World) (c : Option Addr) (n : Nat) (vs : Nat → EV) : Prop where
  at' : ∀ i, i < n → ∃ g off, c = some ⟨g, off, none⟩ ∧ g < w.heap.size ∧ Five w g (off + i * 5) (vs i)
theorem PA.later {w w' : World} {c : Option Addr} {n : Nat} {vs : Nat → EV} (h : PA w c n vs) (k : Below w.heap.size w w') : PA w' c n vs := ⟨fun i hi => by
  obtain ⟨g, off, e, hg, h5⟩ := h.at' i hi
  exact ⟨g, off, e, Nat.lt_of_lt_of_le hg k.size, h5.keeps (Q := fun g => g < w.heap.size) hg (Keeps.ofBelow k)⟩⟩
set_option maxRecDepth 10000 in
theorem kind_is (k q : Int) (t n p r : Value) (g : Nat) (w : World) (ht : ∃ b, t = .bool b) (hn : ∃ a m c, n = .slice a m c) (hp : ∃ a m c, p = .slice a m c) (hr : ∃ a m c, r = .slice a m c) (hg : w.cell? ⟨g, 0, none⟩ = some (.int .i64 q)) :
    Calls Tryd.prog 77 #[.agg #[.int .i64 k, t, n, p, r], .pointer (some ⟨g, 0, none⟩)] w fun e w' => e = .returned (.bool (decide (k = q))) ∧ Below w.heap.size w w' := by
  obtain ⟨b, rfl⟩ := ht
  obtain ⟨a1, m1, c1, rfl⟩ := hn
  obtain ⟨a2, m2, c2, rfl⟩ := hp
  obtain ⟨a3, m3, c3, rfl⟩ := hr
  have hgl := World.block_lt_of_cell? w _ hg
  have HB : Hid (Below w.heap.size w (w.alloc (.cells #[.int .i64 k, .bool b, .slice a1 m1 c1, .slice a2 m2 c2, .slice a3 m3 c3] 28))) := hid0 ((Below.refl _ _).alloc (Nat.le_refl _) _)
  have y0 : (w.alloc (.cells #[.int .i64 k, .bool b, .slice a1 m1 c1, .slice a2 m2 c2, .slice a3 m3 c3] 28)).cell? ⟨g, 0, none⟩ = some (.int .i64 q) := (HB.out.cell hgl).trans hg
  go_enter Tryd.func77, Tryd.ntmps77
  go_wp2
  go_ret
  exact ⟨by by_cases h : k = q <;> simp [h], HB.out⟩
end Go.Proofs.YtiapefdklojhdaaDoor
namespace Go.Proofs.YtiapefdklojhdaaDoor
open Go.RowKit Go.Shelf
theorem RiseP.neg {P : List (Int × Int)} (h : RiseP P) (p : Int) (hp : p = -1) : ptF P p = false := by
  subst hp
  rw [Bool.eq_false_iff]
  intro e
  unfold ptF at e
  obtain ⟨r, hr, e⟩ := List.any_eq_true.1 e
  obtain ⟨k, hk, rfl⟩ := List.getElem_of_mem hr
  simp only [Bool.and_eq_true, decide_eq_true_eq] at e
  have := (h.1 k hk).1
  omega
theorem holdsF_eq {P : List (Int × Int)} (h : RiseP P) (nt : Bool) (N : List ByteArray) (c : ByteArray) (p : Int) : holdsF nt N P c p = (nt != (nmF N c || ptF P p)) := by
  unfold holdsF
  by_cases hp : p = -1
  · rw [h.neg p hp]; simp
  · have : (p == -1) = false := by simpa using hp
    rw [this]; simp
/-- What is asked of the binary search of a set's names. -/
def NamesC (N : List ByteArray) : Prop := ∀ (a : Option Addr) (ca : Nat) (c : ByteArray) (w : World), SA w a N → Calls Tryd.prog 82 #[.slice a N.length ca, .string c] w fun e w' => (∃ q, e = .returned (.tuple #[.int .i64 q, .bool (nmF N c)])) ∧ Below w.heap.size w w'
theorem namesC_nil : NamesC [] := fun a ca c w _ => (bs_none a ca c w).mono (fun e w' h => ⟨⟨0, h.1⟩, by rw [h.2]; exact Below.refl _ _⟩)
set_option maxRecDepth 10000 in
set_option maxHeartbeats 1600000 in
theorem holdsSorted_any (nt : Bool) (N : List ByteArray) (P : List (Int × Int)) (a b : Option Addr) (ca cb : Nat) (c : ByteArray) (p : Int) (w : World) (hN : NamesC N) (hP : RiseP P) (hl : P.length ≤ 1000000000) (ha : SA w a N) (hb : RA w b P) :
    Calls Tryd.prog 72 #[.agg #[.bool nt, .slice a N.length ca, .slice b P.length cb], .agg #[.string c, .int .i64 p]] w fun e w' => e = .returned (.bool (holdsF nt N P c p)) ∧ Below w.heap.size w w' := by
  rw [holdsF_eq hP]
  obtain ⟨w0, hw0⟩ : ∃ w0, w0 = (w.alloc (.cells #[.bool nt, .slice a N.length ca, .slice b P.length cb] 25)).alloc (.cells #[.string c, .int .i64 p] 46) := ⟨_, rfl⟩
  have hB0 : Below w.heap.size w w0 := by rw [hw0]; exact ((Below.refl _ _).alloc (Nat.le_refl _) _).alloc (by simp) _
  have hX0 : w0.heap[w.heap.size]? = some (.cells #[.bool nt, .slice a N.length ca, .slice b P.length cb] 25 (0, 0)) := by
    rw [hw0]
    exact (Below.heap_alloc _ _ _ (by simp)).trans (heap_alloc_new w _)
  have hX1 : w0.heap[w.heap.size + 1]? = some (.cells #[.string c, .int .i64 p] 46 (0, 0)) := by
    rw [hw0]
    have h := heap_alloc_new (w.alloc (.cells #[.bool nt, .slice a N.length ca, .slice b P.length cb] 25)) (.cells #[.string c, .int .i64 p] 46)
    rw [show (w.alloc (.cells #[.bool nt, .slice a N.length ca, .slice b P.length cb] 25)).heap.size = w.heap.size + 1 by simp] at h
    exact h
  have HX : Hid (∀ W, Below w0.heap.size w0 W → W.cell? ⟨w.heap.size, 0, none⟩ = some (.bool nt) ∧ W.cell? ⟨w.heap.size, 1, none⟩ = some (.slice a N.length ca) ∧ W.cell? ⟨w.heap.size, 2, none⟩ = some (.slice b P.length cb) ∧ W.cell? ⟨w.heap.size + 1, 0, none⟩ = some (.string c) ∧ W.cell? ⟨w.heap.size + 1, 1, none⟩ = some (.int .i64 p)) := hid0 (fun W hW => by
    have h0 := (hW.block _ (Array.getElem?_eq_some_iff.1 hX0).1).trans hX0
    have h1 := (hW.block _ (Array.getElem?_eq_some_iff.1 hX1).1).trans hX1
    exact ⟨by rw [cell_of_row _ _ _ _ _ _ h0]; rfl, by rw [cell_of_row _ _ _ _ _ _ h0]; rfl, by rw [cell_of_row _ _ _ _ _ _ h0]; rfl, by rw [cell_of_row _ _ _ _ _ _ h1]; rfl, by rw [cell_of_row _ _ _ _ _ _ h1]; rfl⟩)
  obtain ⟨x0, x1, x2, x3, x4⟩ := HX.out w0 (Below.refl _ _)
  have HN := hid0 (hN a ca c w0 (ha.below hB0))
  have HS : Hid (∀ W, Below w0.heap.size w0 W → Calls Tryd.prog 83 #[.slice b P.length cb, .int .i64 p, .func (.func 84) #[] #[]] W fun e w' => (∃ q, e = .returned (.tuple #[.int .i64 q, .bool (ptF P p)])) ∧ Below W.heap.size W w') := hid0 (fun W hW => search_any P b cb p W hl ((hb.below hB0).below hW) hP)
  have HB0 := hid0 hB0
  have hfold := hw0.symm
  clear ha hb hw0 hX0 hX1 hB0 hN
  generalize nmF N c = t at *
  generalize ptF P p = u at *
  cases t
  all_goals
    go_enter Tryd.func72, Tryd.ntmps72
    go_wp2_with (first
      | (go_at_call 82; refine HN.out.mono ?_; rintro e w1 ⟨⟨q1, rfl⟩, hb1⟩; obtain ⟨y0, y1, y2, y3, y4⟩ := HX.out w1 hb1; have HB1 := hid0 hb1; clear hb1)
      | (go_at_call 83; refine (HS.out _ HB1.out).mono ?_; rintro e w2 ⟨⟨q2, rfl⟩, hb2⟩; have HB2 := hid0 (Below.later HB1.out hb2); clear hb2; obtain ⟨z0, z1, z2, z3, z4⟩ := HX.out w2 HB2.out)
      | fail)
    go_ret
    exact ⟨by cases nt <;> cases u <;> rfl, Below.later HB0.out HB2.out⟩
end Go.Proofs.YtiapefdklojhdaaDoor
namespace Go.Proofs
open Go.Shelf
def Tryd.lays160_ren : Go.Shelf.Ren := ⟨fun | 160 => 74 | 232 => 87 | 231 => 86 | 227 => 88 | 234 => 90 | 233 => 89 | 236 => 92 | 235 => 91 | 228 => 97 | 271 => 100 | 151 => 99 | 197 => 98 | 120 => 104 | 152 => 103 | 260 => 102 | 137 => 73 | 119 => 105 | 224 => 106 | 225 => 107 | 217 => 85 | 266 => 96 | n => n, fun | 9 => 9 | 4 => 4 | 3 => 3 | 5 => 5 | 117 => 124 | 116 => 123 | 0 => 0 | 124 => 127 | 21 => 21 | 105 => 133 | 46 => 130 | 119 => 137 | 139 => 140 | 138 => 139 | n => n, fun | 3 => 4 | 4 => 5 | n => n⟩
theorem Tryd.lays160 : Go.Proofs.Lays.n160 Tryd.prog Tryd.lays160_ren := {
  mixed := by kernel_rfl
  f119 := Tryd.func105.trans (congrArg some (by kernel_rfl))
  f120 := Tryd.func104.trans (congrArg some (by kernel_rfl))
  f137 := Tryd.func73.trans (congrArg some (by kernel_rfl))
  f151 := Tryd.func99.trans (congrArg some (by kernel_rfl))
  f152 := Tryd.func103.trans (congrArg some (by kernel_rfl))
  f160 := Tryd.func74.trans (congrArg some (by kernel_rfl))
  f197 := Tryd.func98.trans (congrArg some (by kernel_rfl))
  f217 := Tryd.func85.trans (congrArg some (by kernel_rfl))
  f224 := Tryd.func106.trans (congrArg some (by kernel_rfl))
  f225 := Tryd.func107.trans (congrArg some (by kernel_rfl))
  f227 := Tryd.func88.trans (congrArg some (by kernel_rfl))
  f228 := Tryd.func97.trans (congrArg some (by kernel_rfl))
  f231 := Tryd.func86.trans (congrArg some (by kernel_rfl))
  f232 := Tryd.func87.trans (congrArg some (by kernel_rfl))
  f233 := Tryd.func89.trans (congrArg some (by kernel_rfl))
  f234 := Tryd.func90.trans (congrArg some (by kernel_rfl))
  f235 := Tryd.func91.trans (congrArg some (by kernel_rfl))
  f236 := Tryd.func92.trans (congrArg some (by kernel_rfl))
  f260 := Tryd.func102.trans (congrArg some (by kernel_rfl))
  f266 := Tryd.func96.trans (congrArg some (by kernel_rfl))
  f271 := Tryd.func100.trans (congrArg some (by kernel_rfl))
  t0 := Tryd.underlying0
  a0 := Tryd.isAgg0
  z0 := Tryd.sizeOf0
  v0 := Tryd.zeroValue0
  t3 := Tryd.underlying3
  a3 := Tryd.isAgg3
  z3 := Tryd.sizeOf3
  v3 := Tryd.zeroValue3
  t4 := Tryd.underlying4
  a4 := Tryd.isAgg4
  z4 := Tryd.sizeOf4
  v4 := Tryd.zeroValue4
  t5 := Tryd.underlying5
  a5 := Tryd.isAgg5
  z5 := Tryd.sizeOf5
  v5 := Tryd.zeroValue5
  t9 := Tryd.underlying9
  a9 := Tryd.isAgg9
  z9 := Tryd.sizeOf9
  v9 := Tryd.zeroValue9
  t21 := Tryd.underlying21
  a21 := Tryd.isAgg21
  z21 := Tryd.sizeOf21
  v21 := Tryd.zeroValue21
  t46 := Tryd.underlying130
  a46 := Tryd.isAgg130
  z46 := Tryd.sizeOf130
  v46 := Tryd.zeroValue130
  t105 := Tryd.underlying133
  a105 := Tryd.isAgg133
  z105 := Tryd.sizeOf133
  v105 := Tryd.zeroValue133
  t116 := Tryd.underlying123
  a116 := Tryd.isAgg123
  z116 := Tryd.sizeOf123
  t117 := Tryd.underlying124
  a117 := Tryd.isAgg124
  z117 := Tryd.sizeOf124
  v117 := Tryd.zeroValue124
  t119 := Tryd.underlying137
  a119 := Tryd.isAgg137
  z119 := Tryd.sizeOf137
  t124 := Tryd.underlying127
  a124 := Tryd.isAgg127
  z124 := Tryd.sizeOf127
  v124 := Tryd.zeroValue127
  t138 := Tryd.underlying139
  a138 := Tryd.isAgg139
  z138 := Tryd.sizeOf139
  v138 := Tryd.zeroValue139
  t139 := Tryd.underlying140
  a139 := Tryd.isAgg140
  z139 := Tryd.sizeOf140
  v139 := Tryd.zeroValue140
  g3 := by kernel_rfl
  g4 := by kernel_rfl }
def Tryd.lays137_ren : Go.Shelf.Ren := ⟨fun | 137 => 73 | 217 => 85 | 266 => 96 | n => n, fun | 9 => 9 | 5 => 5 | 3 => 3 | n => n, fun | n => n⟩
theorem Tryd.lays137 : Go.Proofs.Lays.n137 Tryd.prog Tryd.lays137_ren := {
  mixed := by kernel_rfl
  f137 := Tryd.func73.trans (congrArg some (by kernel_rfl))
  f217 := Tryd.func85.trans (congrArg some (by kernel_rfl))
  f266 := Tryd.func96.trans (congrArg some (by kernel_rfl))
  t3 := Tryd.underlying3
  a3 := Tryd.isAgg3
  z3 := Tryd.sizeOf3
  v3 := Tryd.zeroValue3
  t5 := Tryd.underlying5
  a5 := Tryd.isAgg5
  z5 := Tryd.sizeOf5
  v5 := Tryd.zeroValue5
  t9 := Tryd.underlying9
  a9 := Tryd.isAgg9
  z9 := Tryd.sizeOf9
  v9 := Tryd.zeroValue9 }
def Tryd.lays226_ren : Go.Shelf.Ren := ⟨fun | 26 => 82 | 33 => 94 | 34 => 95 | 38 => 101 | n => n, fun | 24 => 22 | 9 => 9 | 3 => 3 | 4 => 4 | 40 => 130 | 0 => 0 | n => n, fun | n => n⟩
theorem Tryd.lays226 : Go.Proofs.Lays2.n26 Tryd.prog Tryd.lays226_ren := {
  mixed := by kernel_rfl
  f26 := Tryd.func82.trans (congrArg some (by kernel_rfl))
  f33 := Tryd.func94.trans (congrArg some (by kernel_rfl))
  f34 := Tryd.func95.trans (congrArg some (by kernel_rfl))
  f38 := Tryd.func101.trans (congrArg some (by kernel_rfl))
  t0 := Tryd.underlying0
  a0 := Tryd.isAgg0
  z0 := Tryd.sizeOf0
  v0 := Tryd.zeroValue0
  t3 := Tryd.underlying3
  a3 := Tryd.isAgg3
  z3 := Tryd.sizeOf3
  v3 := Tryd.zeroValue3
  t4 := Tryd.underlying4
  a4 := Tryd.isAgg4
  z4 := Tryd.sizeOf4
  v4 := Tryd.zeroValue4
  t9 := Tryd.underlying9
  a9 := Tryd.isAgg9
  z9 := Tryd.sizeOf9
  v9 := Tryd.zeroValue9
  t24 := Tryd.underlying22
  a24 := Tryd.isAgg22
  z24 := Tryd.sizeOf22
  v24 := Tryd.zeroValue22
  t40 := Tryd.underlying130
  a40 := Tryd.isAgg130
  z40 := Tryd.sizeOf130
  v40 := Tryd.zeroValue130 }
end Go.Proofs
namespace Go.Proofs.YtiapefdklojhdaaDoor
open Go.RowKit Go.Shelf
abbrev By := List UInt8
def isLt (c : UInt8) : Bool := (decide (65 ≤ c.toNat) && decide (c.toNat ≤ 90)) || (decide (97 ≤ c.toNat) && decide (c.toNat ≤ 122))
def isDg (c : UInt8) : Bool := decide (48 ≤ c.toNat) && decide (c.toNat ≤ 57)
def isNb (c : UInt8) : Bool := isLt c || isDg c || c == 95
/-- A name. -/
def isNm (l : By) : Bool := decide (1 ≤ l.length) && decide (l.length ≤ 32) && (l.head?.any isLt) && l.all isNb
theorem bsizeN (s : ByteArray) : s.data.toList.length = s.size := by simp
theorem bget (s : ByteArray) (k : Nat) (h : k < s.size) : s.data.toList[k]? = some s[k] := by
  rw [List.getElem?_eq_getElem (by simpa using h)]; rfl
def gd (j : Nat) (c : UInt8) : Bool := isLt c || (decide (j ≠ 0) && isNb c)
theorem isNm_iff (l : By) : isNm l = true ↔ 1 ≤ l.length ∧ l.length ≤ 32 ∧ ∀ j c, l[j]? = some c → gd j c = true := by
  cases l with
  | nil => simp [isNm]
  | cons a r =>
    simp only [isNm, List.head?_cons, Option.any_some, Bool.and_eq_true, decide_eq_true_eq, List.all_eq_true]
    constructor
    · rintro ⟨⟨⟨h1, h2⟩, h3⟩, h4⟩
      refine ⟨h1, h2, fun j c hc => ?_⟩
      cases j with
      | zero => simp at hc; subst hc; simp [gd, h3]
      | succ j => simp [gd, h4 c (List.mem_of_getElem? hc)]
    · rintro ⟨h1, h2, h3⟩
      have h0 : isLt a = true := by have := h3 0 a (by simp); simpa [gd] using this
      refine ⟨⟨⟨h1, h2⟩, h0⟩, fun c hc => ?_⟩
      obtain ⟨j, hj, e⟩ := List.getElem_of_mem hc
      have := h3 j c (by rw [List.getElem?_eq_getElem hj, e])
      simp only [gd, Bool.or_eq_true, Bool.and_eq_true] at this
      rcases this with h | h
      · simp [isNb, h]
      · exact h.2
theorem isNm_bad (l : By) (j : Nat) (c : UInt8) (hc : l[j]? = some c) (h : gd j c = false) : isNm l = false := by
  rw [Bool.eq_false_iff]
  intro hn
  have := ((isNm_iff l).1 hn).2.2 j c hc
  rw [h] at this
  simp at this
theorem all256N {p : UInt8 → Prop} [DecidablePred p] (h : ∀ n, n < 256 → p (UInt8.ofNat n)) (c : UInt8) : p c := by
  have := h c.toNat c.toNat_lt
  rwa [UInt8.ofNat_toNat] at this
def letB : ByteArray := (⟨#[65, 66, 67, 68, 69, 70, 71, 72, 73, 74, 75, 76, 77, 78, 79, 80, 81, 82, 83, 84, 85, 86, 87, 88, 89, 90, 97, 98, 99, 100, 101, 102, 103, 104, 105, 106, 107, 108, 109, 110, 111, 112, 113, 114, 115, 116, 117, 118, 119, 120, 121, 122]⟩ : ByteArray)
def nbB : ByteArray := (⟨#[65, 66, 67, 68, 69, 70, 71, 72, 73, 74, 75, 76, 77, 78, 79, 80, 81, 82, 83, 84, 85, 86, 87, 88, 89, 90, 97, 98, 99, 100, 101, 102, 103, 104, 105, 106, 107, 108, 109, 110, 111, 112, 113, 114, 115, 116, 117, 118, 119, 120, 121, 122, 48, 49, 50, 51, 52, 53, 54, 55, 56, 57, 95]⟩ : ByteArray)
theorem idx_letters (c : UInt8) : decide ((0 : Int) ≤ Lib.indexByte letB.data.toList c) = isLt c := all256N (p := fun c => decide ((0 : Int) ≤ Lib.indexByte letB.data.toList c) = isLt c) (by decide +kernel) c
theorem in_nb (c : UInt8) : nbB.data.toList.contains c = isNb c := all256N (p := fun c => nbB.data.toList.contains c = isNb c) (by decide +kernel) c
theorem ascii_nb : ∀ (j : Nat) (b : UInt8), nbB.data.toList[j]? = some b → b.toNat < 128 := by
  have h : nbB.data.toList.all (fun b => decide (b.toNat < 128)) = true := by decide +kernel
  intro j b hj
  exact of_decide_eq_true (List.all_eq_true.1 h b (List.mem_of_getElem? hj))
theorem drop_nil {p : UInt8 → Bool} : ∀ (l : List UInt8), l.dropWhile p = [] ↔ l.all p = true
  | [] => by simp
  | a :: l => by
    rw [List.dropWhile_cons, List.all_cons]
    cases h : p a with
    | true => simp [drop_nil l]
    | false => simp
theorem trim_nil (l : List UInt8) : (Lib.trimS l nbB.data.toList = []) ↔ l.all isNb = true := by
  have hf : (fun c => nbB.data.toList.contains c) = isNb := funext in_nb
  unfold Lib.trimS Lib.trimLeftS Lib.trimRightS
  rw [hf]
  constructor
  · intro h
    have h1 := (drop_nil _).1 h
    cases h2 : l.all isNb with
    | true => rfl
    | false =>
      exfalso
      have h3 : l.reverse.dropWhile isNb ≠ [] := fun e => by
        have := (drop_nil _).1 e
        rw [List.all_reverse, h2] at this
        cases this
      cases h4 : l.reverse.dropWhile isNb with
      | nil => exact h3 h4
      | cons a r =>
        have h5 : isNb a = false := by
          have := List.head?_dropWhile_not isNb l.reverse
          rw [h4] at this
          simpa using this
        rw [h4] at h1
        rw [List.all_eq_true] at h1
        have := h1 a (by simp)
        rw [h5] at this
        cases this
  · intro h
    have : l.reverse.dropWhile isNb = [] := (drop_nil _).2 (by rw [List.all_reverse]; exact h)
    rw [this]
    rfl
set_option maxRecDepth 10000 in
set_option maxHeartbeats 800000 in
theorem isName_any (s : ByteArray) (w : World) : Calls Tryd.prog 60 #[.string s] w fun e w' => e = .returned (.bool (isNm s.data.toList)) ∧ Below w.heap.size w w' := by
  have hsz : s.data.toList.length = s.size := by simp
  by_cases h0 : s = ⟨#[]⟩
  · subst h0
    go_enter Tryd.func60, Tryd.ntmps60
    go_wp2
    go_ret
    exact ⟨rfl, Below.refl _ _⟩
  · have hb0 := str_beq s ⟨#[]⟩ h0
    have hp : 0 < s.size := by
      rcases Nat.eq_zero_or_pos s.size with h | h
      · exfalso
        apply h0
        apply ByteArray.ext
        have : s.data.size = 0 := h
        exact Array.eq_empty_of_size_eq_zero this
      · exact h
    have he : s.toList.isEmpty = false := by
      rw [ByteArray.toList_eq]
      cases hc : s.data.toList with
      | nil => rw [hc] at hsz; simp at hsz; omega
      | cons a r => rfl
    by_cases h32 : s.size ≤ 32
    · have h32I : ¬ (32 : Int) < (s.size : Int) := by omega
      have hI : ∀ W, Calls Tryd.prog 73 #[.string letB, .int .u8 (s[0].toNat : Int)] W fun e w' => e = .returned (.int .i64 (Lib.indexByte letB.data.toList s[0])) ∧ w' = W := fun W => by
        have h := Any.strings_IndexByte Tryd.lays137 letB (s[0].toNat : Int) W
        have e1 : ((s[0].toNat : Int).toNat.toUInt8) = s[0] := by simp
        rw [e1] at h
        exact h
      have hT : ∀ W, Calls Tryd.prog 74 #[.string s, .string nbB] W fun e w' => e = .returned (.string ⟨(Lib.trimS s.data.toList nbB.data.toList).toArray⟩) ∧ Below W.heap.size W w' := fun W =>
        Any.strings_Trim_laid Tryd.lays160 (by kernel_rfl) s nbB W (by omega) (by decide) ascii_nb
      have hnm : isNm s.data.toList = (decide ((0 : Int) ≤ Lib.indexByte letB.data.toList s[0]) && (⟨(Lib.trimS s.data.toList nbB.data.toList).toArray⟩ : ByteArray).toList.isEmpty) := by
        rw [idx_letters]
        have hh : s.data.toList.head? = some s[0] := by
          rw [List.head?_eq_getElem?]; exact bget s 0 hp
        have ht : (⟨(Lib.trimS s.data.toList nbB.data.toList).toArray⟩ : ByteArray).toList.isEmpty = s.data.toList.all isNb := by
          rw [Bool.eq_iff_iff, ← trim_nil, List.isEmpty_iff, ByteArray.toList_eq]
        rw [ht]
        have d1 : decide (1 ≤ s.data.toList.length) = true := decide_eq_true (by omega)
        have d2 : decide (s.data.toList.length ≤ 32) = true := decide_eq_true (by omega)
        unfold isNm
        rw [hh, d1, d2]
        simp
      rw [hnm]
      have HI := hid0 hI
      have HT := hid0 hT
      clear hI hT hnm
      generalize Lib.indexByte letB.data.toList s[0] = q at *
      generalize (⟨(Lib.trimS s.data.toList nbB.data.toList).toArray⟩ : ByteArray) = tr at *
      unfold letB at HI
      unfold nbB at HT
      have hp0 : (0 : Int) < (s.size : Int) := by omega
      by_cases hq : (0 : Int) ≤ q
      · have hqd : decide ((0 : Int) ≤ q) = true := decide_eq_true hq
        go_enter Tryd.func60, Tryd.ntmps60
        go_wp2_with (first
          | (go_at_call 73; refine (HI.out _).mono ?_; rintro e w1 ⟨rfl, hw1⟩; have hw1' := hw1.symm; subst hw1'; clear hw1)
          | (go_at_call 74; refine (HT.out _).mono ?_; rintro e w2 ⟨rfl, hb2⟩)
          | fail)
        go_ret
        exact ⟨by simp [hq], hb2⟩
      · have hqd : decide ((0 : Int) ≤ q) = false := decide_eq_false hq
        go_enter Tryd.func60, Tryd.ntmps60
        go_wp2_with (first
          | (go_at_call 73; refine (HI.out _).mono ?_; rintro e w1 ⟨rfl, hw1⟩; have hw1' := hw1.symm; subst hw1'; clear hw1)
          | fail)
        go_ret
        exact ⟨by rw [hqd]; rfl, Below.refl _ _⟩
    · have h32I : (32 : Int) < (s.size : Int) := by omega
      have hf : isNm s.data.toList = false := by
        unfold isNm
        rw [hsz, decide_eq_false (show ¬ s.size ≤ 32 from h32)]
        simp
      rw [hf]
      go_enter Tryd.func60, Tryd.ntmps60
      go_wp2
      go_ret
      exact ⟨rfl, Below.refl _ _⟩
/-- Names one behind the other, each above the one ahead. -/
def nmsGo : Option ByteArray → List ByteArray → Bool
  | _, [] => true
  | p, s :: N => isNm s.data.toList && ((match p with | none => true | some q => decide (q.data.toList < s.data.toList)) && nmsGo (some s) N)
def nmsF (N : List ByteArray) : Bool := nmsGo none N
theorem le_not (a b : ByteArray) : (Op.bytesLess a.toList b.toList || a.toList == b.toList) = !decide (b.data.toList < a.data.toList) := by
  rw [ByteArray.toList_eq, ByteArray.toList_eq, bytesLess_eq, Bool.eq_iff_iff]
  simp only [Bool.or_eq_true, decide_eq_true_eq, beq_iff_eq, Bool.not_eq_true', decide_eq_false_iff_not]
  constructor
  · rintro (h | h)
    · exact fun h2 => List.lt_irrefl _ (List.lt_trans h h2)
    · rw [h]; exact List.lt_irrefl _
  · intro h
    rcases Classical.em (a.data.toList < b.data.toList) with h1 | h1
    · exact .inl h1
    · exact .inr (List.le_antisymm (List.not_lt.1 h) (List.not_lt.1 h1))
theorem nmsGo_bad {s : ByteArray} {N : List ByteArray} {p : Option ByteArray} (h : isNm s.data.toList = false) : nmsGo p (s :: N) = false := by
  unfold nmsGo
  rw [h]
  rfl
set_option maxRecDepth 10000 in
set_option maxHeartbeats 1600000 in
theorem names_any (N : List ByteArray) (a : Option Addr) (cap : Nat) (w : World) (hl : N.length ≤ 1000000000) (ha : SA w a N) :
    Calls Tryd.prog 44 #[.slice a N.length cap] w fun e w' => e = .returned (.bool (nmsF N)) ∧ Below w.heap.size w w' := by
  have HA := hid0 ha
  clear ha
  obtain ⟨B, hB⟩ : ∃ B, nmsF N = B := ⟨_, rfl⟩
  rw [hB]
  have HB0 := hid0 hB
  clear hB
  go_enter Tryd.func44, Tryd.ntmps44
  go_wp2
  go_loopw [3, 4, 7] (fun _ _ i wr => ∃ k : Nat, k ≤ N.length ∧ i = .int .i64 (k : Int) ∧ Hid (B = nmsGo (if k = 0 then none else N[k - 1]?) (N.drop k)) ∧ Hid (Below w.heap.size w wr)) (fun _ _ i _ => N.length - (intOf i).toNat)
  case atStart => exact ⟨0, Nat.zero_le _, rfl, hid0 (by rw [← HB0.out]; rfl), hid0 (Below.refl _ _)⟩
  case round =>
    clear HB0
    obtain ⟨k, hk, rfl, HE, HB⟩ := hrel
    by_cases hlt : k < N.length
    · have hkI : (k : Int) < (N.length : Int) := by omega
      have hkI0 : (0 : Int) ≤ (k : Int) := by omega
      obtain ⟨b, off, rfl, hbw, hc⟩ := HA.out.at' k hlt
      have hc' := (HB.out.cell (p := ⟨b, off + k, none⟩) hbw).trans hc
      have HD : Hid (N.drop k = N[k] :: N.drop (k + 1)) := hid0 (List.drop_eq_getElem_cons hlt)
      have HIN := hid0 (fun W => isName_any N[k] W)
      cases hn : isNm N[k].data.toList with
      | false =>
        have hBf : B = false := by rw [HE.out, HD.out]; exact nmsGo_bad hn
        subst hBf
        rw [hn] at HIN
        generalize N[k] = s at *
        clear hc
        go_wp2_with (first
          | (go_at_call 60; refine (HIN.out _).mono ?_; rintro e w1 ⟨rfl, hb1⟩; have HB1 := hid0 (Below.later HB.out hb1); clear hb1)
          | fail)
        go_ret
        exact ⟨rfl, HB1.out⟩
      | true =>
        rw [hn] at HIN
        cases k with
        | zero =>
          have HE2 : Hid (B = nmsGo (some N[0]) (N.drop 1)) := hid0 (by
            have h := HE.out
            rw [HD.out] at h
            unfold nmsGo at h
            rw [hn] at h
            simpa using h)
          have HN1 : Hid (N[0]? = some N[0]) := hid0 (List.getElem?_eq_getElem hlt)
          generalize N[0] = s at *
          clear hc
          rw [Nat.add_zero] at hc'
          go_wp2_with (first
            | (go_at_call 60; refine (HIN.out _).mono ?_; rintro e w1 ⟨rfl, hb1⟩; have HB1 := hid0 (Below.later HB.out hb1); clear hb1)
            | fail)
          go_roundw
          case rel => exact ⟨1, by omega, by go_num, hid0 (by rw [HE2.out, if_neg (by decide), HN1.out]), HB1⟩
          case measure => simp [intOf]; omega
        | succ k =>
          obtain ⟨b', off', e', hbw', hd⟩ := HA.out.at' k (by omega)
          cases e'
          have hd' := (HB.out.cell (p := ⟨b, off + k, none⟩) hbw').trans hd
          have hpos : (0 : Int) < ((k + 1 : Nat) : Int) := by omega
          have hsub : IntKind.i64.wrap (((k + 1 : Nat) : Int) - 1) = (k : Int) := by simp [IntKind.wrap, IntKind.bits, IntKind.signed]; omega
          have hk0 : (0 : Int) ≤ (k : Int) := by omega
          have hkl : (k : Int) < (N.length : Int) := by omega
          have HE2 : Hid (B = (decide (N[k].data.toList < N[k + 1].data.toList) && nmsGo (some N[k + 1]) (N.drop (k + 1 + 1)))) := hid0 (by
            have h := HE.out
            rw [HD.out, if_neg (by omega), Nat.add_sub_cancel, List.getElem?_eq_getElem (by omega : k < N.length)] at h
            unfold nmsGo at h
            rw [hn] at h
            simpa using h)
          have hcmp := le_not N[k + 1] N[k]
          have HN1 : Hid (N[k + 1]? = some N[k + 1]) := hid0 (List.getElem?_eq_getElem hlt)
          generalize N[k + 1] = s at *
          generalize N[k] = p at *
          clear hc hd
          cases hlt2 : decide (p.data.toList < s.data.toList) with
          | true =>
            rw [hlt2] at hcmp HE2
            go_wp2_with (first
              | (go_at_call 60; refine (HIN.out _).mono ?_; rintro e w1 ⟨rfl, hb1⟩; have q1 := (hb1.cell (p := ⟨b, off + k, none⟩) (Nat.lt_of_lt_of_le hbw' HB.out.size)).trans hd'; have HB1 := hid0 (Below.later HB.out hb1); clear hb1)
              | fail)
            go_roundw
            case rel => exact ⟨k + 2, by omega, by go_num, hid0 (by rw [HE2.out, if_neg (by omega), show k + 2 - 1 = k + 1 from rfl, HN1.out]; rfl), HB1⟩
            case measure => simp [intOf]; omega
          | false =>
            rw [hlt2] at hcmp HE2
            have hBf : B = false := by rw [HE2.out]; rfl
            subst hBf
            go_wp2_with (first
              | (go_at_call 60; refine (HIN.out _).mono ?_; rintro e w1 ⟨rfl, hb1⟩; have q1 := (hb1.cell (p := ⟨b, off + k, none⟩) (Nat.lt_of_lt_of_le hbw' HB.out.size)).trans hd'; have HB1 := hid0 (Below.later HB.out hb1); clear hb1)
              | fail)
            go_ret
            exact ⟨rfl, HB1.out⟩
    · have hkI : ¬ (k : Int) < (N.length : Int) := by omega
      have hBt : B = true := by rw [HE.out, List.drop_eq_nil_of_le (by omega)]; unfold nmsGo; rfl
      subst hBt
      go_wp2
      go_ret
      exact ⟨rfl, HB.out⟩
end Go.Proofs.YtiapefdklojhdaaDoor
namespace Go.Proofs.YtiapefdklojhdaaDoor
open Go.RowKit Go.Shelf
def mayF (N : List ByteArray) (P : List (Int × Int)) : Bool := nmsF N && ptsF P
set_option maxRecDepth 10000 in
set_option maxHeartbeats 800000 in
theorem mayC_any (N : List ByteArray) (P : List (Int × Int)) (hN : N.length ≤ 1000000000) : MayC mayF N P := by
  intro nt a b ca cb w hl ha hb
  obtain ⟨w0, hw0⟩ : ∃ w0, w0 = w.alloc (.cells #[.bool nt, .slice a N.length ca, .slice b P.length cb] 25) := ⟨_, rfl⟩
  have hB0 : Below w.heap.size w w0 := by rw [hw0]; exact (Below.refl _ _).alloc (Nat.le_refl _) _
  have hX0 : w0.heap[w.heap.size]? = some (.cells #[.bool nt, .slice a N.length ca, .slice b P.length cb] 25 (0, 0)) := by rw [hw0]; exact heap_alloc_new w _
  have x1 : w0.cell? ⟨w.heap.size, 1, none⟩ = some (.slice a N.length ca) := by rw [cell_of_row _ _ _ _ _ _ hX0]; rfl
  have HX : Hid (∀ W, Below w0.heap.size w0 W → W.cell? ⟨w.heap.size, 2, none⟩ = some (.slice b P.length cb)) := hid0 (fun W hW => by rw [cell_of_row _ _ _ _ _ _ ((hW.block _ (Array.getElem?_eq_some_iff.1 hX0).1).trans hX0)]; rfl)
  have HN := hid0 (names_any N a ca w0 hN (ha.below hB0))
  have HP := hid0 (fun (W : World) (hW : Below w0.heap.size w0 W) => pts_any P b cb W hl (hb.below (Below.later hB0 hW)))
  have HB0 := hid0 hB0
  have hf := hw0.symm
  unfold mayF
  clear ha hb hw0 hX0 hB0
  cases hn : nmsF N with
  | true =>
    rw [hn] at HN
    go_enter Tryd.func23, Tryd.ntmps23
    go_wp2_with (first
      | (go_at_call 44; refine HN.out.mono ?_; rintro e w1 ⟨rfl, hb1⟩; have q2 := HX.out w1 hb1; have HB1 := hid0 hb1; clear hb1)
      | (go_at_call 45; refine (HP.out w1 HB1.out).mono ?_; rintro e w2 ⟨rfl, hb2⟩; have HB2 := hid0 hb2; clear hb2)
      | fail)
    go_ret
    exact ⟨rfl, Below.later (Below.later HB0.out HB1.out) HB2.out⟩
  | false =>
    rw [hn] at HN
    go_enter Tryd.func23, Tryd.ntmps23
    go_wp2_with (first
      | (go_at_call 44; refine HN.out.mono ?_; rintro e w1 ⟨rfl, hb1⟩; have q2 := HX.out w1 hb1; have HB1 := hid0 hb1; clear hb1)
      | fail)
    go_ret
    exact ⟨rfl, Below.later HB0.out HB1.out⟩
/-- Names that rise. -/
def NmRise (N : List ByteArray) : Prop := ∀ i j (hi : i < N.length) (hj : j < N.length), i < j → N[i].data.toList < N[j].data.toList
theorem nmsGo_rise : ∀ (N : List ByteArray) (p : Option ByteArray), nmsGo p N = true → NmRise N ∧ ∀ q, p = some q → ∀ i (h : i < N.length), q.data.toList < N[i].data.toList := by
  intro N
  induction N with
  | nil => intro p _; exact ⟨fun i j hi => absurd hi (Nat.not_lt_zero _), fun q _ i hi => absurd hi (Nat.not_lt_zero _)⟩
  | cons s N ih =>
    intro p h
    unfold nmsGo at h
    simp only [Bool.and_eq_true] at h
    obtain ⟨_, h1, h2⟩ := h
    obtain ⟨h3, h4⟩ := ih (some s) h2
    refine ⟨fun i j hi hj hij => ?_, fun q e i hi => ?_⟩
    · cases j with
      | zero => omega
      | succ j =>
        cases i with
        | zero => exact h4 s rfl j (by simpa using hj)
        | succ i => exact h3 i j (by simpa using hi) (by simpa using hj) (by omega)
    · subst e
      have hqs : q.data.toList < s.data.toList := by simpa using h1
      cases i with
      | zero => exact hqs
      | succ i => exact List.lt_trans hqs (h4 s rfl i (by simpa using hi))
theorem nms_rise {N : List ByteArray} (h : nmsF N = true) : NmRise N := (nmsGo_rise N none h).1
theorem least_false (p : Nat → Bool) : ∀ n, p n = false → ∃ k, k ≤ n ∧ (∀ t, t < k → p t = true) ∧ p k = false := by
  intro n
  induction n using Nat.strongRecOn with
  | ind n ih =>
    intro h
    rcases Classical.em (∃ t, t < n ∧ p t = false) with ⟨t, ht, hp⟩ | hno
    · obtain ⟨k, hk, h1, h2⟩ := ih t ht hp
      exact ⟨k, by omega, h1, h2⟩
    · refine ⟨n, Nat.le_refl _, fun t ht => ?_, h⟩
      cases hp : p t with
      | true => rfl
      | false => exact absurd ⟨t, ht, hp⟩ hno
theorem nm_search (N : List ByteArray) (hN : NmRise N) (x : ByteArray) (Sx : Nat → ByteArray) (h1 : ∀ j (h : j < N.length), Sx j = N[j]) (h2 : ∀ j, N.length ≤ j → Sx j = x) (I : Nat) (hI : Lib.bsGo (fun t => Op.bytesLess (Sx t).toList x.toList) N.length 0 N.length = I) : decide (I < N.length ∧ Sx I = x) = nmF N x := by
  have hless : ∀ t, Op.bytesLess (Sx t).toList x.toList = decide ((Sx t).data.toList < x.data.toList) := fun t => by rw [ByteArray.toList_eq, ByteArray.toList_eq, bytesLess_eq]
  obtain ⟨k, hk, ht, hf⟩ := least_false (fun t => Op.bytesLess (Sx t).toList x.toList) N.length (by rw [hless, h2 _ (Nat.le_refl _)]; exact decide_eq_false (List.lt_irrefl _))
  have hge : ∀ t, k ≤ t → Op.bytesLess (Sx t).toList x.toList = false := fun t hkt => by
    rw [hless]
    apply decide_eq_false
    intro hlt
    rcases Nat.lt_or_ge t N.length with htl | htl
    · rw [h1 t htl] at hlt
      rw [hless, h1 k (by omega)] at hf
      rcases Nat.eq_or_lt_of_le hkt with rfl | hkt'
      · exact of_decide_eq_false hf hlt
      · exact of_decide_eq_false hf (List.lt_trans (hN k t (by omega) htl hkt') hlt)
    · rw [h2 t htl] at hlt
      exact List.lt_irrefl _ hlt
  have hIk : I = k := by
    rw [← hI]
    exact Lib.bsGo_spec _ k ht hge N.length 0 N.length (by omega) (Nat.zero_le _) hk
  subst hIk
  rw [Bool.eq_iff_iff, decide_eq_true_eq]
  unfold nmF
  rw [List.any_eq_true]
  constructor
  · rintro ⟨hlt, e⟩
    exact ⟨N[I], List.getElem_mem hlt, by rw [h1 I hlt] at e; simpa using e⟩
  · rintro ⟨y, hy, e⟩
    have e' : y = x := by simpa using e
    subst e'
    obtain ⟨j, hj, rfl⟩ := List.getElem_of_mem hy
    have hjI : I = j := by
      rcases Nat.lt_trichotomy I j with h | h | h
      · exfalso
        rw [hless, h1 I (by omega)] at hf
        exact of_decide_eq_false hf (hN I j (by omega) hj h)
      · exact h
      · exfalso
        have := ht j h
        rw [hless, h1 j hj] at this
        exact List.lt_irrefl _ (of_decide_eq_true this)
    subst hjI
    exact ⟨hj, h1 I hj⟩
theorem namesC_rise (N : List ByteArray) (hN : NmRise N) (hl : N.length ≤ 1000000000) : NamesC N := by
  intro a ca c w ha
  match N, hN, hl, ha with
  | [], _, _, ha => exact namesC_nil a ca c w ha
  | s :: N, hN, hl, ha =>
    obtain ⟨b, off, rfl, hb, _⟩ := ha.at' 0 (by simp)
    have hcell : ∀ j, j < (s :: N).length → w.cell? ⟨b, off + j, none⟩ = some (.string (if h : j < (s :: N).length then (s :: N)[j] else c)) := fun j hj => by
      obtain ⟨b', off', e, _, h2⟩ := ha.at' j hj
      cases e
      rw [h2, dif_pos hj]
    have h := Any2.slices_BinarySearch_string Tryd.lays226 b off (s :: N).length ca (fun j => if h : j < (s :: N).length then (s :: N)[j] else c) c w (by omega) hcell
    have hd := nm_search (s :: N) hN c (fun j => if h : j < (s :: N).length then (s :: N)[j] else c) (fun j hj => dif_pos hj) (fun j hj => dif_neg (by omega)) _ rfl
    rw [hd] at h
    refine Calls.mono h ?_
    intro e w' hh
    obtain ⟨he, q, hw⟩ := hh
    exact ⟨⟨_, he⟩, by rw [hw]; exact ⟨rfl, rfl, rfl, Nat.le_refl _, fun _ _ => rfl⟩⟩
end Go.Proofs.YtiapefdklojhdaaDoor
namespace Go.Proofs.YtiapefdklojhdaaDoor
open Go.RowKit Go.Shelf
theorem row_cell {w : World} {b : Nat} {v : Value} {t : TypeId} (h : row w b v t) : w.cell? ⟨b, 0, none⟩ = some v := by
  unfold row at h
  rw [cell_of_row _ _ _ _ _ _ h]; rfl
set_option maxRecDepth 10000 in
/-- A node that was gone on from at the place. -/
theorem once_skip (p : Int) (l o : Nat) (w : World) (hl : row w l (.int .i64 p) 3) : Calls Tryd.prog 78 #[.int .i64 p, .pointer (some ⟨l, 0, none⟩), .pointer (some ⟨o, 0, none⟩)] w fun e w' => e = .returned (.tuple #[]) ∧ w' = w := by
  have c0 := row_cell hl
  clear hl
  go_enter Tryd.func78, Tryd.ntmps78
  go_wp2
  go_end0
  exact ⟨rfl, rfl⟩
set_option maxRecDepth 10000 in
set_option maxHeartbeats 800000 in
/-- A set's node that was not. -/
theorem once_set (p q : Int) (l o r e n : Nat) (w : World) (Q : Ending → World → Prop) (hq : p ≠ q) (hl : row w l (.int .i64 q) 3) (ho : row w o (setF r e n) 90)
    (h : Calls Tryd.prog 66 #[.int .i64 p, .pointer (some ⟨r, 0, none⟩), .pointer (some ⟨e, 0, none⟩), .pointer (some ⟨n, 0, none⟩)] (w.setCell ⟨l, 0, none⟩ (.int .i64 p)) fun e w' => e = .returned (.tuple #[]) ∧ Q e w') :
    Calls Tryd.prog 78 #[.int .i64 p, .pointer (some ⟨l, 0, none⟩), .pointer (some ⟨o, 0, none⟩)] w fun e w' => e = .returned (.tuple #[]) ∧ Q e w' := by
  have c0 := row_cell hl
  have f0 : w.frozen? ⟨l, 0, none⟩ = false := frozen_of_row _ _ _ _ _ hl
  have hne : o ≠ l := by
    rintro rfl
    unfold row at hl ho
    rw [hl] at ho
    cases ho
  have c1 : (w.setCell ⟨l, 0, none⟩ (.int .i64 p)).cell? ⟨o, 0, none⟩ = some (setF r e n) := row_cell ((Below.heap_setCell w _ _ o hne).trans ho)
  unfold setF ptr at c1
  have HH := hid0 h
  clear hl ho h hne
  go_enter Tryd.func78, Tryd.ntmps78
  go_wp2_with (go_at_call 66; refine HH.out.mono ?_; rintro e w1 ⟨rfl, hw1⟩)
  go_end0
  exact ⟨rfl, hw1⟩
set_option maxRecDepth 10000 in
set_option maxHeartbeats 800000 in
theorem once_fork (p q : Int) (l o b : Nat) (w : World) (Q : Ending → World → Prop) (hq : p ≠ q) (hl : row w l (.int .i64 q) 3) (ho : row w o (forkF b) 90)
    (h : Calls Tryd.prog 80 #[.int .i64 p, .pointer (some ⟨b, 0, none⟩)] (w.setCell ⟨l, 0, none⟩ (.int .i64 p)) fun e w' => e = .returned (.tuple #[]) ∧ Q e w') :
    Calls Tryd.prog 78 #[.int .i64 p, .pointer (some ⟨l, 0, none⟩), .pointer (some ⟨o, 0, none⟩)] w fun e w' => e = .returned (.tuple #[]) ∧ Q e w' := by
  have c0 := row_cell hl
  have f0 : w.frozen? ⟨l, 0, none⟩ = false := frozen_of_row _ _ _ _ _ hl
  have hne : o ≠ l := by
    rintro rfl
    unfold row at hl ho
    rw [hl] at ho
    cases ho
  have c1 : (w.setCell ⟨l, 0, none⟩ (.int .i64 p)).cell? ⟨o, 0, none⟩ = some (forkF b) := row_cell ((Below.heap_setCell w _ _ o hne).trans ho)
  unfold forkF ptr at c1
  have HH := hid0 h
  clear hl ho h hne
  go_enter Tryd.func78, Tryd.ntmps78
  go_wp2_with (go_at_call 80; refine HH.out.mono ?_; rintro e w1 ⟨rfl, hw1⟩)
  go_end0
  exact ⟨rfl, hw1⟩
set_option maxRecDepth 10000 in
set_option maxHeartbeats 800000 in
theorem tramp1 (p : Int) (b : Nat) (v : Value) (w : World) (Q : Ending → World → Prop) (hb : row w b v 90) (h : CallV v p w fun e w' => e = .returned (.tuple #[]) ∧ Q e w') :
    Calls Tryd.prog 81 #[.int .i64 p, .pointer (some ⟨b, 0, none⟩)] w fun e w' => e = .returned (.tuple #[]) ∧ Q e w' := by
  have c0 := row_cell hb
  clear hb
  rcases h with ⟨b', rfl, h⟩ | ⟨l, o, rfl, h⟩ | ⟨b', rfl, h⟩
  · unfold finV ptr at c0
    have HH := hid0 h
    clear h
    go_enter Tryd.func81, Tryd.ntmps81
    go_wp2_with (go_at_call 54; refine HH.out.mono ?_; rintro e w1 ⟨rfl, hw1⟩)
    go_end0
    exact ⟨rfl, hw1⟩
  · unfold onceV ptr at c0
    have HH := hid0 h
    clear h
    go_enter Tryd.func81, Tryd.ntmps81
    go_wp2_with (go_at_call 78; refine HH.out.mono ?_; rintro e w1 ⟨rfl, hw1⟩)
    go_end0
    exact ⟨rfl, hw1⟩
  · unfold trampV ptr at c0
    have HH := hid0 h
    clear h
    go_enter Tryd.func81, Tryd.ntmps81
    go_wp2_with (go_at_call 81; refine HH.out.mono ?_; rintro e w1 ⟨rfl, hw1⟩)
    go_end0
    exact ⟨rfl, hw1⟩
/-- What is asked of each way of several. -/
def VisOk (base R : Nat) (Y : Lay) (G : List Nd) (waited : List Nat) (u : Value) (p : Int) (f : Nat) (y : Nat) : Prop :=
  ∀ s s' w, vis G p f y s = some s' → s'.wait.length ≤ 1000000 → SIn w base R Y G waited u s → CallV (Y.val y) p w (Vp base R Y G waited u w s')
theorem wait_le {G : List Nd} {p : Int} {f : Nat} {ys : List Nat} {s s' : St} (h : visL G p f ys s = some s') : s.wait.length ≤ s'.wait.length := by
  obtain ⟨l, e⟩ := ((vis_more G p f).2 ys s s' h).wait
  rw [e]; simp
set_option maxRecDepth 10000 in
set_option maxHeartbeats 1600000 in
theorem fork1 {base R : Nat} {Y : Lay} {G : List Nd} {waited : List Nat} {u : Value} (p : Int) (f : Nat) (ys : List Nat) (hys : ys.length ≤ 1000000) (IH : ∀ y, y ∈ ys → VisOk base R Y G waited u p f y) (s s' : St) (hv : visL G p f ys s = some s') (hw8 : s'.wait.length ≤ 1000000) (b : Nat) (v : Value) (w : World)
    (hs : SIn w base R Y G waited u s) (hb : row w b v 109) (hW : WA w (fun _ => True) v (ys.map Y.val)) :
    Calls Tryd.prog 80 #[.int .i64 p, .pointer (some ⟨b, 0, none⟩)] w (Vp base R Y G waited u w s') := by
  have c0 := row_cell hb
  obtain ⟨a, cap, rfl, hA⟩ := hW.form
  rw [List.length_map] at c0
  have HA : Hid (∀ k (h : k < ys.length) W, Kp base w W → ∃ b off, a = some ⟨b, off, none⟩ ∧ W.cell? ⟨b, off + k, none⟩ = some (Y.val ys[k])) := hid0 (fun k h W hk => by
    obtain ⟨b, off, cur, e1, _, e3, e4⟩ := hA k (by rw [List.length_map]; exact h)
    refine ⟨b, off, e1, ?_⟩
    rw [cell_of_row _ _ _ _ _ _ (hk.rows _ _ _ _ e3 (by decide) (by decide) (by decide)), e4]
    simp)
  have HS := hid0 hs
  have HV := hid0 hv
  have HI := hid0 IH
  clear hs hb hW hA hv IH
  go_enter Tryd.func80, Tryd.ntmps80
  go_wp2
  go_loopw [4, 7] (fun _ i wr => ∃ (k : Nat) (t : St), k ≤ ys.length ∧ i = .int .i64 (k : Int) ∧ Hid (visL G p f (ys.drop k) t = some s') ∧ Hid (SIn wr base R Y G waited u t) ∧ Hid (Kp base w wr)) (fun _ i _ => ys.length - (intOf i).toNat)
  case atStart => exact ⟨0, s, Nat.zero_le _, rfl, HV, HS, hid0 (Kp.refl _ _)⟩
  case round =>
    clear HS HV
    obtain ⟨k, t, hk, rfl, HV, HS, HK⟩ := hrel
    by_cases hlt : k < ys.length
    · have hkI : (k : Int) < (ys.length : Int) := by omega
      have hkI0 : (0 : Int) ≤ (k : Int) := by omega
      obtain ⟨b1, off, rfl, hc⟩ := HA.out k hlt wr HK.out
      have hv1 := HV.out
      rw [List.drop_eq_getElem_cons hlt, visL] at hv1
      cases hv2 : vis G p f ys[k] t with
      | none => rw [hv2] at hv1; cases hv1
      | some t2 =>
        rw [hv2] at hv1
        have HV2 : Hid (visL G p f (ys.drop (k + 1)) t2 = some s') := hid0 hv1
        have HC := HI.out ys[k] (List.getElem_mem hlt) t t2 wr hv2 (Nat.le_trans (wait_le hv1) hw8) HS.out
        clear hv1 hv2 HV HS HI
        generalize Y.val ys[k] = V at *
        rcases HC with ⟨b', rfl, h⟩ | ⟨l, o, rfl, h⟩ | ⟨b', rfl, h⟩
        · unfold finV ptr at hc
          have HH := hid0 h
          clear h
          go_wp2_with (go_at_call 54; refine HH.out.mono ?_; rintro e w1 ⟨rfl, hs1, hk1⟩; have HS1 := hid0 hs1; have HK1 := hid0 (HK.out.trans hk1); clear hs1 hk1)
          go_roundw
          case rel => exact ⟨k + 1, t2, by omega, by go_num, HV2, HS1, HK1⟩
          case measure => simp [intOf]; omega
        · unfold onceV ptr at hc
          have HH := hid0 h
          clear h
          go_wp2_with (go_at_call 78; refine HH.out.mono ?_; rintro e w1 ⟨rfl, hs1, hk1⟩; have HS1 := hid0 hs1; have HK1 := hid0 (HK.out.trans hk1); clear hs1 hk1)
          go_roundw
          case rel => exact ⟨k + 1, t2, by omega, by go_num, HV2, HS1, HK1⟩
          case measure => simp [intOf]; omega
        · unfold trampV ptr at hc
          have HH := hid0 h
          clear h
          go_wp2_with (go_at_call 81; refine HH.out.mono ?_; rintro e w1 ⟨rfl, hs1, hk1⟩; have HS1 := hid0 hs1; have HK1 := hid0 (HK.out.trans hk1); clear hs1 hk1)
          go_roundw
          case rel => exact ⟨k + 1, t2, by omega, by go_num, HV2, HS1, HK1⟩
          case measure => simp [intOf]; omega
    · have hkI : ¬ (k : Int) < (ys.length : Int) := by omega
      have hv1 := HV.out
      rw [List.drop_of_length_le (by omega), visL] at hv1
      cases hv1
      clear HA HI HV
      go_wp2
      go_end0
      exact ⟨rfl, HS.out, HK.out⟩
end Go.Proofs.YtiapefdklojhdaaDoor
namespace Go.Proofs.YtiapefdklojhdaaDoor
open Go.RowKit Go.Shelf
theorem row_set_int {w : World} {l b : Nat} {q : Int} {c : Array Value} {t : TypeId} {z : Nat × Nat} (hl : row w l (.int .i64 q) 3) (x : Value) (e : w.heap[b]? = some (.cells c t z)) (ht : t ≠ 3) : (w.setCell ⟨l, 0, none⟩ x).heap[b]? = some (.cells c t z) :=
  (Below.heap_setCell w _ x b (by
    intro hb
    simp only at hb
    subst hb
    unfold row at hl
    rw [hl] at e
    cases e
    exact ht rfl)).trans e
theorem SIn.mark {w : World} {base R : Nat} {Y : Lay} {G : List Nd} {waited : List Nat} {u : Value} {s : St} (h : SIn w base R Y G waited u s) (x : Nat) (d : Nd) (hx : G[x]? = some d) (hd : d.once = true) (p : Int) :
    SIn (w.setCell ⟨Y.last x, 0, none⟩ (.int .i64 p)) base R Y G waited u (s.mark x p) ∧ Kp base w (w.setCell ⟨Y.last x, 0, none⟩ (.int .i64 p)) := by
  obtain ⟨hlo, hl⟩ := (h.g.node x d hx).lastRow hd
  have k : Kp base w (w.setCell ⟨Y.last x, 0, none⟩ (.int .i64 p)) := ⟨(Below.refl base w).setCell (p := ⟨Y.last x, 0, none⟩) hlo _, fun b c t z e h1 _ _ => row_set_int hl _ e h1⟩
  refine ⟨⟨h.g.kp k (fun i d' hi hd' => ?_), ?_⟩, k⟩
  · by_cases e : i = x
    · subst e
      simp only [St.mark, if_pos]
      exact heap_setCell_same _ _ 0 _ _ _ hl
    · simp only [St.mark, if_neg e]
      have hr := ((h.g.node i d' hi).lastRow hd').2
      exact (Below.heap_setCell w _ _ _ (fun e2 => e (h.g.inj i x d' d hi hx hd' hd e2))).trans hr
  · obtain ⟨v, hR, hv, hu, hdis⟩ := h.r.is
    exact ⟨⟨v, row_set_int hl _ hR (by decide), own_blk hv (fun b hb => by
      obtain ⟨c, e, _⟩ := own_type hv b hb
      rw [row_set_int hl _ e (by decide), e]), own_blk hu (fun b hb => by
      obtain ⟨c, e, _⟩ := own_type hu b hb
      rw [row_set_int hl _ e (by decide), e]), hdis⟩, h.r.low⟩
theorem SIn.waits {w w' : World} {base R : Nat} {Y : Lay} {G : List Nd} {waited : List Nat} {u : Value} {s : St} (h : SIn w base R Y G waited u s) (hu : w.ownsRow base 104 4 u waited.length (waited.flatMap (stepC Y G))) (x : Nat)
    (hw : Waits base R w w' s.wait.length (s.wait.flatMap (stepC Y G)) (stepC Y G x) u s.ended) : SIn w' base R Y G waited u (s.push x) ∧ Kp base w w' := by
  have k : Kp base w w' := ⟨hw.bel, fun b c t z e _ h2 h3 => hw.rows b c t z e h2 (fun h => absurd h h3)⟩
  refine ⟨⟨h.g.kp k (fun i d hi hd => hw.rows _ _ _ _ ((h.g.node i d hi).lastRow hd).2 (by decide) (fun h => absurd h (by decide))), ?_⟩, k⟩
  obtain ⟨v', hR, hown, hdis⟩ := hw.is
  refine ⟨⟨v', hR, ?_, own_blk hu (fun b hb => ?_), hdis⟩, h.r.low⟩
  · simp only [St.push, List.length_append, List.length_singleton, List.flatMap_append, List.flatMap_singleton]
    exact hown
  · obtain ⟨c, e, _⟩ := own_type hu b hb
    rw [hw.rows b c _ _ e (by decide) (fun _ => hb), e]
theorem visit_any {base R : Nat} {Y : Lay} {G : List Nd} {waited : List Nat} {u : Value} (hG : WF G) (hf6 : ∀ (x : Nat) (ys : List Nat), G[x]? = some (Nd.fork ys) → ys.length ≤ 1000000) (p : Int) : ∀ (f x : Nat), VisOk base R Y G waited u p f x := by
  intro f
  induction f with
  | zero => intro x s s' w h; simp [vis] at h
  | succ f ih =>
    intro x s s' w h hw8 hs
    simp only [vis] at h
    cases hx : G[x]? with
    | none => rw [hx] at h; cases h
    | some d =>
      rw [hx] at h
      have hn := hs.g.node x d hx
      cases d with
      | hole => cases h
      | fin =>
        cases h
        cases hn with
        | fin h1 => exact .inl ⟨R, h1, fin_any p w hs⟩
      | tramp y =>
        cases hn with
        | tramp _ b h1 _ h3 => exact .inr (.inr ⟨b, h1, tramp1 p b (Y.val y) w (fun _ w' => SIn w' base R Y G waited u s' ∧ Kp base w w') h3 (ih y s s' w h hw8 hs)⟩)
      | set nt N P nx =>
        simp only at h
        cases hn with
        | set _ _ _ _ o r e n k z h1 h2 h3 h4 h5 h6 h7 =>
          refine .inr (.inl ⟨Y.last x, o, h1, ?_⟩)
          by_cases hp : s.last x = p
          · rw [if_pos hp] at h
            cases h
            rw [hp] at h3
            refine (once_skip p (Y.last x) o w h3).mono ?_
            rintro e w' ⟨rfl, rfl⟩
            exact ⟨rfl, hs, Kp.refl _ _⟩
          · rw [if_neg hp] at h
            cases h
            obtain ⟨hm, hk⟩ := hs.mark x _ hx rfl p
            refine once_set p (s.last x) (Y.last x) o r e n w (fun _ w' => SIn w' base R Y G waited u ((s.mark x p).push x) ∧ Kp base w w') (fun e => hp e.symm) h3 h4 ?_
            obtain ⟨v, hR, hv, hu, hdis⟩ := hm.r.is
            obtain ⟨a1, ca, a2, cb, en, ep, _⟩ := (hm.g.sets x nt N P nx hx).is
            obtain ⟨fn, fx, fy, hfn⟩ := ((hm.g.node nx _ (List.getElem?_eq_getElem (hG.set x nt N P nx hx))).func)
            rw [en, ep] at h6
            rw [hfn] at h7
            have hst : stepC Y G x = [.bool nt, .slice a1 N.length ca, .slice a2 P.length cb, .func fn fx fy] := by
              unfold stepC
              rw [hx]
              simp only [en, ep, hfn]
            have hw9 : (s.mark x p).wait.length ≤ 1000000 := by
              have : ((s.mark x p).push x).wait.length = (s.mark x p).wait.length + 1 := by simp [St.push]
              omega
            refine (set1 p base R r e n (s.mark x p).wait.length a1 a2 N.length ca P.length cb nt k z fn fx fy v u (s.mark x p).ended _ _ hw9 hm.r.low hR hv hdis (fun g hg => by obtain ⟨c, e, _⟩ := own_type hu g hg; exact lt_of_row e) (row_set_int h3 _ h5 (by decide)) (row_set_int h3 _ h6 (by decide)) (row_set_int h3 _ h7 (by decide))).mono ?_
            rintro e w' ⟨rfl, hwt⟩
            rw [← hst] at hwt
            obtain ⟨r1, r2⟩ := hm.waits hu x hwt
            exact ⟨rfl, r1, hk.trans r2⟩
      | fork ys =>
        simp only at h
        cases hn with
        | fork _ o b v h1 h2 h3 h4 h5 h6 =>
          refine .inr (.inl ⟨Y.last x, o, h1, ?_⟩)
          by_cases hp : s.last x = p
          · rw [if_pos hp] at h
            cases h
            rw [hp] at h3
            refine (once_skip p (Y.last x) o w h3).mono ?_
            rintro e w' ⟨rfl, rfl⟩
            exact ⟨rfl, hs, Kp.refl _ _⟩
          · rw [if_neg hp] at h
            obtain ⟨hm, hk⟩ := hs.mark x _ hx rfl p
            refine once_fork p (s.last x) (Y.last x) o b w (fun _ w' => SIn w' base R Y G waited u s' ∧ Kp base w w') (fun e => hp e.symm) h3 h4 ?_
            refine (fork1 p f ys (hf6 x ys hx) (fun y _ => ih y) (s.mark x p) s' h hw8 b v _ hm (row_set_int h3 _ h5 (by decide)) (h6.kp (fun b c z _ e => row_set_int h3 _ e (by decide)))).mono ?_
            rintro e w' ⟨rfl, r1, r2⟩
            exact ⟨rfl, r1, hk.trans r2⟩
end Go.Proofs.YtiapefdklojhdaaDoor
namespace Go.Proofs.YtiapefdklojhdaaDoor
/-- A node was gone on from at the place. -/
def Done (G : List Nd) (p : Int) (s : St) (y : Nat) : Prop := match G[y]? with
  | some .fin => s.ended = p
  | some (.tramp z) => s.last z = p
  | some (.set _ _ _ _) => s.last y = p
  | some (.fork _) => s.last y = p
  | _ => True
theorem Done.more {G : List Nd} {p : Int} {s s' : St} {y : Nat} (h : Done G p s y) (m : More p s s') : Done G p s' y := by
  unfold Done at *
  cases hg : G[y]? with
  | none => trivial
  | some d =>
    rw [hg] at h
    cases d with
    | fin => exact m.ended h
    | tramp z => exact m.last _ h
    | set nt N P nx => exact m.last _ h
    | fork ys => exact m.last _ h
    | hole => trivial
def isSet (G : List Nd) (y : Nat) : Prop := ∃ nt N P nx, G[y]? = some (.set nt N P nx)
/-- What a visit of some ways has done. -/
structure Seen (G : List Nd) (p : Int) (X : List Nat) (s s' : St) : Prop where
  more : More p s s'
  done : ∀ x, x ∈ X → Done G p s' x
  closed : ∀ (y : Nat) (ys : List Nat), G[y]? = some (.fork ys) → s'.last y = p → s.last y ≠ p → ∀ z, z ∈ ys → Done G p s' z
  wait : ∀ y, y ∈ s'.wait ↔ y ∈ s.wait ∨ (isSet G y ∧ s'.last y = p ∧ s.last y ≠ p)
  sound : ∀ T : List Kd → Prop, (∀ x, x ∈ X → ∀ W, Acc G x W → T W) → (∀ y W, s'.last y = p → s.last y ≠ p → Acc G y W → T W) ∧ (s'.ended = p → s.ended ≠ p → T [])
theorem Seen.refl (G : List Nd) (p : Int) (s : St) : Seen G p [] s s :=
  ⟨More.refl p s, fun _ h => (by cases h), fun _ _ _ h1 h2 => absurd h1 h2, fun y => ⟨.inl, fun h => h.elim id (fun h => absurd h.2.1 h.2.2)⟩, fun _ _ => ⟨fun _ _ h1 h2 => absurd h1 h2, fun h1 h2 => absurd h1 h2⟩⟩
theorem Seen.trans {G : List Nd} {p : Int} {X Z : List Nat} {s s1 s2 : St} (h : Seen G p X s s1) (k : Seen G p Z s1 s2) : Seen G p (X ++ Z) s s2 := by
  refine ⟨h.more.trans k.more, fun x hx => ?_, fun y ys hy h1 h2 z hz => ?_, fun y => ?_, fun T hT => ?_⟩
  · rcases List.mem_append.1 hx with hx | hx
    · exact (h.done x hx).more k.more
    · exact k.done x hx
  · by_cases e : s1.last y = p
    · exact (h.closed y ys hy e h2 z hz).more k.more
    · exact k.closed y ys hy h1 e z hz
  · rw [k.wait, h.wait]
    constructor
    · rintro ((h1 | ⟨h1, h2, h3⟩) | ⟨h1, h2, h3⟩)
      · exact .inl h1
      · exact .inr ⟨h1, k.more.last y h2, h3⟩
      · exact .inr ⟨h1, h2, fun e => h3 (h.more.last y e)⟩
    · rintro (h1 | ⟨h1, h2, h3⟩)
      · exact .inl (.inl h1)
      · by_cases e : s1.last y = p
        · exact .inl (.inr ⟨h1, e, h3⟩)
        · exact .inr ⟨h1, h2, e⟩
  · obtain ⟨a1, a2⟩ := h.sound T (fun x hx => hT x (List.mem_append.2 (.inl hx)))
    obtain ⟨b1, b2⟩ := k.sound T (fun x hx => hT x (List.mem_append.2 (.inr hx)))
    refine ⟨fun y W h1 h2 hA => ?_, fun h1 h2 => ?_⟩
    · by_cases e : s1.last y = p
      · exact a1 y W e h2 hA
      · exact b1 y W h1 e hA
    · by_cases e : s1.ended = p
      · exact a2 e h2
      · exact b2 h1 e
theorem vis_seen {G : List Nd} (hG : WF G) (p : Int) : ∀ (f : Nat), (∀ x s s', vis G p f x s = some s' → Seen G p [x] s s') ∧ (∀ ys s s', visL G p f ys s = some s' → Seen G p ys s s') := by
  have lift : ∀ f, (∀ x s s', vis G p f x s = some s' → Seen G p [x] s s') → ∀ ys s s', visL G p f ys s = some s' → Seen G p ys s s' := by
    intro f hf ys
    induction ys with
    | nil => intro s s' h; simp only [visL, Option.some.injEq] at h; subst h; exact Seen.refl G p s
    | cons y ys ih =>
      intro s s' h
      simp only [visL] at h
      cases hv : vis G p f y s with
      | none => rw [hv] at h; cases h
      | some s1 => rw [hv] at h; exact (hf y s s1 hv).trans (ih s1 s' h)
  intro f
  induction f with
  | zero => exact ⟨fun x s s' h => by simp [vis] at h, lift 0 (fun x s s' h => by simp [vis] at h)⟩
  | succ f ih =>
    have h1 : ∀ x s s', vis G p (f + 1) x s = some s' → Seen G p [x] s s' := by
      intro x s s' h
      have hm := (vis_more G p (f + 1)).1 x s s' h
      simp only [vis] at h
      cases hx : G[x]? with
      | none => rw [hx] at h; cases h
      | some d =>
        rw [hx] at h
        cases d with
        | hole => cases h
        | fin =>
          cases h
          refine ⟨hm, fun y hy => ?_, fun y ys _ e1 e2 => absurd e1 e2, fun y => ⟨.inl, fun h => h.elim id (fun h => absurd h.2.1 h.2.2)⟩, fun T hT => ⟨fun y W e1 e2 => absurd e1 e2, fun _ _ => hT x (by simp) [] ((Acc.fin hx []).2 rfl)⟩⟩
          simp only [List.mem_singleton] at hy
          subst hy
          unfold Done
          rw [hx]
        | tramp y =>
          have k := ih.1 y s s' h
          obtain ⟨ys, hys⟩ := hG.tramp x y hx
          refine ⟨hm, fun z hz => ?_, k.closed, k.wait, fun T hT => k.sound T (fun z hz W hW => ?_)⟩
          · simp only [List.mem_singleton] at hz
            subst hz
            have hd := k.done y (by simp)
            unfold Done at hd ⊢
            rw [hx]
            rw [hys] at hd
            exact hd
          · simp only [List.mem_singleton] at hz
            subst hz
            exact hT x (by simp) W ((Acc.tramp hx W).2 hW)
        | set nt N P nx =>
          simp only at h
          by_cases hp : s.last x = p
          · rw [if_pos hp] at h
            cases h
            refine ⟨hm, fun y hy => ?_, fun y ys _ e1 e2 => absurd e1 e2, fun y => ⟨.inl, fun h => h.elim id (fun h => absurd h.2.1 h.2.2)⟩, fun T hT => ⟨fun y W e1 e2 => absurd e1 e2, fun e1 e2 => absurd e1 e2⟩⟩
            simp only [List.mem_singleton] at hy
            subst hy
            unfold Done
            rw [hx]
            exact hp
          · rw [if_neg hp] at h
            cases h
            have hl : ∀ y, ((s.mark x p).push x).last y = if y = x then p else s.last y := fun y => rfl
            refine ⟨hm, fun y hy => ?_, fun y ys hy e1 e2 z hz => ?_, fun y => ?_, fun T hT => ⟨fun y W e1 e2 hA => ?_, fun e1 e2 => absurd e1 e2⟩⟩
            · simp only [List.mem_singleton] at hy
              subst hy
              unfold Done
              rw [hx]
              simp [hl]
            · by_cases e : y = x
              · subst e; rw [hx] at hy; cases hy
              · rw [hl, if_neg e] at e1; exact absurd e1 e2
            · rw [hl]
              simp only [St.push, St.mark, List.mem_append, List.mem_singleton]
              by_cases e : y = x
              · subst e
                simp only [or_true, true_iff]
                exact .inr ⟨⟨nt, N, P, nx, hx⟩, by simp, hp⟩
              · simp only [e, or_false, if_false]
                exact ⟨.inl, fun h => h.elim id (fun h => absurd h.2.1 h.2.2)⟩
            · by_cases e : y = x
              · subst e; exact hT y (by simp) W hA
              · rw [hl, if_neg e] at e1; exact absurd e1 e2
        | fork ys =>
          simp only at h
          by_cases hp : s.last x = p
          · rw [if_pos hp] at h
            cases h
            refine ⟨hm, fun y hy => ?_, fun y ys _ e1 e2 => absurd e1 e2, fun y => ⟨.inl, fun h => h.elim id (fun h => absurd h.2.1 h.2.2)⟩, fun T hT => ⟨fun y W e1 e2 => absurd e1 e2, fun e1 e2 => absurd e1 e2⟩⟩
            simp only [List.mem_singleton] at hy
            subst hy
            unfold Done
            rw [hx]
            exact hp
          · rw [if_neg hp] at h
            have k := ih.2 ys (s.mark x p) s' h
            have hl : ∀ y, (s.mark x p).last y = if y = x then p else s.last y := fun y => rfl
            have hlx : s'.last x = p := k.more.last x (by rw [hl, if_pos rfl])
            refine ⟨hm, fun y hy => ?_, fun y zs hy e1 e2 z hz => ?_, fun y => ?_, fun T hT => ?_⟩
            · simp only [List.mem_singleton] at hy
              subst hy
              unfold Done
              rw [hx]
              exact hlx
            · by_cases e : y = x
              · subst e
                rw [hx] at hy
                cases hy
                exact k.done z hz
              · exact k.closed y zs hy e1 (by rw [hl, if_neg e]; exact e2) z hz
            · rw [k.wait]
              by_cases e : y = x
              · subst e
                constructor
                · rintro (h1 | ⟨_, _, h3⟩)
                  · exact .inl h1
                  · rw [hl, if_pos rfl] at h3; exact absurd rfl h3
                · rintro (h1 | ⟨⟨_, _, _, _, h1⟩, _, _⟩)
                  · exact .inl h1
                  · rw [hx] at h1; cases h1
              · rw [hl, if_neg e]
                rfl
            · obtain ⟨a1, a2⟩ := k.sound T (fun z hz W hW => hT x (by simp) W ((Acc.fork hx W).2 ⟨z, hz, hW⟩))
              refine ⟨fun y W e1 e2 hA => ?_, a2⟩
              by_cases e : y = x
              · subst e; exact hT y (by simp) W hA
              · exact a1 y W e1 (by rw [hl, if_neg e]; exact e2) hA
    exact ⟨h1, lift (f + 1) h1⟩
/-- Nothing was gone on from at the place yet. -/
structure Fresh (G : List Nd) (p : Int) (s : St) : Prop where
  last : ∀ y, y < G.length → s.last y ≠ p
  wait : s.wait = []
  ended : s.ended ≠ p
theorem place_acc {G : List Nd} (hG : WF G) {p : Int} {X : List Nat} {s s' : St} (hf : Fresh G p s) (h : Seen G p X s s') (W : List Kd) :
    (∃ x, x ∈ X ∧ Acc G x W) ↔ (W = [] ∧ s'.ended = p) ∨ ∃ y, y ∈ s'.wait ∧ ∃ nt N P nx u V, G[y]? = some (.set nt N P nx) ∧ W = u :: V ∧ holdsF nt N P u.1 u.2 = true ∧ Acc G nx V := by
  have go : ∀ n y W, AccN G n y W → Done G p s' y → (W = [] ∧ s'.ended = p) ∨ ∃ y, y ∈ s'.wait ∧ ∃ nt N P nx u V, G[y]? = some (.set nt N P nx) ∧ W = u :: V ∧ holdsF nt N P u.1 u.2 = true ∧ Acc G nx V := by
    intro n y W hA
    induction hA with
    | fin n x hx => intro hd; unfold Done at hd; rw [hx] at hd; exact .inl ⟨rfl, hd⟩
    | set n x nt N P nx u w hx hh ha _ =>
      intro hd
      unfold Done at hd
      rw [hx] at hd
      exact .inr ⟨x, (h.wait x).2 (.inr ⟨⟨nt, N, P, nx, hx⟩, hd, hf.last x (List.getElem?_eq_some_iff.1 hx).1⟩), nt, N, P, nx, u, w, hx, rfl, hh, n, ha⟩
    | fork n x ys y w hx hy _ ih =>
      intro hd
      unfold Done at hd
      rw [hx] at hd
      exact ih (h.closed x ys hx hd (hf.last x (List.getElem?_eq_some_iff.1 hx).1) y hy)
    | tramp n x y w hx _ ih =>
      intro hd
      unfold Done at hd
      rw [hx] at hd
      obtain ⟨ys, hys⟩ := hG.tramp x y hx
      exact ih (by unfold Done; rw [hys]; exact hd)
  constructor
  · rintro ⟨x, hx, n, hA⟩
    exact go n x W hA (h.done x hx)
  · obtain ⟨a1, a2⟩ := h.sound (fun W => ∃ x, x ∈ X ∧ Acc G x W) (fun x hx W hW => ⟨x, hx, hW⟩)
    rintro (⟨rfl, he⟩ | ⟨y, hy, nt, N, P, nx, u, V, hg, rfl, hh, hA⟩)
    · exact a2 he hf.ended
    · rcases (h.wait y).1 hy with h1 | ⟨_, h2, h3⟩
      · rw [hf.wait] at h1; cases h1
      · exact a1 y (u :: V) h2 h3 ((Acc.set hg _).2 ⟨u, V, rfl, hh, hA⟩)
/-- The steps that waited are asked for the unit, and gone on from. -/
def takeF (G : List Nd) (p : Int) (u : Kd) : List Nat → St → Option St
  | [], s => some s
  | y :: ys, s => match G[y]? with
    | some (.set nt N P nx) => if holdsF nt N P u.1 u.2 = true then (match vis G p (2 * G.length + 2) nx s with | some s' => takeF G p u ys s' | none => none) else takeF G p u ys s
    | _ => none
/-- Where they go on. -/
def nexts (G : List Nd) (u : Kd) (ys : List Nat) : List Nat := ys.filterMap fun y => match (G[y]? : Option Nd) with
  | some (Nd.set nt N P nx) => if holdsF nt N P u.1 u.2 = true then some nx else none
  | _ => none
theorem takeF_eq {G : List Nd} (p : Int) (u : Kd) (ys : List Nat) (h : ∀ y, y ∈ ys → isSet G y) : ∀ s, takeF G p u ys s = visL G p (2 * G.length + 2) (nexts G u ys) s := by
  induction ys with
  | nil => intro s; simp [takeF, nexts, visL]
  | cons y ys ih =>
    intro s
    obtain ⟨nt, N, P, nx, hy⟩ := h y (by simp)
    have ih' := ih (fun z hz => h z (by simp [hz]))
    simp only [takeF, nexts, List.filterMap_cons, hy]
    by_cases hh : holdsF nt N P u.1 u.2 = true
    · simp only [hh, if_true, visL]
      cases vis G p (2 * G.length + 2) nx s with
      | none => rfl
      | some s1 => exact ih' s1
    · simp only [hh]
      exact ih' s
/-- The word's units, one by one. -/
def runF (G : List Nd) : Nat → List Kd → St → Option Bool
  | i, [], s => some (decide (s.ended = (i : Int)))
  | i, u :: w, s => if s.wait = [] then some false else match takeF G ((i : Int) + 1) u s.wait { s with wait := [] } with
    | some s' => runF G (i + 1) w s'
    | none => none
/-- Behind a place. -/
structure Behind (G : List Nd) (i : Nat) (s : St) (A : List Kd → Prop) : Prop where
  low : ∀ y, y < G.length → s.last y ≤ (i : Int)
  ended : s.ended ≤ (i : Int)
  sets : ∀ y, y ∈ s.wait → isSet G y
  acc : ∀ W, A W ↔ (W = [] ∧ s.ended = (i : Int)) ∨ ∃ y, y ∈ s.wait ∧ ∃ nt N P nx u V, G[y]? = some (.set nt N P nx) ∧ W = u :: V ∧ holdsF nt N P u.1 u.2 = true ∧ Acc G nx V
theorem visL_total {G : List Nd} (hG : WF G) (p : Int) (X : List Nat) (hX : ∀ x, x ∈ X → x < G.length) : ∀ s, ∃ s', visL G p (2 * G.length + 2) X s = some s' := by
  induction X with
  | nil => intro s; exact ⟨s, by simp [visL]⟩
  | cons x X ih =>
    intro s
    obtain ⟨s1, e1⟩ := vis_total hG p s x (hX x (by simp))
    obtain ⟨s2, e2⟩ := ih (fun z hz => hX z (by simp [hz])) s1
    exact ⟨s2, by simp only [visL, e1]; exact e2⟩
theorem behind_of {G : List Nd} (hG : WF G) {i : Nat} {X : List Nat} {s s' : St} (hl : ∀ y, y < G.length → s.last y < (i : Int)) (hw : s.wait = []) (he : s.ended < (i : Int)) (h : Seen G (i : Int) X s s') : Behind G i s' (fun W => ∃ x, x ∈ X ∧ Acc G x W) := by
  refine ⟨fun y hy => ?_, ?_, fun y hy => ?_, place_acc hG ⟨fun y hy => by have := hl y hy; omega, hw, by omega⟩ h⟩
  · by_cases e : s'.last y = (i : Int)
    · omega
    · have := h.more.old y e
      have := hl y hy
      omega
  · rcases h.more.was with e | e <;> omega
  · rcases (h.wait y).1 hy with h1 | h1
    · rw [hw] at h1; cases h1
    · exact h1.1
theorem nexts_mem {G : List Nd} {u : Kd} {ys : List Nat} {x : Nat} (h : x ∈ nexts G u ys) : ∃ y, y ∈ ys ∧ ∃ nt N P, G[y]? = some (.set nt N P x) ∧ holdsF nt N P u.1 u.2 = true := by
  unfold nexts at h
  obtain ⟨y, hy, e⟩ := List.mem_filterMap.1 h
  refine ⟨y, hy, ?_⟩
  split at e
  · rename_i nt N P nx hg
    split at e
    · rename_i hh
      cases e
      exact ⟨nt, N, P, hg, hh⟩
    · cases e
  · cases e
theorem mem_nexts {G : List Nd} {u : Kd} {ys : List Nat} {y nx : Nat} {nt : Bool} {N : List ByteArray} {P : List (Int × Int)} (hy : y ∈ ys) (hg : G[y]? = some (.set nt N P nx)) (hh : holdsF nt N P u.1 u.2 = true) : nx ∈ nexts G u ys := by
  unfold nexts
  exact List.mem_filterMap.2 ⟨y, hy, by rw [hg]; simp [hh]⟩
/-- A unit more. -/
theorem behind_step {G : List Nd} (hG : WF G) {i : Nat} {s : St} {A : List Kd → Prop} (h : Behind G i s A) (u : Kd) :
    ∃ s', takeF G ((i : Int) + 1) u s.wait { s with wait := [] } = some s' ∧ Behind G (i + 1) s' (fun W => A (u :: W)) := by
  have hX : ∀ x, x ∈ nexts G u s.wait → x < G.length := fun x hx => by
    obtain ⟨y, _, nt, N, P, hg, _⟩ := nexts_mem hx
    exact hG.set y nt N P x hg
  obtain ⟨s', e⟩ := visL_total hG ((i : Int) + 1) (nexts G u s.wait) hX { s with wait := [] }
  refine ⟨s', by rw [takeF_eq _ _ _ h.sets]; exact e, ?_⟩
  have hb := behind_of hG (X := nexts G u s.wait) (s := { s with wait := [] }) (i := i + 1) (fun y hy => by have := h.low y hy; show s.last y < _; omega) rfl (by have := h.ended; show s.ended < _; omega) ((vis_seen hG (((i + 1 : Nat)) : Int) _).2 _ _ _ (by rw [show (((i + 1 : Nat)) : Int) = (i : Int) + 1 by omega]; exact e))
  refine ⟨hb.low, hb.ended, hb.sets, fun W => ?_⟩
  rw [← hb.acc, h.acc]
  constructor
  · rintro (⟨h1, _⟩ | ⟨y, hy, nt, N, P, nx, v, V, hg, e1, hh, hA⟩)
    · cases h1
    · cases e1
      exact ⟨nx, mem_nexts hy hg hh, hA⟩
  · rintro ⟨x, hx, hA⟩
    obtain ⟨y, hy, nt, N, P, hg, hh⟩ := nexts_mem hx
    exact .inr ⟨y, hy, nt, N, P, x, u, W, hg, rfl, hh, hA⟩
theorem runF_acc {G : List Nd} (hG : WF G) : ∀ (w : List Kd) (i : Nat) (s : St) (A : List Kd → Prop), Behind G i s A → ∃ b, runF G i w s = some b ∧ (b = true ↔ A w) := by
  intro w
  induction w with
  | nil =>
    intro i s A h
    refine ⟨_, rfl, ?_⟩
    rw [h.acc, decide_eq_true_iff]
    constructor
    · exact fun e => .inl ⟨rfl, e⟩
    · rintro (⟨_, e⟩ | ⟨_, _, _, _, _, _, _, _, _, e, _⟩)
      · exact e
      · cases e
  | cons u w ih =>
    intro i s A h
    by_cases hw : s.wait = []
    · refine ⟨false, by simp [runF, hw], ?_⟩
      rw [h.acc]
      constructor
      · intro e; cases e
      · rintro (⟨e, _⟩ | ⟨y, hy, _⟩)
        · cases e
        · rw [hw] at hy; cases hy
    · obtain ⟨s', e, hb⟩ := behind_step hG h u
      obtain ⟨b, e2, hA⟩ := ih (i + 1) s' _ hb
      exact ⟨b, by simp only [runF, hw, if_false, e]; exact e2, hA⟩
end Go.Proofs.YtiapefdklojhdaaDoor
