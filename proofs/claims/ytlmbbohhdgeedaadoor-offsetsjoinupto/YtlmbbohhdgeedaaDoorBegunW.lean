/-
  The walk of units.begun.
-/
import Derived.Test.YtlmbbohhdgeedaaDoorSeqW
import Derived.Laws.ResultCell
import Derived.Laws.Rows
import Derived.Laws.CopyRow
namespace Go.Proofs.YtlmbbohhdgeedaaDoor
open Go.RowKit
/-- How many bytes fit behind a lead byte. -/
def fits (lo hi : Nat) : Nat → List UInt8 → Nat
  | 0, _ => 0
  | _ + 1, [] => 0
  | n + 1, b :: l => if lo ≤ b.toNat ∧ b.toNat ≤ hi then fits 128 191 n l + 1 else 0
/-- The row and how many bytes fit it. -/
def begunOf (l : List UInt8) : Option (Nat × Nat) := match l with
  | [] => none
  | a :: r => match rowOf a.toNat with
    | none => none
    | some i => some (i, fits (tLo2 i) (tHi2 i) (tSz i - 1) r + 1)
def begunVal (l : List UInt8) : Value := match begunOf l with
  | none => .tuple #[noRow, .int .i64 0]
  | some (i, f) => .tuple #[rowVal i, .int .i64 f]
theorem rowFrom_lt (c : Nat) : ∀ n i j, rowFrom c n i = some j → j < i + n := by
  intro n
  induction n with
  | zero => intro i j h; simp [rowFrom] at h
  | succ n ih =>
    intro i j h
    rw [rowFrom] at h
    split at h
    · simp at h; omega
    · have := ih _ _ h; omega
theorem rowOf_lt {c i : Nat} (h : rowOf c = some i) : i < 9 := by have := rowFrom_lt c 9 0 i h; omega
theorem sz_pos : ∀ i < 9, 0 < tSz i ∧ tSz i ≤ 4 := by decide
theorem drop_cons (s : ByteArray) (k : Nat) (h : k < s.size) : s.data.toList.drop k = s[k] :: s.data.toList.drop (k + 1) := by
  rw [List.drop_eq_getElem_cons (by simpa using h)]
  rfl
/-- A box that was laid ahead of a call, behind it. -/
theorem boxRow {w w' : World} {cs : Array Value} {t : TypeId} (hb : Below (w.alloc (.cells cs t)).heap.size (w.alloc (.cells cs t)) w') : w'.heap[w.heap.size]? = some (.cells cs t (0, 0)) :=
  (hb.block w.heap.size (by simp)).trans (heap_alloc_new w _)
theorem row6 {w : World} {g : Nat} {a b c d e f : Value} {t : TypeId} (h : w.heap[g]? = some (.cells #[a, b, c, d, e, f] t (0, 0))) :
    (w.cell? ⟨g, 0, none⟩ = some a ∧ w.cell? ⟨g, 1, none⟩ = some b ∧ w.cell? ⟨g, 2, none⟩ = some c ∧ w.cell? ⟨g, 3, none⟩ = some d ∧ w.cell? ⟨g, 4, none⟩ = some e ∧ w.cell? ⟨g, 5, none⟩ = some f) ∧
    w.frozen? ⟨g, 0, none⟩ = false ∧ w.frozen? ⟨g, 1, none⟩ = false ∧ w.frozen? ⟨g, 2, none⟩ = false ∧ w.frozen? ⟨g, 3, none⟩ = false ∧ w.frozen? ⟨g, 4, none⟩ = false ∧ w.frozen? ⟨g, 5, none⟩ = false := by
  refine ⟨⟨?_, ?_, ?_, ?_, ?_, ?_⟩, frozen_of_row w g _ _ t h, frozen_of_row w g _ _ t h, frozen_of_row w g _ _ t h, frozen_of_row w g _ _ t h, frozen_of_row w g _ _ t h, frozen_of_row w g _ _ t h⟩ <;> (rw [cell_of_row w g _ _ t _ h]; rfl)
theorem setCell_self {w : World} {g i : Nat} {cs : Array Value} {t : TypeId} {v : Value} (hg : w.heap[g]? = some (.cells cs t (0, 0))) (h : cs.setIfInBounds i v = cs) : w.setCell ⟨g, i, none⟩ v = w := by
  rw [setCell_eq_setRow w g i cs t (0, 0) v hg, h, setRow_self w g cs t (0, 0) hg]
theorem set6 {w : World} {g : Nat} {a b c d e f : Value} {t : TypeId} (a' b' c' d' e' f' : Value) (h : w.heap[g]? = some (.cells #[a, b, c, d, e, f] t (0, 0))) :
    ((((((w.setCell ⟨g, 0, none⟩ a').setCell ⟨g, 1, none⟩ b').setCell ⟨g, 2, none⟩ c').setCell ⟨g, 3, none⟩ d').setCell ⟨g, 4, none⟩ e').setCell ⟨g, 5, none⟩ f').heap[g]? = some (.cells #[a', b', c', d', e', f'] t (0, 0)) := by
  have h0 := heap_setCell_same w g 0 _ t a' h
  have h1 := heap_setCell_same _ g 1 _ t b' h0
  have h2 := heap_setCell_same _ g 2 _ t c' h1
  have h3 := heap_setCell_same _ g 3 _ t d' h2
  have h4 := heap_setCell_same _ g 4 _ t e' h3
  exact heap_setCell_same _ g 5 _ t f' h4
theorem ret_row {P : Program} {fn : Func} {p u : Tmp} {ty : TypeId} (h : fn.results = #[.cell p ty, .tmp u]) (tmps : Array Value) (w : World) (g : Nat) (t : TypeId) (cs : Array Value) (d : TypeDesc) (x : Value)
    (hp : tmps.getD p undef = .pointer (some ⟨g, 0, none⟩)) (hg : w.heap[g]? = some (.cells cs t (0, 0))) (hu : P.underlying ty = some d) (hd : (match d with | .struct _ | .array _ _ => true | _ => false) = true) (hi : (P.info? ty).map (·.size) = some cs.size) (hx : tmps.getD u undef = x) :
    (results fn tmps).run P w = .ok (.tuple #[.agg cs, x]) w := by
  subst hx
  rw [results_cell_tmp h, hp]
  simp only [asAddr, Sem.run_pure, Result.andThen_ok, run_loadVar_row w g t ty cs (0, 0) d hg hu hd hi]
set_option maxRecDepth 10000 in
set_option maxHeartbeats 400000 in
theorem begun_any (s : ByteArray) (k : Nat) (hk : k < s.size) (hs : s.size ≤ 140737488355328) (w : World) (hT : SeqAt w) :
    Calls Tryd.prog 55 #[.string s, .int .i64 (k : Int)] w fun e w' => e = .returned (begunVal (s.data.toList.drop k)) ∧ Below w.heap.size w w' := by
  have HV : Hid (begunVal (s.data.toList.drop k) = match rowOf s[k].toNat with | none => .tuple #[noRow, .int .i64 0] | some i => .tuple #[rowVal i, .int .i64 ((fits (tLo2 i) (tHi2 i) (tSz i - 1) (s.data.toList.drop (k + 1)) + 1 : Nat) : Int)]) := by
    show _ = _
    rw [drop_cons s k hk, begunVal, begunOf]
    cases rowOf s[k].toNat <;> rfl
  have hm := seqOf_any s[k]
  cases hr : rowOf s[k].toNat with
  | none =>
    rw [hr] at HV
    rw [seqRes, hr] at hm
    have HT : Hid (SeqAt w) := hT
    clear hT
    go_enter Tryd.func55, Tryd.ntmps55
    go_wp2_with (go_at_call 62; refine (hm _ (HT.out.later (by go_grown))).mono ?_; rintro e w' ⟨rfl, hb⟩; simp only [noRow]; obtain ⟨⟨c0, c1, c2, c3, c4, c5⟩, f0, f1, f2, f3, f4, f5⟩ := row6 (boxRow hb); have HR : Hid (w'.heap[w.heap.size]? = _) := boxRow hb; have hB : Below w.heap.size w w' := ((Below.refl _ _).alloc (Nat.le_refl _) _).trans (hb.mono (by simp)); have e0 : w'.setCell ⟨w.heap.size, 0, none⟩ (.int .u8 0) = w' := setCell_self HR.out rfl; have e1 : w'.setCell ⟨w.heap.size, 1, none⟩ (.int .u8 0) = w' := setCell_self HR.out rfl; have e2 : w'.setCell ⟨w.heap.size, 2, none⟩ (.int .u8 0) = w' := setCell_self HR.out rfl; have e3 : w'.setCell ⟨w.heap.size, 3, none⟩ (.int .u8 0) = w' := setCell_self HR.out rfl; have e4 : w'.setCell ⟨w.heap.size, 4, none⟩ (.int .i64 0) = w' := setCell_self HR.out rfl; have e5 : w'.setCell ⟨w.heap.size, 5, none⟩ (.int .u8 0) = w' := setCell_self HR.out rfl; clear hb)
    (try simp only [Exit.inBlock, Exit.then])
    refine bodyPost_ret (ret_row rfl _ _ w.heap.size 95 _ _ _ rfl HR.out Tryd.underlying95 rfl (by kernel_rfl) rfl) rfl ?_
    exact ⟨by rw [HV.out]; rfl, by go_grown⟩
  | some i =>
    rw [hr] at HV
    rw [seqRes, hr] at hm
    have hi9 := rowOf_lt hr
    have hsz := sz_pos i hi9
    obtain ⟨hl0, hl1, hl2, hl3, hl4, hl5⟩ := tab_lt i hi9
    have HT : Hid (SeqAt w) := hT
    clear hT
    go_enter Tryd.func55, Tryd.ntmps55
    go_wp2_with (go_at_call 62; refine (hm _ (HT.out.later (by go_grown))).mono ?_; rintro e w' ⟨rfl, hb⟩; simp only [rowVal]; obtain ⟨⟨c0, c1, c2, c3, c4, c5⟩, f0, f1, f2, f3, f4, f5⟩ := row6 (boxRow hb); have HR : Hid (w'.heap[w.heap.size]? = _) := boxRow hb; have hB : Below w.heap.size w w' := ((Below.refl _ _).alloc (Nat.le_refl _) _).trans (hb.mono (by simp)); clear hb)
    clear hm hr
    go_region
    all_goals go_wp2
    go_loopw [5, 7, 8] (fun f lo hi wr => (wr.heap[w.heap.size]? = some (.cells #[.int .u8 (tLo i), .int .u8 (tHi i), .int .u8 (tLo2 i), .int .u8 (tHi2 i), .int .i64 (tSz i), .int .u8 (tMk i)] 95 (0, 0)) ∧ Below w.heap.size w wr) ∧ ∃ j a b : Nat, 1 ≤ j ∧ j ≤ tSz i ∧ k + j ≤ s.size ∧ a < 256 ∧ b < 256 ∧ f = .int .i64 j ∧ lo = .int .u8 a ∧ hi = .int .u8 b ∧
      fits (tLo2 i) (tHi2 i) (tSz i - 1) (s.data.toList.drop (k + 1)) + 1 = fits a b (tSz i - j) (s.data.toList.drop (k + j)) + j) (fun f _ _ _ => 4 - (intOf f).toNat)
    case atStart => exact ⟨⟨by rw [heap_drew]; exact set6 _ _ _ _ _ _ HR.out, by go_grown⟩, 1, tLo2 i, tHi2 i, by omega, by omega, by omega, by omega, by omega, rfl, rfl, rfl, rfl⟩
    case round =>
      clear c0 c1 c2 c3 c4 c5 f0 f1 f2 f3 f4 f5 HR hB
      obtain ⟨⟨hrow, hB⟩, j, a, b, hj1, hj2, hj3, ha, hb, rfl, rfl, rfl, hf⟩ := hrel
      obtain ⟨⟨c0, c1, c2, c3, c4, c5⟩, f0, f1, f2, f3, f4, f5⟩ := row6 hrow
      have e0 : wr.setCell ⟨w.heap.size, 0, none⟩ (.int .u8 (tLo i)) = wr := setCell_self hrow rfl
      have e1 : wr.setCell ⟨w.heap.size, 1, none⟩ (.int .u8 (tHi i)) = wr := setCell_self hrow rfl
      have e2 : wr.setCell ⟨w.heap.size, 2, none⟩ (.int .u8 (tLo2 i)) = wr := setCell_self hrow rfl
      have e3 : wr.setCell ⟨w.heap.size, 3, none⟩ (.int .u8 (tHi2 i)) = wr := setCell_self hrow rfl
      have e4 : wr.setCell ⟨w.heap.size, 4, none⟩ (.int .i64 (tSz i)) = wr := setCell_self hrow rfl
      have e5 : wr.setCell ⟨w.heap.size, 5, none⟩ (.int .u8 (tMk i)) = wr := setCell_self hrow rfl
      have HR : Hid (wr.heap[w.heap.size]? = _) := hrow
      clear hrow
      have HF : Hid (fits (tLo2 i) (tHi2 i) (tSz i - 1) (s.data.toList.drop (k + 1)) + 1 = fits a b (tSz i - j) (s.data.toList.drop (k + j)) + j) := hf
      clear hf
      by_cases h1 : j < tSz i
      · by_cases h2 : k + j < s.size
        · have HG : Hid (fits a b (tSz i - j) (s.data.toList.drop (k + j)) = if a ≤ s[k + j].toNat ∧ s[k + j].toNat ≤ b then fits 128 191 (tSz i - (j + 1)) (s.data.toList.drop (k + (j + 1))) + 1 else 0) := by
            show _ = _
            rw [drop_cons s _ h2, show tSz i - j = (tSz i - (j + 1)) + 1 by omega, fits]
            rfl
          by_cases h3 : a ≤ s[k + j].toNat
          · by_cases h4 : s[k + j].toNat ≤ b
            · have HN : Hid (fits (tLo2 i) (tHi2 i) (tSz i - 1) (s.data.toList.drop (k + 1)) + 1 = fits 128 191 (tSz i - (j + 1)) (s.data.toList.drop (k + (j + 1))) + (j + 1)) := by
                show _ = _
                rw [HF.out, HG.out, if_pos ⟨h3, h4⟩]
                omega
              clear HF HG
              go_wp2
              go_roundw
              case rel => exact ⟨⟨HR.out, hB⟩, j + 1, 128, 191, by omega, by omega, by omega, by omega, by omega, by go_num, rfl, rfl, HN.out⟩
              case measure => simp [intOf]; omega
            · have HN : Hid (fits (tLo2 i) (tHi2 i) (tSz i - 1) (s.data.toList.drop (k + 1)) + 1 = j) := by
                show _ = _
                rw [HF.out, HG.out, if_neg (by omega)]
                omega
              clear HF HG
              go_wp2
              (try simp only [Exit.inBlock, Exit.then])
              refine bodyPost_ret (ret_row rfl _ _ w.heap.size 95 _ _ _ rfl HR.out Tryd.underlying95 rfl (by kernel_rfl) rfl) rfl ?_
              exact ⟨by rw [HV.out, HN.out]; rfl, by go_grown⟩
          · have HN : Hid (fits (tLo2 i) (tHi2 i) (tSz i - 1) (s.data.toList.drop (k + 1)) + 1 = j) := by
              show _ = _
              rw [HF.out, HG.out, if_neg (by omega)]
              omega
            clear HF HG
            go_wp2
            (try simp only [Exit.inBlock, Exit.then])
            refine bodyPost_ret (ret_row rfl _ _ w.heap.size 95 _ _ _ rfl HR.out Tryd.underlying95 rfl (by kernel_rfl) rfl) rfl ?_
            exact ⟨by rw [HV.out, HN.out]; rfl, by go_grown⟩
        · have HN : Hid (fits (tLo2 i) (tHi2 i) (tSz i - 1) (s.data.toList.drop (k + 1)) + 1 = j) := by
            show _ = _
            rw [HF.out, List.drop_of_length_le (by simp; omega), show tSz i - j = (tSz i - (j + 1)) + 1 by omega, fits]
            omega
          clear HF
          go_wp2
          (try simp only [Exit.inBlock, Exit.then])
          refine bodyPost_ret (ret_row rfl _ _ w.heap.size 95 _ _ _ rfl HR.out Tryd.underlying95 rfl (by kernel_rfl) rfl) rfl ?_
          exact ⟨by rw [HV.out, HN.out]; rfl, by go_grown⟩
      · have HN : Hid (fits (tLo2 i) (tHi2 i) (tSz i - 1) (s.data.toList.drop (k + 1)) + 1 = j) := by
          show _ = _
          rw [HF.out, show tSz i - j = 0 by omega, fits]
          omega
        clear HF
        go_wp2
        (try simp only [Exit.inBlock, Exit.then])
        refine bodyPost_ret (ret_row rfl _ _ w.heap.size 95 _ _ _ rfl HR.out Tryd.underlying95 rfl (by kernel_rfl) rfl) rfl ?_
        exact ⟨by rw [HV.out, HN.out]; rfl, by go_grown⟩
end Go.Proofs.YtlmbbohhdgeedaaDoor
