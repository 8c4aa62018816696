/-
  A property whose classes are known; what stays where only other blocks are written; units made of points.
-/
import Derived.Test.YtpimameogmkpcaaDoorPbMmW
namespace Go.Proofs.YtpimameogmkpcaaDoor
open Go.RowKit Go.Shelf
def bA : ByteArray := ⟨#[65]⟩
def bB : ByteArray := ⟨#[66]⟩
theorem nmF_ab : nmF [] [bA, bB] = none := by
  rw [nmF, if_neg (by decide), if_neg (by decide), if_neg (by decide), nmF, if_neg (by decide), if_neg (by decide), if_neg (by decide), nmF]
theorem propF_ab : propF [bA, bB] [(65, 90, 1)] = none := by
  rw [propF, if_neg (by decide), nmF_ab]
  simp only
  rw [if_neg (by decide)]
  decide
theorem rise_ab : Rise 2 [(65, 90, 1)] := (rise_of (N := 2) [(65, 90, 1)] none (by decide)).1
theorem cls_66 : cls [(65, 90, 1)] 66 = 2 := by decide
/-- cur is wk as far as the blocks from lo on go that wk has. -/
structure Agree (wk cur : World) (lo : Nat) : Prop where
  size : wk.heap.size ≤ cur.heap.size
  block : ∀ k, lo ≤ k → k < wk.heap.size → cur.heap[k]? = wk.heap[k]?
theorem Agree.refl (w : World) (lo : Nat) : Agree w w lo := ⟨Nat.le_refl _, fun _ _ _ => rfl⟩
theorem Agree.only {wk cur cur' : World} {lo : Nat} {S : Nat → Prop} (h : Agree wk cur lo) (ho : Only cur cur' S) (hs : ∀ k, S k → k < lo ∨ wk.heap.size ≤ k) : Agree wk cur' lo :=
  ⟨Nat.le_trans h.size ho.size, fun k h1 h2 => (ho.block k (Nat.lt_of_lt_of_le h2 h.size) (fun s => by have := hs k s; omega)).trans (h.block k h1 h2)⟩
theorem Agree.below {wk cur cur' : World} {lo : Nat} (h : Agree wk cur lo) (hb : Below cur.heap.size cur cur') : Agree wk cur' lo :=
  ⟨Nat.le_trans h.size hb.size, fun k h1 h2 => (hb.block k (Nat.lt_of_lt_of_le h2 h.size)).trans (h.block k h1 h2)⟩
theorem Agree.drewN {wk cur : World} {lo : Nat} (h : Agree wk cur lo) (n : Nat) : Agree wk (cur.drewN n) lo := ⟨h.size, h.block⟩
theorem own_agree {wk cur : World} {lo t s n : Nat} {v : Value} {xs : List Value} (h : wk.ownsRow lo t s v n xs) (ha : Agree wk cur lo) : cur.ownsRow lo t s v n xs := by
  refine ⟨h.1, ?_⟩
  rcases h.2 with h2 | ⟨g, cap, cur0, hv, hg, hr, r⟩
  · exact .inl h2
  · exact .inr ⟨g, cap, cur0, hv, hg, (ha.block g hg (Array.getElem?_eq_some_iff.1 hr).1).trans hr, r⟩
theorem tab_agree {wk cur : World} {lo T : Nat} {NL : List ByteArray} {ss : List Sp} {c : Array Value} {vN vB : Value} (h : TabAt wk lo T NL ss c vN vB) (ha : Agree wk cur lo) : TabAt cur lo T NL ss c vN vB :=
  ⟨h.low, (ha.block T h.low (Array.getElem?_eq_some_iff.1 h.row).1).trans h.row, h.size, h.zero, own_agree h.names ha, h.which, h.last, own_agree h.own ha⟩
def cellsU (ps : List Int) : List Value := ps.flatMap fun p => [.int .i64 p, .int .i64 0, .int .i64 0]
theorem cellsU_append (l m : List Int) : cellsU (l ++ m) = cellsU l ++ cellsU m := by simp [cellsU]
theorem cellsU_at (l : List Int) : ∀ (k : Nat) (h : k < l.length), (cellsU l)[k * 3]? = some (.int .i64 l[k]) ∧ (cellsU l)[k * 3 + 1]? = some (.int .i64 0) ∧ (cellsU l)[k * 3 + 2]? = some (.int .i64 0) := by
  induction l with
  | nil => intro k h; simp at h
  | cons u l ih =>
    intro k h
    have e : cellsU (u :: l) = .int .i64 u :: .int .i64 0 :: .int .i64 0 :: cellsU l := rfl
    cases k with
    | zero => rw [e]; simp
    | succ k =>
      obtain ⟨h1, h2, h3⟩ := ih k (by simpa using h)
      rw [e, show (k + 1) * 3 = k * 3 + 1 + 1 + 1 by omega]
      exact ⟨by simpa using h1, by simpa using h2, by simpa using h3⟩
def OwnU (w : World) (base : Nat) (v : Value) (ps : List Int) : Prop := w.ownsRow base 43 3 v ps.length (cellsU ps)
theorem infoUnit : (Tryd.prog.info? 43).map (fun i => (i.zero, i.size, i.bytes)) = some (some (.agg #[.int .i64 0, .int .i64 0, .int .i64 0]), 3, 24) := by kernel_rfl
theorem ownU_snoc {w wr w1 : World} {base : Nat} {v v' : Value} {us : List Int} {u : Int} {o : Obj} {n : Nat} (hn : n = us.length) (hown : OwnU wr base v us)
    (hown' : w1.ownsRow base 43 3 v' (n + 1) (cellsU us ++ [.int .i64 u, .int .i64 0, .int .i64 0])) (hgrow : (wr.alloc o).grownBy w1 v.ownBlock) (hbel : Below base w wr) (hb : base ≤ w.heap.size) :
    OwnU w1 base v' (us ++ [u]) ∧ Below base w w1 := by
  subst hn
  have hsz := hbel.size
  refine ⟨?_, (hbel.alloc (by omega) o).grown hgrow (by simp; omega) (fun k hk => (World.ownsRow.lt hown k hk).1)⟩
  have e2 : cellsU (us ++ [u]) = cellsU us ++ [.int .i64 u, .int .i64 0, .int .i64 0] := by rw [cellsU_append]; rfl
  unfold OwnU
  rw [List.length_append, e2]
  exact hown'
theorem OwnU.up {w : World} {base : Nat} {v : Value} {ps : List Int} (h : OwnU w base v ps) : ∃ a cap, v = .slice a ps.length cap ∧ UP w a ps ∧ (∀ p, a = some p → p.block < w.heap.size) := by
  have h0 := h
  rcases h.2 with ⟨rfl, hn⟩ | ⟨g, cap, cur, rfl, hg, hr, hc, _⟩
  · exact ⟨none, 0, by rw [hn], ⟨fun k hk => by omega⟩, fun p hp => by simp at hp⟩
  · have hlt := (World.ownsRow.lt h0 g rfl).2
    refine ⟨_, cap, rfl, ⟨fun k hk => ⟨g, 0, rfl, hlt, ?_, ⟨0, ?_⟩, ⟨0, ?_⟩⟩⟩, fun p hp => by cases hp; exact hlt⟩
    · rw [Nat.zero_add, World.ownsRow.cellAt h0 (k * 3) (by omega)]; exact (cellsU_at ps k hk).1
    · rw [Nat.zero_add, World.ownsRow.cellAt h0 (k * 3 + 1) (by omega)]; exact (cellsU_at ps k hk).2.1
    · rw [Nat.zero_add, World.ownsRow.cellAt h0 (k * 3 + 2) (by omega)]; exact (cellsU_at ps k hk).2.2
theorem cell3_new (w : World) (a b c : Value) (t : TypeId) : ∀ j u, [a, b, c][j]? = some u → (w.alloc (.cells #[a, b, c] t)).cell? ((⟨w.heap.size, 0, none⟩ : Addr).add j) = some u := by
  intro j u h
  rw [Addr.add_lit, cell_of_row _ w.heap.size _ _ _ _ (heap_alloc_new w _), Nat.zero_add]
  simpa using h
end Go.Proofs.YtpimameogmkpcaaDoor
