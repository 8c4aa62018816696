/-
  The machine that the law has made for itself, in memory; four lists as the law lays them.
-/
import Derived.Test.YtmbpollfgmdinaaDoorMrLW
import Derived.Test.YtmbpollfgmdinaaDoorMrKW
namespace Go.Proofs.YtmbpollfgmdinaaDoor
open Go.RowKit Go.Shelf
theorem row3 {W : World} {X : Nat} {t : TypeId} {a b c : Value} (h : W.heap[X]? = some (.cells #[a, b, c] t (0, 0))) : (W.cell? ⟨X, 0, none⟩ = some a ∧ W.cell? ⟨X, 1, none⟩ = some b ∧ W.cell? ⟨X, 2, none⟩ = some c) ∧ (W.frozen? ⟨X, 0, none⟩ = false ∧ W.frozen? ⟨X, 1, none⟩ = false ∧ W.frozen? ⟨X, 2, none⟩ = false) :=
  ⟨⟨by rw [cell_of_row _ _ _ _ _ _ h]; rfl, by rw [cell_of_row _ _ _ _ _ _ h]; rfl, by rw [cell_of_row _ _ _ _ _ _ h]; rfl⟩, by simp [World.frozen?, h], by simp [World.frozen?, h], by simp [World.frozen?, h]⟩
def set3 (W : World) (X : Nat) (a b c : Value) : World := ((W.setCell ⟨X, 0, none⟩ a).setCell ⟨X, 1, none⟩ b).setCell ⟨X, 2, none⟩ c
theorem set3_row {W : World} {X : Nat} {t : TypeId} {a0 b0 c0 : Value} (h : W.heap[X]? = some (.cells #[a0, b0, c0] t (0, 0))) (a b c : Value) : (set3 W X a b c).heap[X]? = some (.cells #[a, b, c] t (0, 0)) := by
  unfold set3
  exact heap_setCell_same _ _ 2 _ _ c (heap_setCell_same _ _ 1 _ _ b (heap_setCell_same _ _ 0 _ _ a h))
theorem set3_below {B : Nat} {w W : World} {X : Nat} (h : Below B w W) (hX : B ≤ X) (a b c : Value) : Below B w (set3 W X a b c) := by
  unfold set3
  exact ((h.setCell (p := ⟨X, 0, none⟩) hX a).setCell (p := ⟨X, 1, none⟩) hX b).setCell (p := ⟨X, 2, none⟩) hX c
theorem set3_other {W : World} {X k : Nat} (hk : k ≠ X) (a b c : Value) : (set3 W X a b c).heap[k]? = W.heap[k]? := by
  unfold set3
  rw [Below.heap_setCell _ _ _ k hk, Below.heap_setCell _ _ _ k hk, Below.heap_setCell _ _ _ k hk]
theorem set3_size (W : World) (X : Nat) (a b c : Value) : (set3 W X a b c).heap.size = W.heap.size := by unfold set3; simp
theorem Pile.kept2 {w w' : World} {base : Nat} {v : Value} {ps : Lot} (h : Pile w base v ps) (hb : ∀ k, (v.ownBlock = some k ∨ ∃ x ∈ ps, x.1.ownBlock = some k) → w'.heap[k]? = w.heap[k]?) : Pile w' base v ps :=
  ⟨own_blk h.outer (fun k hk => hb k (.inl hk)), fun x hx => by
    obtain ⟨g, c, e, hl⟩ := h.row x hx
    exact ⟨g, c, e, own_blk hl (fun k hk => hb k (.inr ⟨x, hx, by rw [e]; exact hk⟩))⟩, h.apart, h.away⟩
/-- The machine in memory: its own cells X; its lists of Next from b1 to s1, of Out from b2 on. -/
structure Mem (w0 W : World) (X : Nat) (st : Int) (b1 s1 b2 : Nat) (vN vO : Value) (psN psO : Lot) : Prop where
  row : W.heap[X]? = some (.cells #[.int .i64 st, vN, vO] 24 (0, 0))
  lo : w0.heap.size ≤ b1
  mid : s1 ≤ b2 ∧ s1 ≤ W.heap.size
  pN : Pile W b1 vN psN
  ltN : ∀ g, (vN.ownBlock = some g ∨ ∃ x ∈ psN, x.1.ownBlock = some g) → b1 ≤ g ∧ g < s1
  pO : Pile W b2 vO psO
  xN : X < b1 ∨ s1 ≤ X
  bel : Below w0.heap.size w0 W
theorem Pile.in' {w : World} {base : Nat} {v : Value} {ps : Lot} (h : Pile w base v ps) {g : Nat} (hg : v.ownBlock = some g ∨ ∃ x ∈ ps, x.1.ownBlock = some g) : base ≤ g ∧ g < w.heap.size := by
  rcases hg with hg | ⟨x, hx, hg⟩
  · exact World.ownsRow.lt h.outer g hg
  · exact h.blk hx hg
theorem Mem.of {w0 w1 w2 W : World} {X b1 b2 : Nat} {st : Int} {vN vO : Value} {psN psO : Lot} (hpN : Pile w1 b1 vN psN) (h12 : Below w1.heap.size w1 w2) (hpO : Pile w2 b2 vO psO) (h01 : w0.heap.size ≤ b1) (hb2 : w1.heap.size ≤ b2) (hX : X < b1 ∨ w1.heap.size ≤ X) (hX2 : X < b2 ∨ w2.heap.size ≤ X)
    (hrow : W.heap[X]? = some (.cells #[.int .i64 st, vN, vO] 24 (0, 0))) (hs : w2.heap.size ≤ W.heap.size) (hk : ∀ k, k ≠ X → k < w2.heap.size → W.heap[k]? = w2.heap[k]?) (hbel : Below w0.heap.size w0 W) : Mem w0 W X st b1 w1.heap.size b2 vN vO psN psO := by
  have hsz := h12.size
  refine ⟨hrow, h01, ⟨hb2, by omega⟩, ?_, fun g hg => hpN.in' hg, ?_, hX, hbel⟩
  · refine hpN.kept2 fun k hk' => ?_
    have h1 := hpN.in' hk'
    exact (hk k (by omega) (by omega)).trans (h12.block k h1.2)
  · refine hpO.kept2 fun k hk' => ?_
    have h1 := hpO.in' hk'
    exact hk k (by omega) h1.2
theorem Mem.later {w0 W W' : World} {X b1 s1 b2 : Nat} {st : Int} {vN vO : Value} {psN psO : Lot} (h : Mem w0 W X st b1 s1 b2 vN vO psN psO) (hb : Below W.heap.size W W') : Mem w0 W' X st b1 s1 b2 vN vO psN psO :=
  ⟨(hb.block _ (Array.getElem?_eq_some_iff.1 h.row).1).trans h.row, h.lo, ⟨h.mid.1, Nat.le_trans h.mid.2 hb.size⟩, h.pN.later hb, h.ltN, h.pO.later hb, h.xN, h.bel.trans (hb.mono h.bel.size)⟩
/-- The machine while its lists of Next are written over; w3: what else lies in memory. -/
structure Bent (w0 w3 W : World) (X : Nat) (st : Int) (b1 s1 b2 : Nat) (vN vO : Value) (psN psO qs : Lot) : Prop where
  mem : Mem w0 W X st b1 s1 b2 vN vO qs psO
  lens : qs.map (fun x => x.2.length) = psN.map (fun x => x.2.length)
  size : W.heap.size = w3.heap.size
  keep : ∀ k, s1 ≤ k → W.heap[k]? = w3.heap[k]?
theorem Bent.start {w0 w3 : World} {X b1 s1 b2 : Nat} {st : Int} {vN vO : Value} {psN psO : Lot} (h : Mem w0 w3 X st b1 s1 b2 vN vO psN psO) : Bent w0 w3 w3 X st b1 s1 b2 vN vO psN psO psN := ⟨h, rfl, rfl, fun _ _ => rfl⟩
theorem Bent.put {w0 w3 W : World} {X b1 s1 b2 : Nat} {st : Int} {vN vO : Value} {psN psO qs : Lot} (h : Bent w0 w3 W X st b1 s1 b2 vN vO psN psO qs) (i : Nat) (hi : i < qs.length) {g c : Nat} (hp : (qs[i]).1 = .slice (some ⟨g, 0, none⟩) (qs[i]).2.length c) (k : Nat) (hk : k < (qs[i]).2.length) (z : Int) :
    ∃ qs', Bent w0 w3 (W.setCell ⟨g, k, none⟩ (.int .i64 z)) X st b1 s1 b2 vN vO psN psO qs' := by
  obtain ⟨qs', _, h2, h3, h4⟩ := h.mem.pN.put i hi hp k hk z
  have hg : b1 ≤ g ∧ g < s1 := h.mem.ltN g (.inr ⟨qs[i], List.getElem_mem hi, by rw [hp]; rfl⟩)
  have hother : ∀ q, q ≠ g → (W.setCell ⟨g, k, none⟩ (.int .i64 z)).heap[q]? = W.heap[q]? := fun q hq => Below.heap_setCell W _ _ q hq
  have hb2 := h.mem.mid.1
  refine ⟨qs', ⟨⟨?_, h.mem.lo, ⟨hb2, ?_⟩, h4, ?_, ?_, h.mem.xN, ?_⟩, h2.trans h.lens, ?_, ?_⟩⟩
  · exact (hother X (by have := h.mem.xN; omega)).trans h.mem.row
  · have := h.mem.mid.2; simpa using this
  · intro q hq
    refine h.mem.ltN q ?_
    rcases hq with hq | ⟨x, hx, hq⟩
    · exact .inl hq
    · right
      have hx1 : x.1 ∈ qs'.map (·.1) := List.mem_map_of_mem hx
      rw [h3] at hx1
      obtain ⟨y, hy, hye⟩ := List.mem_map.1 hx1
      exact ⟨y, hy, by rw [hye]; exact hq⟩
  · exact h.mem.pO.kept2 fun q hq => hother q (by have := (h.mem.pO.in' hq).1; omega)
  · exact h.mem.bel.setCell (p := ⟨g, k, none⟩) (by have := h.mem.lo; show w0.heap.size ≤ g; omega) _
  · have := h.size; simpa using this
  · intro q hq
    exact (hother q (by omega)).trans (h.keep q hq)
theorem Bent.drewN {w0 w3 W : World} {X b1 s1 b2 : Nat} {st : Int} {vN vO : Value} {psN psO qs : Lot} (h : Bent w0 w3 W X st b1 s1 b2 vN vO psN psO qs) (n : Nat) : Bent w0 w3 (W.drewN n) X st b1 s1 b2 vN vO psN psO qs :=
  ⟨h.mem.later ⟨rfl, rfl, rfl, Nat.le_refl _, fun _ _ => rfl⟩, h.lens, h.size, h.keep⟩
theorem Bent.rows {w0 w3 W : World} {X b1 s1 b2 : Nat} {st : Int} {vN vO : Value} {psN psO qs : Lot} (h : Bent w0 w3 W X st b1 s1 b2 vN vO psN psO qs) (hr : ∀ r ∈ psN.map (·.2), r.length ≤ 17592186043904) : ∀ r ∈ qs.map (·.2), r.length ≤ 17592186043904 := by
  intro r hr'
  obtain ⟨x, hx, rfl⟩ := List.mem_map.1 hr'
  have h1 : x.2.length ∈ qs.map (fun x => x.2.length) := List.mem_map_of_mem (f := fun x : Value × List Int => x.2.length) hx
  rw [h.lens] at h1
  obtain ⟨y, hy, e⟩ := List.mem_map.1 h1
  have := hr y.2 (List.mem_map_of_mem (f := fun x : Value × List Int => x.2) hy)
  omega
theorem Bent.len {w0 w3 W : World} {X b1 s1 b2 : Nat} {st : Int} {vN vO : Value} {psN psO qs : Lot} (h : Bent w0 w3 W X st b1 s1 b2 vN vO psN psO qs) : qs.length = psN.length := by
  have := congrArg List.length h.lens
  simpa using this
/-- Four lists, made one after another, and the slice that holds them. -/
theorem four {W1 W2 W3 W4 V : World} {B1 B2 B3 B4 : Nat} {v1 v2 v3 v4 : Value} {l1 l2 l3 l4 : List Int} {G : Nat} {base : Nat} (o1 : OwnI W1 B1 v1 l1) (o2 : OwnI W2 B2 v2 l2) (o3 : OwnI W3 B3 v3 l3) (o4 : OwnI W4 B4 v4 l4) (c1 : W1.heap.size ≤ B2) (c2 : W2.heap.size ≤ B3) (c3 : W3.heap.size ≤ B4) (c4 : W4.heap.size ≤ G)
    (a1 : base ≤ B1) (a2 : base ≤ B2) (a3 : base ≤ B3) (a4 : base ≤ B4) (aG : base ≤ G) (d1 : Below W1.heap.size W1 W2) (d2 : Below W2.heap.size W2 W3) (d3 : Below W3.heap.size W3 W4) (d4 : Below W4.heap.size W4 V) (hG : V.heap[G]? = some (.cells #[v1, v2, v3, v4] 25 (0, 0))) :
    Pil4 V base (.slice (some ⟨G, 0, none⟩) 4 4) [(v1, l1), (v2, l2), (v3, l3), (v4, l4)] [] := by
  have s1 := d1.size
  have s2 := d2.size
  have s3 := d3.size
  have e1 := World.ownsRow.lt o1
  have e2 := World.ownsRow.lt o2
  have e3 := World.ownsRow.lt o3
  have e4 := World.ownsRow.lt o4
  refine ⟨?_, ?_, ?_, ?_⟩
  · exact ⟨rfl, .inr ⟨G, 4, _, rfl, aG, hG, Nat.le_refl _, by decide, rfl, rfl⟩⟩
  · intro x hx
    simp only [List.append_nil, List.mem_cons, List.not_mem_nil, or_false] at hx
    rcases hx with rfl | rfl | rfl | rfl
    · exact owns_lower ((((o1.past d1).past d2).past d3).past d4) a1
    · exact owns_lower (((o2.past d2).past d3).past d4) a2
    · exact owns_lower ((o3.past d3).past d4) a3
    · exact owns_lower (o4.past d4) a4
  · simp only [List.append_nil, List.pairwise_cons, List.mem_cons, List.not_mem_nil, or_false, List.Pairwise.nil, and_true]
    refine ⟨?_, ?_, ?_, ?_⟩
    · intro y hy g hg hyg
      have := e1 g hg
      rcases hy with rfl | rfl | rfl
      · have := e2 g hyg; omega
      · have := e3 g hyg; omega
      · have := e4 g hyg; omega
    · intro y hy g hg hyg
      have := e2 g hg
      rcases hy with rfl | rfl
      · have := e3 g hyg; omega
      · have := e4 g hyg; omega
    · intro y hy g hg hyg
      subst hy
      have := e3 g hg
      have := e4 g hyg
      omega
    · intro y hy
      exact hy.elim
  · intro x hx g hg hxg
    have hgG : G = g := by simpa [Value.ownBlock] using hg
    simp only [List.append_nil, List.mem_cons, List.not_mem_nil, or_false] at hx
    rcases hx with rfl | rfl | rfl | rfl
    · have := e1 g hxg; omega
    · have := e2 g hxg; omega
    · have := e3 g hxg; omega
    · have := e4 g hxg; omega
theorem Mem.rwaN {w0 W : World} {X b1 s1 b2 n c : Nat} {st : Int} {a : Option Addr} {vO : Value} {psN psO : Lot} (h : Mem w0 W X st b1 s1 b2 (.slice a n c) vO psN psO) : RwA W a (psN.map (·.2)) := by
  obtain ⟨a', c', e, hr⟩ := h.pN.rwa
  cases e
  exact hr
theorem Mem.rwaO {w0 W : World} {X b1 s1 b2 n c : Nat} {st : Int} {a : Option Addr} {vN : Value} {psN psO : Lot} (h : Mem w0 W X st b1 s1 b2 vN (.slice a n c) psN psO) : RwA W a (psO.map (·.2)) := by
  obtain ⟨a', c', e, hr⟩ := h.pO.rwa
  cases e
  exact hr
theorem run_lit (A : Nat → Addr) (W : World) (G H : Nat) (hG : RwA W (some ⟨G, 0, none⟩) [[0]]) (hH : IA W (some ⟨H, 0, none⟩) [0, 0]) (he : Sents W A) :
    Calls Tryd.prog 8 #[.agg #[.int .i64 0, .slice (some ⟨G, 0, none⟩) 1 1, .slice none 0 0], .slice (some ⟨H, 0, none⟩) 2 2] W fun e w' => ∃ v, e = .returned (.tuple #[v, errC A true]) ∧ OwnI w' W.heap.size v [0, 0, 0] ∧ Below W.heap.size W w' := by
  have h := run_any A 0 [[0]] [0, 0] (some ⟨G, 0, none⟩) none (some ⟨H, 0, none⟩) 1 0 0 2 W (by simp) (by simp) hG hH he
  have e : runF [[0]] 0 [0, 0] = some [0, 0, 0] := by decide
  rw [e] at h
  exact h
theorem lit3 (v : World) : RwA (((v.alloc (.cells #[.int .i64 0] 3)).alloc (.cells #[.slice (some ⟨v.heap.size, 0, none⟩) 1 1] 25)).alloc (.cells #[.int .i64 0, .int .i64 0] 3)) (some ⟨v.heap.size + 1, 0, none⟩) [[0]] ∧
    IA (((v.alloc (.cells #[.int .i64 0] 3)).alloc (.cells #[.slice (some ⟨v.heap.size, 0, none⟩) 1 1] 25)).alloc (.cells #[.int .i64 0, .int .i64 0] 3)) (some ⟨v.heap.size + 1 + 1, 0, none⟩) [0, 0] ∧
    Below v.heap.size v (((v.alloc (.cells #[.int .i64 0] 3)).alloc (.cells #[.slice (some ⟨v.heap.size, 0, none⟩) 1 1] 25)).alloc (.cells #[.int .i64 0, .int .i64 0] 3)) := by
  refine ⟨?_, ?_, (((Below.refl _ _).alloc (Nat.le_refl _) _).alloc (by simp) _).alloc (by simp; omega) _⟩
  · obtain ⟨w1, h1⟩ : ∃ w1, w1 = v.alloc (.cells #[.int .i64 0] 3) := ⟨_, rfl⟩
    rw [← h1]
    have s1 : w1.heap.size = v.heap.size + 1 := by rw [h1]; simp
    have o1 : OwnI w1 v.heap.size (.slice (some ⟨v.heap.size, 0, none⟩) 1 1) [0] := by rw [h1]; exact own_one v _ 0 (Nat.le_refl _)
    obtain ⟨w2, h2⟩ : ∃ w2, w2 = w1.alloc (.cells #[.slice (some ⟨v.heap.size, 0, none⟩) 1 1] 25) := ⟨_, rfl⟩
    rw [← h2]
    have b2 : Below w1.heap.size w1 w2 := by rw [h2]; exact (Below.refl _ _).alloc (Nat.le_refl _) _
    have r2 : w2.heap[v.heap.size + 1]? = some (.cells #[.slice (some ⟨v.heap.size, 0, none⟩) 1 1] 25 (0, 0)) := by rw [h2, ← s1]; exact heap_alloc_new w1 _
    have b3 : Below w2.heap.size w2 (w2.alloc (.cells #[.int .i64 0, .int .i64 0] 3)) := (Below.refl _ _).alloc (Nat.le_refl _) _
    have hR : RwA w2 (some ⟨v.heap.size + 1, 0, none⟩) [[0]] := ⟨fun k hk => by
      have hk0 : k = 0 := by simp at hk; omega
      subst hk0
      obtain ⟨a, c, e, hi⟩ := (o1.past b2).ia
      simp only [Value.slice.injEq] at e
      obtain ⟨rfl, _, rfl⟩ := e
      exact ⟨v.heap.size + 1, 0, rfl, (Array.getElem?_eq_some_iff.1 r2).1, some ⟨v.heap.size, 0, none⟩, 1, by rw [cell_of_row _ _ _ _ _ _ r2]; rfl, hi⟩⟩
    exact hR.past b3
  · obtain ⟨w2, h2⟩ : ∃ w2, w2 = (v.alloc (.cells #[.int .i64 0] 3)).alloc (.cells #[.slice (some ⟨v.heap.size, 0, none⟩) 1 1] 25) := ⟨_, rfl⟩
    rw [← h2]
    have s2 : w2.heap.size = v.heap.size + 1 + 1 := by rw [h2]; simp
    rw [← s2]
    have r3 := heap_alloc_new w2 (.cells #[.int .i64 0, .int .i64 0] 3)
    refine ⟨fun k hk => ⟨w2.heap.size, 0, rfl, (Array.getElem?_eq_some_iff.1 r3).1, ?_⟩⟩
    rw [cell_of_row _ _ _ _ _ _ r3, Nat.zero_add]
    match k, hk with
    | 0, _ => rfl
    | 1, _ => rfl
theorem same000 (a : Option Addr) (c : Nat) (W : World) (h : IA W a [0, 0, 0]) {G : Nat} (hG : G = W.heap.size) :
    Calls Tryd.prog 9 #[.slice a 3 c, .slice (some ⟨G, 0, none⟩) 3 3] (W.alloc (.cells #[.int .i64 0, .int .i64 0, .int .i64 0] 3)) fun e w' => e = .returned (.bool true) ∧ ∃ n, w' = (W.alloc (.cells #[.int .i64 0, .int .i64 0, .int .i64 0] 3)).drewN n := by
  subst hG
  have r3 := heap_alloc_new W (.cells #[.int .i64 0, .int .i64 0, .int .i64 0] 3)
  refine sameI [0, 0, 0] a (some ⟨W.heap.size, 0, none⟩) c 3 _ (by decide) (h.past ((Below.refl _ _).alloc (Nat.le_refl _) _)) ⟨fun k hk => ⟨W.heap.size, 0, rfl, (Array.getElem?_eq_some_iff.1 r3).1, ?_⟩⟩
  rw [cell_of_row _ _ _ _ _ _ r3, Nat.zero_add]
  match k, hk with
  | 0, _ => rfl
  | 1, _ => rfl
  | 2, _ => rfl
theorem lone4 {W1 W2 W3 W4 : World} {B1 B2 B3 B4 base : Nat} {x1 x2 x3 x4 : Option Addr} {z1 z2 z3 z4 : Nat} {L : List Int} (o1 : OwnI W1 B1 (.slice x1 L.length z1) L) (o2 : OwnI W2 B2 (.slice x2 L.length z2) L) (o3 : OwnI W3 B3 (.slice x3 3 z3) [0, 0, 0]) (o4 : OwnI W4 B4 (.slice x4 L.length z4) L) (c1 : W1.heap.size ≤ B2) (c2 : W2.heap.size ≤ B3) (c3 : W3.heap.size ≤ B4)
    (a1 : base ≤ B1) (a2 : base ≤ B2) (a3 : base ≤ B3) (a4 : base ≤ B4) (a5 : base ≤ W4.heap.size) (d1 : Below W1.heap.size W1 W2) (d2 : Below W2.heap.size W2 W3) (d3 : Below W3.heap.size W3 W4) (hL : L.length ≤ 17592186044000) (n m : Nat) {G : Nat} (hG : G = W4.heap.size + 1) :
    Calls Tryd.prog 10 #[.slice (some ⟨G, 0, none⟩) 4 4] ((((W4.drewN n).alloc (.cells #[.int .i64 0, .int .i64 0, .int .i64 0] 3)).drewN m).alloc (.cells #[.slice x1 L.length z1, .slice x2 L.length z2, .slice x3 3 z3, .slice x4 L.length z4] 25)) fun e w' => e = .returned (.bool true) ∧ Below base W4 w' := by
  obtain ⟨V0, hV0⟩ : ∃ V0, V0 = (((W4.drewN n).alloc (.cells #[.int .i64 0, .int .i64 0, .int .i64 0] 3)).drewN m) := ⟨_, rfl⟩
  rw [← hV0]
  have hs : V0.heap.size = G := by rw [hV0, hG]; show ((W4.drewN n).alloc _).heap.size = _; simp
  have hb : Below W4.heap.size W4 V0 := by
    rw [hV0]
    have h := (Below.refl W4.heap.size W4).alloc (Nat.le_refl _) (.cells #[.int .i64 0, .int .i64 0, .int .i64 0] 3)
    exact ⟨h.os, h.tape, h.output, h.size, h.block⟩
  have hr := heap_alloc_new V0 (.cells #[.slice x1 L.length z1, .slice x2 L.length z2, .slice x3 3 z3, .slice x4 L.length z4] 25)
  rw [hs] at hr
  have hb2 : Below W4.heap.size W4 (V0.alloc (.cells #[.slice x1 L.length z1, .slice x2 L.length z2, .slice x3 3 z3, .slice x4 L.length z4] 25)) := hb.alloc hb.size _
  have h4 := four o1 o2 o3 o4 c1 c2 c3 (G := G) (by omega) a1 a2 a3 a4 (by omega) d1 d2 d3 hb2 hr
  refine (lone_any G 4 base _ _ (Nat.le_trans a5 hb2.size) h4 rfl (fun x hx => ?_)).mono (fun e w' h => ⟨h.1, (hb2.mono a5).trans h.2⟩)
  simp only [List.mem_cons, List.not_mem_nil, or_false] at hx
  rcases hx with rfl | rfl | rfl | rfl
  · exact hL
  · exact hL
  · show [0, 0, 0].length ≤ 17592186044000; decide
  · exact hL
theorem Bent.same {w0 w3 W W' : World} {X b1 s1 b2 : Nat} {st : Int} {vN vO : Value} {psN psO qs : Lot} (h : Bent w0 w3 W X st b1 s1 b2 vN vO psN psO qs) (h1 : W'.heap = W.heap) (h2 : W'.os = W.os) (h3 : W'.tape = W.tape) (h4 : W'.output = W.output) : Bent w0 w3 W' X st b1 s1 b2 vN vO psN psO qs :=
  ⟨h.mem.later ⟨h2, h3, h4, by rw [h1]; exact Nat.le_refl _, fun k _ => by rw [h1]⟩, h.lens, by rw [h1]; exact h.size, fun k hk => by rw [h1]; exact h.keep k hk⟩
end Go.Proofs.YtmbpollfgmdinaaDoor
