/-
  Sections of one's own in memory: each list of edits in a row of its own, marks behind.
-/
import Derived.Test.YtbdjnmbhphflbaaGreatDoorLc8W
import Derived.Lib.AppendZeros
import Derived.Deep.DeepAppendRoom
import Derived.Deep.AppendLies
namespace Go.Proofs.YtbdjnmbhphflbaaGreatDoor
open Go.RowKit Go.Shelf Go.Lib
def markB : ByteArray := ⟨#[109, 97, 114, 107]⟩
def cellsE (l : List (Bool × ByteArray)) : List Value := l.flatMap fun r => [.bool r.1, .string r.2]
theorem cellsE_length (l : List (Bool × ByteArray)) : (cellsE l).length = l.length * 2 := by
  induction l with
  | nil => rfl
  | cons u l ih => rw [cellsE, List.flatMap_cons, List.length_append, List.length_cons]; rw [cellsE] at ih; rw [ih]; simp; omega
theorem cellsE_append (l m : List (Bool × ByteArray)) : cellsE (l ++ m) = cellsE l ++ cellsE m := by simp [cellsE]
theorem cellsE_at (l : List (Bool × ByteArray)) : ∀ (k : Nat) (h : k < l.length), (cellsE l)[k * 2]? = some (.bool l[k].1) ∧ (cellsE l)[k * 2 + 1]? = some (.string l[k].2) := by
  induction l with
  | nil => intro k h; simp at h
  | cons u l ih =>
    intro k h
    have e : cellsE (u :: l) = .bool u.1 :: .string u.2 :: cellsE l := rfl
    cases k with
    | zero => rw [e]; simp
    | succ k =>
      have := ih k (by simpa using h)
      rw [e, show (k + 1) * 2 = k * 2 + 1 + 1 by omega, show k * 2 + 1 + 1 + 1 = (k * 2 + 1) + 1 + 1 by omega]
      simpa using this
theorem infoEdit : (Tryz.prog.info? 50).map (fun i => (i.zero, i.size, i.bytes)) = some (some (.agg #[.bool false, .string ⟨#[]⟩]), 2, 24) := by kernel_rfl
theorem infoSec : (Tryz.prog.info? 27).map (fun i => (i.zero, i.size, i.bytes)) = some (some (.agg #[.string ⟨#[]⟩, .string ⟨#[]⟩, .slice none 0 0]), 3, 56) := by kernel_rfl
/-- Edits in a row of one's own. -/
def OwnE (w : World) (base : Nat) (v : Value) (n : Nat) (l : List (Bool × ByteArray)) : Prop := w.ownsRow base 50 2 v n (cellsE l)
def marksE (j : Nat) : List (Bool × ByteArray) := List.replicate j (false, markB)
theorem marksE_succ (j : Nat) : marksE (j + 1) = marksE j ++ [(false, markB)] := by unfold marksE; rw [List.replicate_succ']
/-- A section, and where its edits lie. -/
structure SecAt where
  s : Sec
  blk : Nat
  cap : Nat
def cellsX (S : List SecAt) : List Value := S.flatMap fun x => [.string x.s.loc, .string x.s.par, .slice (some ⟨x.blk, 0, none⟩) x.s.ed.length x.cap]
def markX : Nat → List Value
  | 0 => []
  | m + 1 => markX m ++ [.string markB, .string ⟨#[]⟩, .slice none 0 0]
theorem cellsX_length (S : List SecAt) : (cellsX S).length = S.length * 3 := by
  induction S with
  | nil => rfl
  | cons u l ih =>
    have e : cellsX (u :: l) = .string u.s.loc :: .string u.s.par :: .slice (some ⟨u.blk, 0, none⟩) u.s.ed.length u.cap :: cellsX l := rfl
    rw [e]; simp [ih]; omega
theorem cellsX_append (l m : List SecAt) : cellsX (l ++ m) = cellsX l ++ cellsX m := by simp [cellsX]
theorem cellsX_at (S : List SecAt) : ∀ (k : Nat) (h : k < S.length), (cellsX S)[k * 3]? = some (.string S[k].s.loc) ∧ (cellsX S)[k * 3 + 1]? = some (.string S[k].s.par) ∧ (cellsX S)[k * 3 + 2]? = some (.slice (some ⟨S[k].blk, 0, none⟩) S[k].s.ed.length S[k].cap) := by
  induction S with
  | nil => intro k h; simp at h
  | cons u l ih =>
    intro k h
    have e : cellsX (u :: l) = .string u.s.loc :: .string u.s.par :: .slice (some ⟨u.blk, 0, none⟩) u.s.ed.length u.cap :: cellsX l := rfl
    cases k with
    | zero => rw [e]; simp
    | succ k =>
      have := ih k (by simpa using h)
      rw [e, show (k + 1) * 3 = k * 3 + 1 + 1 + 1 by omega, show k * 3 + 1 + 1 + 1 + 1 = (k * 3 + 1) + 1 + 1 + 1 by omega, show k * 3 + 1 + 1 + 1 + 2 = (k * 3 + 2) + 1 + 1 + 1 by omega]
      simpa using this
theorem markX_length : ∀ m, (markX m).length = m * 3
  | 0 => rfl
  | m + 1 => by rw [markX, List.length_append, markX_length m]; simp; omega
theorem markX_at : ∀ (m k : Nat), k < m → (markX m)[k * 3]? = some (.string markB)
  | 0, _, h => absurd h (Nat.not_lt_zero _)
  | m + 1, k, h => by
    rw [markX]
    by_cases e : k < m
    · rw [List.getElem?_append_left (by rw [markX_length]; omega)]
      exact markX_at m k e
    · have : k = m := by omega
      subst this
      rw [List.getElem?_append_right (by rw [markX_length]; omega), markX_length, Nat.sub_self]
      rfl
theorem own_blk {W W' : World} {lo t s n : Nat} {v : Value} {xs : List Value} (h : W.ownsRow lo t s v n xs) (hb : ∀ k, v.ownBlock = some k → W'.heap[k]? = W.heap[k]?) : W'.ownsRow lo t s v n xs := by
  refine ⟨h.1, ?_⟩
  rcases h.2 with h2 | ⟨g, cap, cur0, hv, hg, hr, r⟩
  · exact .inl h2
  · exact .inr ⟨g, cap, cur0, hv, hg, (hb g (by rw [hv]; rfl)).trans hr, r⟩
theorem owns_lower {w : World} {base base' : Nat} {e : TypeId} {size : Nat} {v : Value} {n : Nat} {xs : List Value} (h : w.ownsRow base e size v n xs) (hb : base' ≤ base) : w.ownsRow base' e size v n xs :=
  ⟨h.1, h.2.imp id (fun ⟨g, cap, cur, h1, h2, h3⟩ => ⟨g, cap, cur, h1, Nat.le_trans hb h2, h3⟩)⟩
/-- Sections of one's own, m marks behind them. -/
structure Giv (w : World) (lo : Nat) (v : Value) (S : List SecAt) (m : Nat) : Prop where
  row : w.ownsRow lo 27 3 v (S.length + m) (cellsX S ++ markX m)
  ed : ∀ x ∈ S, OwnE w lo (.slice (some ⟨x.blk, 0, none⟩) (x.s.ed.length + 64) x.cap) (x.s.ed.length + 64) (x.s.ed ++ marksE 64)
  ne : ∀ x ∈ S, v.ownBlock ≠ some x.blk
theorem Giv.keep {w w' : World} {lo : Nat} {v : Value} {S : List SecAt} {m : Nat} (h : Giv w lo v S m) (hb : ∀ k, lo ≤ k → k < w.heap.size → w'.heap[k]? = w.heap[k]?) : Giv w' lo v S m :=
  ⟨own_blk h.row (fun k hk => hb k (World.ownsRow.lt h.row k hk).1 (World.ownsRow.lt h.row k hk).2), fun x hx => own_blk (h.ed x hx) (fun k hk => hb k (World.ownsRow.lt (h.ed x hx) k hk).1 (World.ownsRow.lt (h.ed x hx) k hk).2), h.ne⟩
/-- The sections' row has grown: in its place, or into a new row. -/
theorem Giv.grown {w wa w' : World} {lo : Nat} {v v' : Value} {S S' : List SecAt} {m m' : Nat} (h : Giv w lo v S m) (hwa : ∀ k, lo ≤ k → k < w.heap.size → wa.heap[k]? = w.heap[k]?) (hg : wa.grownBy w' v.ownBlock)
    (hrow : w'.ownsRow lo 27 3 v' (S'.length + m') (cellsX S' ++ markX m')) (hat : v'.ownBlock = v.ownBlock ∨ ∃ g, v'.ownBlock = some g ∧ wa.heap.size ≤ g)
    (hS : ∀ x ∈ S', x ∈ S ∨ (OwnE wa lo (.slice (some ⟨x.blk, 0, none⟩) (x.s.ed.length + 64) x.cap) (x.s.ed.length + 64) (x.s.ed ++ marksE 64) ∧ w.heap.size ≤ x.blk)) : Giv w' lo v' S' m' := by
  have key : ∀ x ∈ S', OwnE wa lo (.slice (some ⟨x.blk, 0, none⟩) (x.s.ed.length + 64) x.cap) (x.s.ed.length + 64) (x.s.ed ++ marksE 64) ∧ v.ownBlock ≠ some x.blk := fun x hx => by
    rcases hS x hx with h1 | ⟨h1, h2⟩
    · have l := World.ownsRow.lt (h.ed x h1) x.blk rfl
      exact ⟨own_blk (h.ed x h1) (fun k hk => by cases hk; exact hwa x.blk l.1 l.2), h.ne x h1⟩
    · refine ⟨h1, fun e => ?_⟩
      have := (World.ownsRow.lt h.row x.blk e).2
      omega
  refine ⟨hrow, fun x hx => own_blk (key x hx).1 (fun k hk => by cases hk; exact hg.block x.blk (World.ownsRow.lt (key x hx).1 x.blk rfl).2 (fun e => (key x hx).2 e.symm)), fun x hx => ?_⟩
  rcases hat with e | ⟨g, e, hg'⟩
  · rw [e]; exact (key x hx).2
  · rw [e]
    intro e2
    have := (World.ownsRow.lt (key x hx).1 x.blk rfl).2
    cases e2
    omega
theorem Giv.ea {w : World} {lo : Nat} {v : Value} {S : List SecAt} {m : Nat} (h : Giv w lo v S m) (x : SecAt) (hx : x ∈ S) : EA w (some ⟨x.blk, 0, none⟩) (x.s.ed ++ marksE 64) := ⟨fun k hk => by
  have h0 := h.ed x hx
  have hl : (x.s.ed ++ marksE 64).length = x.s.ed.length + 64 := by rw [List.length_append, marksE, List.length_replicate]
  have c := cellsE_at _ k hk
  refine ⟨x.blk, 0, rfl, (World.ownsRow.lt h0 x.blk rfl).2, ?_, ?_⟩
  · rw [Nat.zero_add, World.ownsRow.cellAt h0 _ (by omega)]; exact c.1
  · rw [Nat.zero_add, World.ownsRow.cellAt h0 _ (by omega)]; exact c.2⟩
theorem EA.front {w : World} {a : Option Addr} {L M : List (Bool × ByteArray)} (h : EA w a (L ++ M)) : EA w a L := ⟨fun k hk => by
  obtain ⟨b, off, e, h1, h2, h3⟩ := h.at' k (by simp; omega)
  rw [List.getElem_append_left hk] at h2 h3
  exact ⟨b, off, e, h1, h2, h3⟩⟩
theorem Giv.xa {w : World} {lo g n cap m : Nat} {S : List SecAt} (h : Giv w lo (.slice (some ⟨g, 0, none⟩) n cap) S m) (hn : n = S.length + m) : XA w (some ⟨g, 0, none⟩) (S.map (·.s)) := ⟨fun k hk => by
  subst hn
  have hk2 : k < S.length := by simpa using hk
  obtain ⟨c0, c1, c2⟩ := cellsX_at S k hk2
  have e : (S.map (·.s))[k] = S[k].s := by simp
  have hl := cellsX_length S
  rw [e]
  refine ⟨g, 0, some ⟨S[k].blk, 0, none⟩, S[k].cap, rfl, (World.ownsRow.lt h.row g rfl).2, ?_, ?_, ?_, (h.ea S[k] (List.getElem_mem hk2)).front⟩
  · rw [Nat.zero_add, World.ownsRow.cellAt h.row _ (by omega), List.getElem?_append_left (by omega)]; exact c0
  · rw [Nat.zero_add, World.ownsRow.cellAt h.row _ (by omega), List.getElem?_append_left (by omega)]; exact c1
  · rw [Nat.zero_add, World.ownsRow.cellAt h.row _ (by omega), List.getElem?_append_left (by omega)]; exact c2⟩
end Go.Proofs.YtbdjnmbhphflbaaGreatDoor
