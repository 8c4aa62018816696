/-
  The algebra of sets, by points.
-/
import Derived.Test.YtnkllhihdjjmnaaDoorCntsW
namespace Go.Proofs.YtnkllhihdjjmnaaDoor
open Go.RowKit
theorem in_all {l : List (Int × Int)} (h : mayL l = true) (p : Int) : pts l p = true → inAll p = true := fun hp => by
  have := may_pts h hp
  simp [inAll]
  omega
theorem b_back (a i : Bool) (h : a = true → i = true) : a = (i && !(i && !a)) := by cases a <;> cases i <;> simp_all
theorem b_morgan (a b i : Bool) (h1 : a = true → i = true) : (a && b) = (i && !((i && !a) || (i && !b))) := by cases a <;> cases b <;> cases i <;> simp_all
theorem b_less (a b i : Bool) (h1 : a = true → i = true) : (a && !b) = (a && (i && !b)) := by cases a <;> cases b <;> cases i <;> simp_all
theorem b_whole (a b : Bool) : a = ((a && !b) || (a && b)) := by cases a <;> cases b <;> rfl
theorem b_swap (a b : Bool) : (a && b) = (b && a) := by cases a <;> cases b <;> rfl
/-- Each range cut at its first point, in the order turned round. -/
def turnedL (l : List (Int × Int)) : List (Int × Int) := l.reverse.flatMap fun r => [(r.1, r.1), r]
theorem turned_step (l : List (Int × Int)) (j : Nat) (h : j < l.length) : turnedL (l.drop j) = turnedL (l.drop (j + 1)) ++ [(l[j].1, l[j].1), l[j]] := by
  rw [List.drop_eq_getElem_cons h, turnedL, turnedL, List.reverse_cons, List.flatMap_append]
  rfl
theorem turned_len (l : List (Int × Int)) : (turnedL l).length = 2 * l.length := by
  induction l with
  | nil => rfl
  | cons r l ih =>
    have e : turnedL (r :: l) = turnedL l ++ [(r.1, r.1), r] := by rw [turnedL, turnedL, List.reverse_cons, List.flatMap_append]; rfl
    rw [e, List.length_append, ih, List.length_cons]
    simp
    omega
theorem turned_may {l : List (Int × Int)} (h : mayL l = true) : mayL (turnedL l) = true := by
  induction l with
  | nil => rfl
  | cons r l ih =>
    have e : turnedL (r :: l) = turnedL l ++ [(r.1, r.1), r] := by rw [turnedL, turnedL, List.reverse_cons, List.flatMap_append]; rfl
    unfold mayL at *
    rw [List.all_cons, Bool.and_eq_true] at h
    have hr := (mayR_iff r).1 h.1
    rw [e, List.all_append, ih h.2, Bool.true_and, List.all_cons, List.all_cons, List.all_nil, h.1, Bool.and_true, Bool.and_true, mayR_iff]
    simp
    omega
theorem turned_pts {l : List (Int × Int)} (h : mayL l = true) (p : Int) : pts (turnedL l) p = pts l p := by
  induction l with
  | nil => rfl
  | cons r l ih =>
    have e : turnedL (r :: l) = turnedL l ++ [(r.1, r.1), r] := by rw [turnedL, turnedL, List.reverse_cons, List.flatMap_append]; rfl
    unfold mayL at h
    rw [List.all_cons, Bool.and_eq_true] at h
    have hr := (mayR_iff r).1 h.1
    rw [e, pts_append, ih h.2, pts_cons, pts_cons, pts_cons, pts_nil, Bool.or_false]
    have h1 : (hasR (r.1, r.1) p || hasR r p) = hasR r p := by
      cases h2 : hasR r p with
      | true => simp
      | false =>
        rw [Bool.or_false]
        cases h3 : hasR (r.1, r.1) p with
        | false => rfl
        | true =>
          have h4 := (hasR_iff _ _).1 h3
          simp only at h4
          have := (hasR_iff r p).2 (by omega)
          rw [h2] at this
          cases this
    rw [h1, Bool.or_comm]
theorem may_b (l : List (Int × Int)) (a : Option Addr) (cap : Nat) (hl : l.length ≤ 140737488355328) (w : World) (ha : RA w a l) (x : Bool) (hx : mayL l = x) :
    Calls Tryd.prog 10 #[.slice a l.length cap] w fun e w' => e = .returned (.bool x) ∧ Below w.heap.size w w' :=
  (may_any l a cap hl w ha).mono fun e w' ⟨h1, q, h2⟩ => ⟨by rw [h1, hx], by rw [h2]; exact drewN_below _ _⟩
theorem sameR_b (l : List (Int × Int)) (a b : Option Addr) (ca cb : Nat) (w : World) (hl : l.length ≤ 140737488355328) (ha : RA w a l) (hb : RA w b l) :
    Calls Tryd.prog 16 #[.slice a l.length ca, .slice b l.length cb] w fun e w' => e = .returned (.bool true) ∧ Below w.heap.size w w' :=
  (sameR_eq l a b ca cb w hl ha hb).mono fun e w' ⟨h1, q, h2⟩ => ⟨h1, by rw [h2]; exact drewN_below _ _⟩
/-- Lists in memory. -/
def Mem (w : World) (m : List (Option Addr × List (Int × Int))) : Prop := ∀ x ∈ m, RA w x.1 x.2
theorem Mem.nil (w : World) : Mem w [] := fun _ h => by cases h
theorem Mem.more {w w' : World} {m : List (Option Addr × List (Int × Int))} {a : Option Addr} {l : List (Int × Int)} (h : Mem w m) (hb : Below w.heap.size w w') (hr : RA w' a l) : Mem w' ((a, l) :: m) := fun x hx => by
  rcases List.mem_cons.1 hx with rfl | hx
  · exact hr
  · exact (h x hx).later hb
theorem Mem.later {w w' : World} {m : List (Option Addr × List (Int × Int))} (h : Mem w m) (hb : Below w.heap.size w w') : Mem w' m := fun x hx => (h x hx).later hb
theorem ownR_snoc2 {w wr w1 : World} {base : Nat} {v v' : Value} {l m : List (Int × Int)} {r s : Int × Int} {o : Obj} {n : Nat} (hn : n = l.length) (hown : OwnR wr base v l)
    (hown' : w1.ownsRow base 35 2 v' (n + 2) (cellsR l ++ [.int .i64 r.1, .int .i64 r.2, .int .i64 s.1, .int .i64 s.2])) (hgrow : (wr.alloc o).grownBy w1 v.ownBlock) (hm : m = l ++ [r, s]) (hbel : Below base w wr) (hb : base ≤ w.heap.size) :
    OwnR w1 base v' m ∧ Below base w w1 := by
  subst hn hm
  have hsz := hbel.size
  refine ⟨?_, (hbel.alloc (by omega) o).grown hgrow (by simp; omega) (fun k hk => (World.ownsRow.lt hown k hk).1)⟩
  have e2 : cellsR (l ++ [r, s]) = cellsR l ++ [.int .i64 r.1, .int .i64 r.2, .int .i64 s.1, .int .i64 s.2] := by rw [cellsR_append]; rfl
  unfold OwnR
  rw [List.length_append, e2]
  exact hown'
end Go.Proofs.YtnkllhihdjjmnaaDoor
