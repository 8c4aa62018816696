/-
  The mathematics of a list of steps: what a writer puts for them, how long it is.
-/
import Derived.Test.YtnclpcnpaodjjaaDoorNum
namespace Go.Proofs.YtnclpcnpaodjjaaDoor
/-- A step: a text or a number. -/
structure St where
  wd : Bool
  n : Int
  s : ByteArray
def St.enc (t : St) : List UInt8 := if t.wd = true then form 9 t.s.size ++ t.s.data.toList else if t.n < 0 then [] else form 9 t.n.toNat
def put : List St → List UInt8
  | [] => []
  | t :: r => t.enc ++ put r
def stBulk : List St → Nat
  | [] => 0
  | t :: r => t.s.size + 4 + stBulk r
theorem put_append (a b : List St) : put (a ++ b) = put a ++ put b := by
  induction a with
  | nil => rfl
  | cons t r ih => simp [put, ih]
theorem stBulk_append (a b : List St) : stBulk (a ++ b) = stBulk a + stBulk b := by
  induction a with
  | nil => simp [stBulk]
  | cons t r ih => simp [stBulk, ih]; omega
theorem len_bulk (a : List St) : a.length ≤ stBulk a := by
  induction a with
  | nil => simp
  | cons t r ih => simp [stBulk]; omega
theorem enc_le (t : St) : t.enc.length ≤ t.s.size + 10 := by
  have h1 := (form_length 9 t.s.size).2
  have h2 := (form_length 9 t.n.toNat).2
  unfold St.enc
  split
  · simp; omega
  · split
    · simp
    · omega
theorem put_le (a : List St) : (put a).length ≤ 10 * stBulk a := by
  induction a with
  | nil => simp [put]
  | cons t r ih => have := enc_le t; simp [put, stBulk]; omega
theorem put_take (S : List St) (k : Nat) (t : St) (h : S[k]? = some t) : put (S.take (k + 1)) = put (S.take k) ++ t.enc := by
  rw [List.take_add_one, h, put_append]
  simp [put]
theorem put_drop (S : List St) (k : Nat) (t : St) (h : S[k]? = some t) : put (S.drop k) = t.enc ++ put (S.drop (k + 1)) := by
  obtain ⟨hk, rfl⟩ := List.getElem?_eq_some_iff.1 h
  rw [List.drop_eq_getElem_cons hk, put]
theorem bulk_at (S : List St) (k : Nat) (t : St) (h : S[k]? = some t) (hs : stBulk S ≤ 1048576) : (put (S.take k)).length + t.s.size + 20 ≤ 536870912 := by
  obtain ⟨hk, rfl⟩ := List.getElem?_eq_some_iff.1 h
  have h1 := put_le (S.take k)
  have h2 : stBulk S = stBulk (S.take k) + stBulk (S.drop k) := by rw [← stBulk_append, List.take_append_drop]
  rw [List.drop_eq_getElem_cons hk, stBulk] at h2
  omega
theorem bulk_all (S : List St) (k : Nat) (hs : stBulk S ≤ 1048576) : (put (S.drop k)).length ≤ 140737488355328 := by
  have h1 := put_le (S.drop k)
  have h2 : stBulk S = stBulk (S.take k) + stBulk (S.drop k) := by rw [← stBulk_append, List.take_append_drop]
  omega
theorem enc_text (t : St) (h : t.wd = true) : t.enc = form 9 t.s.size ++ t.s.data.toList := by simp [St.enc, h]
theorem enc_num (t : St) (h : t.wd = false) (n : Nat) (hn : t.n = n) : t.enc = form 9 n := by
  simp only [St.enc, h, Bool.false_eq_true, if_false, hn]
  rw [if_neg (by omega)]; rfl
theorem enc_neg (t : St) (h : t.wd = false) (hn : t.n < 0) : t.enc = [] := by simp [St.enc, h, hn]
end Go.Proofs.YtnclpcnpaodjjaaDoor
