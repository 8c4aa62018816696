/-
  What Patterns says; patterns in memory.
-/
import Derived.Test.YthcpalpcakjfnaaMgPW
import Derived.RangeFuncNested
import Derived.RangeFuncBound
import Derived.RangeFuncCalls
import Derived.RangeFuncLeaves
import Derived.RangeFuncBox
import Derived.OwnWalkIn
import Derived.TacticsInMore
import Derived.LoopNIn
import Derived.LoopIn
import Derived.Sort.LoopGhostIn
namespace Go.Proofs.Ythcpalpcakjfnaa
open Go.RowKit Go.Shelf Go.Lib Go.Maps
abbrev P3 := Int × Int × Int
def val3 (x : P3) : Value := .agg #[.int .i64 x.1, .int .i64 x.2.1, .int .i64 x.2.2]
def c3 (x : P3) : List Value := [.int .i64 x.1, .int .i64 x.2.1, .int .i64 x.2.2]
def cells3 (L : List P3) : List Value := L.flatMap c3
theorem cells3_snoc (L : List P3) (f : P3) : cells3 (L ++ [f]) = cells3 L ++ c3 f := by simp [cells3]
theorem cells3_len (L : List P3) : (cells3 L).length = L.length * 3 := by
  induction L with
  | nil => rfl
  | cons x L ih => unfold cells3 at ih ⊢; rw [List.flatMap_cons, List.length_append, ih, List.length_cons]; simp [c3]; omega
theorem cells3_at (L : List P3) : ∀ (k j : Nat) (h : k < L.length), j < 3 → (cells3 L)[k * 3 + j]? = (c3 L[k])[j]? := by
  induction L with
  | nil => intro i j h; exact absurd h (Nat.not_lt_zero _)
  | cons g xs ih =>
    intro i j h hj
    unfold cells3 at ih ⊢
    rw [List.flatMap_cons]
    cases i with
    | zero =>
      rw [Nat.zero_mul, Nat.zero_add, List.getElem?_append_left (by simpa [c3] using hj)]
      rfl
    | succ i =>
      rw [List.getElem?_append_right (by simp [c3]; omega)]
      rw [show (i + 1) * 3 + j - (c3 g).length = i * 3 + j by simp [c3]; omega]
      exact ih i j (by simpa using h) hj
def Own3 (w : World) (base : Nat) (v : Value) (L : List P3) : Prop := w.ownsRow base 54 3 v L.length (cells3 L)
theorem info3 : (Try.prog.info? 54).map (fun i => (i.zero, i.size, i.bytes)) = some (some (.agg #[.int .i64 0, .int .i64 0, .int .i64 0]), 3, 24) := by kernel_rfl
theorem Own3.form {w : World} {base : Nat} {v : Value} {L : List P3} (h : Own3 w base v L) : ∃ a cap, v = .slice a L.length cap := by
  rcases h.2 with ⟨h1, h2⟩ | ⟨g, cap, cur, rfl, _⟩
  · exact ⟨none, 0, by rw [h1, h2]⟩
  · exact ⟨_, cap, rfl⟩
theorem Own3.cells {w : World} {base : Nat} {v : Value} {L : List P3} (h : Own3 w base v L) : ∃ a cap, v = .slice a L.length cap ∧ ∀ k (hk : k < L.length), ∃ b, a = some ⟨b, 0, none⟩ ∧ b < w.heap.size ∧ w.cell? ⟨b, k * 3, none⟩ = some (.int .i64 L[k].1) ∧ w.cell? ⟨b, k * 3 + 1, none⟩ = some (.int .i64 L[k].2.1) ∧ w.cell? ⟨b, k * 3 + 2, none⟩ = some (.int .i64 L[k].2.2) := by
  have h0 := h
  rcases h.2 with ⟨h1, h2⟩ | ⟨g, cap, cur, rfl, _⟩
  · exact ⟨none, 0, by rw [h1, h2], fun k hk => by omega⟩
  · refine ⟨_, cap, rfl, fun k hk => ⟨g, rfl, (World.ownsRow.lt h0 g rfl).2, ?_⟩⟩
    have hc : ∀ j, j < 3 → w.cell? ⟨g, k * 3 + j, none⟩ = (c3 L[k])[j]? := fun j hj => by
      rw [World.ownsRow.cellAt h0 (k * 3 + j) (by have := Nat.mul_le_mul_right 3 (Nat.succ_le_of_lt hk); omega), cells3_at L k j hk hj]
    exact ⟨hc 0 (by omega), hc 1 (by omega), hc 2 (by omega)⟩
theorem Own3.past {w w' : World} {base : Nat} {v : Value} {L : List P3} (h : Own3 w base v L) (hb : Below w.heap.size w w') : Own3 w' base v L := own_blk h (fun k hk => hb.block k (World.ownsRow.lt h k hk).2)
/-- The patterns of the rules from one number on. -/
def ruX (lo n : Nat) : List P3 := (List.range n).map fun (k : Nat) => ((lo : Int) + (k : Int), -1, 0)
theorem ruX_len (lo n : Nat) : (ruX lo n).length = n := by simp [ruX]
theorem ruX_at (lo n k : Nat) (h : k < (ruX lo n).length) : (ruX lo n)[k] = ((lo : Int) + (k : Int), -1, 0) := by simp [ruX]
/-- The patterns of the first so many entries, given how many points each has. -/
def cutR (k n : Nat) : List P3 := (List.range n).map fun (c : Nat) => (-1, (k : Int), (c : Int) + 1)
theorem cutR_len (k n : Nat) : (cutR k n).length = n := by simp [cutR]
def cutX (Ls : List Nat) : Nat → List P3
  | 0 => []
  | k + 1 => cutX Ls k ++ cutR k (Ls.getD k 0)
theorem cutX_len {Ls : List Nat} {M : Nat} (h : ∀ m ∈ Ls, m ≤ M) : ∀ k, (cutX Ls k).length ≤ k * M
  | 0 => by simp [cutX]
  | k + 1 => by
    have h1 := cutX_len h k
    have h2 : Ls.getD k 0 ≤ M := by
      rw [List.getD_eq_getElem?_getD]
      cases e : Ls[k]? with
      | none => simp
      | some m => exact h m (List.mem_of_getElem? e)
    rw [cutX, List.length_append, cutR_len, Nat.succ_mul]
    omega
theorem cutX_mono (Ls : List Nat) (k : Nat) : ∀ j, (cutX Ls k).length ≤ (cutX Ls (k + j)).length
  | 0 => Nat.le_refl _
  | j + 1 => by
    have := cutX_mono Ls k j
    rw [show k + (j + 1) = (k + j) + 1 from rfl, cutX, List.length_append]
    omega
theorem cutX_prefix (Ls : List Nat) (k : Nat) : ∀ j, ∃ r, cutX Ls (k + j) = cutX Ls k ++ r
  | 0 => ⟨[], by simp⟩
  | j + 1 => by
    obtain ⟨r, h⟩ := cutX_prefix Ls k j
    exact ⟨r ++ cutR (k + j) (Ls.getD (k + j) 0), by rw [show k + (j + 1) = (k + j) + 1 from rfl, cutX, h, List.append_assoc]⟩
/-- Where a cut stands among all. -/
theorem cutX_at (Ls : List Nat) (k c : Nat) (hk : k < Ls.length) (hc : c < Ls[k]) : ∃ h : (cutX Ls k).length + c < (cutX Ls Ls.length).length, (cutX Ls Ls.length)[(cutX Ls k).length + c] = (-1, (k : Int), (c : Int) + 1) := by
  obtain ⟨r, hr⟩ := cutX_prefix Ls (k + 1) (Ls.length - (k + 1))
  rw [show k + 1 + (Ls.length - (k + 1)) = Ls.length by omega, cutX] at hr
  have hg : Ls.getD k 0 = Ls[k] := by rw [List.getD_eq_getElem?_getD, List.getElem?_eq_getElem hk]; rfl
  rw [hg] at hr
  have hl : (cutX Ls k).length + c < (cutX Ls Ls.length).length := by rw [hr, List.length_append, List.length_append, cutR_len]; omega
  refine ⟨hl, ?_⟩
  have h2 : (cutX Ls Ls.length)[(cutX Ls k).length + c]? = some (-1, (k : Int), (c : Int) + 1) := by
    rw [hr, List.append_assoc, List.getElem?_append_right (by omega), Nat.add_sub_cancel_left, List.getElem?_append_left (by rw [cutR_len]; exact hc)]
    simp [cutR, hc]
  rw [List.getElem?_eq_getElem hl] at h2
  exact Option.some.inj h2
/-- What Patterns says: so many rules, the suppressions' number, how many points each entry has. -/
def patK (n : Nat) (s : Int) (Ls : List Nat) : Nat → List P3
  | 0 => []
  | i + 1 => patK n s Ls i ++ ((if (i : Int) = s then cutX Ls Ls.length else []) ++ (if i < n then [((i : Int), -1, 0)] else []))
def patF (n : Nat) (s : Int) (Ls : List Nat) : List P3 := patK n s Ls (n + 1)
theorem ruX_snoc (lo n : Nat) : ruX lo (n + 1) = ruX lo n ++ [((lo : Int) + (n : Int), -1, 0)] := by simp [ruX, List.range_succ]
theorem patK_below (n : Nat) (s : Int) (Ls : List Nat) : ∀ i, i ≤ n → (s < 0 ∨ (i : Int) ≤ s) → patK n s Ls i = ruX 0 i
  | 0, _, _ => rfl
  | i + 1, h, hs => by
    rw [patK, patK_below n s Ls i (by omega) (by omega), if_neg (by omega), if_pos (by omega), ruX_snoc]
    simp
theorem patK_above (n b : Nat) (Ls : List Nat) : ∀ j, b + j ≤ n → patK n (b : Int) Ls (b + j) ++ (if j = 0 then cutX Ls Ls.length else []) = ruX 0 b ++ cutX Ls Ls.length ++ ruX b j
  | 0, h => by
    rw [Nat.add_zero, patK_below n b Ls b h (by omega), if_pos rfl]
    simp [ruX]
  | j + 1, h => by
    have ih := patK_above n b Ls j (by omega)
    rw [if_neg (by omega), List.append_nil, show b + (j + 1) = (b + j) + 1 from rfl, patK, ruX_snoc, ← List.append_assoc (ruX 0 b ++ _), ← ih, if_pos (by omega : b + j < n)]
    by_cases hj : j = 0
    · subst hj
      rw [if_pos (by simp), if_pos rfl, Nat.add_zero]
      simp
    · rw [if_neg (by omega), if_neg hj]
      simp
/-- The program's order. -/
theorem patF_none (n : Nat) (s : Int) (Ls : List Nat) (h : s < 0 ∨ (n : Int) < s) : patF n s Ls = ruX 0 n := by
  unfold patF
  rw [patK, patK_below n s Ls n (Nat.le_refl _) (by omega), if_neg (by omega), if_neg (by omega)]
  simp
theorem patF_some (n b : Nat) (Ls : List Nat) (h : b ≤ n) : patF n (b : Int) Ls = ruX 0 b ++ cutX Ls Ls.length ++ ruX b (n - b) := by
  unfold patF
  have h1 := patK_above n b Ls (n - b) (by omega)
  rw [show b + (n - b) = n by omega] at h1
  rw [patK, if_neg (by omega : ¬ n < n), ← h1]
  by_cases hj : n - b = 0
  · rw [if_pos hj, if_pos (by omega)]
    simp
  · rw [if_neg hj, if_neg (by omega)]
    simp
theorem patF_len (n : Nat) (s : Int) (Ls : List Nat) : (patF n s Ls).length ≤ n + (cutX Ls Ls.length).length := by
  by_cases h : s < 0 ∨ (n : Int) < s
  · rw [patF_none n s Ls h, ruX_len]; omega
  · obtain ⟨b, rfl⟩ : ∃ b : Nat, s = (b : Int) := ⟨s.toNat, by omega⟩
    rw [patF_some n b Ls (by omega), List.length_append, List.length_append, ruX_len, ruX_len]
    omega
theorem patK_len (n : Nat) (s : Int) (Ls : List Nat) : ∀ i, (patK n s Ls i).length ≤ (patK n s Ls (i + 1)).length := fun i => by
  rw [patK, List.length_append]; omega
theorem patK_le (n : Nat) (s : Int) (Ls : List Nat) (i : Nat) (h : i ≤ n + 1) : (patK n s Ls i).length ≤ (patF n s Ls).length := by
  unfold patF
  obtain ⟨j, hj⟩ : ∃ j, n + 1 = i + j := ⟨n + 1 - i, by omega⟩
  rw [hj]
  have : ∀ j, (patK n s Ls i).length ≤ (patK n s Ls (i + j)).length := fun j => by
    induction j with
    | zero => exact Nat.le_refl _
    | succ j ih => exact Nat.le_trans ih (patK_len n s Ls (i + j))
  exact this j
/-- How many numbers each list of a slice has. -/
structure LenA (w : World) (a : Option Addr) (Ls : List Nat) : Prop where
  at' : ∀ k (h : k < Ls.length), ∃ b off a1 c1, a = some ⟨b, off, none⟩ ∧ w.cell? ⟨b, off + k, none⟩ = some (.slice a1 Ls[k] c1)
theorem LenA.past {w w' : World} {a : Option Addr} {Ls : List Nat} (h : LenA w a Ls) (hb : Below w.heap.size w w') : LenA w' a Ls := ⟨fun k hk => by
  obtain ⟨b, off, a1, c1, e, hc⟩ := h.at' k hk
  exact ⟨b, off, a1, c1, e, (hb.cell (World.block_lt_of_cell? w _ hc)).trans hc⟩⟩
theorem RwA.lens {w : World} {a : Option Addr} {L : List (List Int)} (h : RwA w a L) : LenA w a (L.map (·.length)) := ⟨fun k hk => by
  have hk' : k < L.length := by simpa using hk
  obtain ⟨b, off, e, _, a1, c1, hc, _⟩ := h.at' k hk'
  exact ⟨b, off, a1, c1, e, by rw [hc]; simp⟩⟩
end Go.Proofs.Ythcpalpcakjfnaa
