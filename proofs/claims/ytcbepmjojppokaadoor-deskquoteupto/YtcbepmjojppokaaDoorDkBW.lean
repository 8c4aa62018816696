/-
  Bytes and lists of texts in memory (stage 25).
-/
import Derived.Test.YtcbepmjojppokaaDoorDkM
import Derived.Test.YtcbepmjojppokaaDoorMrBW
import Derived.Laws.IdiomStrings
import Derived.Laws.BytesString
import Derived.Maps.AppendAt
namespace Go.Proofs.YtcbepmjojppokaaDoor
open Go.RowKit Go.Shelf
theorem u8_eq (c : UInt8) (n : Nat) (hn : n < 256) : (c == UInt8.ofNat n) = ((c.toNat : Int) == (n : Int)) := by
  rw [Bool.eq_iff_iff]
  simp only [beq_iff_eq]
  constructor
  · rintro rfl
    rw [UInt8.toNat_ofNat']; omega
  · intro h
    apply UInt8.toNat_inj.1
    rw [UInt8.toNat_ofNat']; omega
theorem u8_is (c : UInt8) (n : Nat) (hn : n < 256) : c = UInt8.ofNat n ↔ (c.toNat : Int) = (n : Int) := by
  have := u8_eq c n hn
  rw [Bool.eq_iff_iff] at this
  simpa using this
theorem bsize0 (s : ByteArray) : s.data.toList.length = s.size := by simp
theorem bget (s : ByteArray) (k : Nat) (h : k < s.size) : s.data.toList[k]? = some s[k] := by
  rw [List.getElem?_eq_getElem (by simpa using h)]; rfl
abbrev rd (x : Dy) : ByteArray := ⟨x.toArray⟩
theorem rd_size (l : Dy) : (rd l).size = l.length := List.size_toArray
theorem rd_get (l : Dy) (k : Nat) (h : k < (rd l).size) : (rd l)[k] = l[k]'(by rw [← rd_size]; exact h) := rfl
theorem rd_app (a b : Dy) : rd a ++ rd b = rd (a ++ b) := by
  apply ByteArray.ext
  simp
theorem str_eq {s : ByteArray} {l : Dy} (h : s.data.toList = l) : s = rd l := by
  subst h
  rfl
theorem ext_mid (s : ByteArray) (a b : Nat) : (s.extract a b).data.toList = (s.data.toList.take b).drop a := by
  rw [ByteArray.data_extract, Array.toList_extract, List.extract_eq_take_drop, List.take_drop]
  by_cases h : a ≤ b
  · rw [show a + (b - a) = b by omega]
  · rw [List.drop_of_length_le (by simp; omega), List.drop_of_length_le (by simp; omega)]
/-- Pieces of a text. -/
theorem rd_mid (l : Dy) (a b : Nat) : (rd l).extract a b = rd ((l.take b).drop a) := str_eq (ext_mid _ _ _)
theorem rd_drop (l : Dy) (a : Nat) : (rd l).extract a l.length = rd (l.drop a) := by rw [rd_mid, List.take_length]
theorem rd_take (l : Dy) (b : Nat) : (rd l).extract 0 b = rd (l.take b) := by rw [rd_mid, List.drop_zero]
theorem drop_at (l : Dy) (k : Nat) (h : k < l.length) : l.drop k = l[k] :: l.drop (k + 1) := List.drop_eq_getElem_cons h
theorem rd_one (l : Dy) (k : Nat) (h : k < l.length) : (rd l).extract k (k + 1) = rd [l[k]] := by
  rw [rd_mid, List.take_add_one, List.getElem?_eq_getElem h, List.drop_append_of_le_length (by rw [List.length_take]; omega), List.drop_of_length_le (by rw [List.length_take]; omega)]
  rfl
def cellsS (L : List Dy) : List Value := L.map fun l => .string (rd l)
/-- A list of texts of the call's own. -/
def OwnS (w : World) (base : Nat) (v : Value) (L : List Dy) : Prop := w.ownsRow base 9 1 v L.length (cellsS L)
theorem infoStr : (Tryd.prog.info? 9).map (fun i => (i.zero, i.size, i.bytes)) = some (some (.string ⟨#[]⟩), 1, 16) := by kernel_rfl
theorem owns_snoc {w wr w1 : World} {base : Nat} {v v' : Value} {L : List Dy} {c : Dy} {o : Obj} {n : Nat} (hn : n = L.length) (hown : OwnS wr base v L)
    (hown' : w1.ownsRow base 9 1 v' (n + 1) (cellsS L ++ [.string (rd c)])) (hgrow : (wr.alloc o).grownBy w1 v.ownBlock) (hbel : Below base w wr) (hb : base ≤ w.heap.size) :
    OwnS w1 base v' (L ++ [c]) ∧ Below base w w1 := by
  subst hn
  have hsz := hbel.size
  refine ⟨?_, (hbel.alloc (by omega) o).grown hgrow (by simp; omega) (fun k hk => (World.ownsRow.lt hown k hk).1)⟩
  unfold OwnS
  rw [List.length_append, List.length_singleton, cellsS, List.map_append]
  exact hown'
theorem OwnS.later {w w' : World} {base : Nat} {v : Value} {L : List Dy} (h : OwnS w base v L) (hb : Below w.heap.size w w') : OwnS w' base v L :=
  own_blk h (fun k hk => hb.block k (World.ownsRow.lt h k hk).2)
theorem slice_of {w : World} {base : Nat} {v : Value} {L : List Dy} (h : OwnS w base v L) : ∃ a c, v = .slice a L.length c := by
  rcases h.2 with ⟨rfl, hn⟩ | ⟨g, cap, cur, rfl, _⟩
  · exact ⟨none, 0, by rw [hn]⟩
  · exact ⟨_, cap, rfl⟩
/-- Texts that are read. -/
structure SA (w : World) (a : Option Addr) (L : List Dy) : Prop where
  at' : ∀ k (h : k < L.length), ∃ b off, a = some ⟨b, off, none⟩ ∧ b < w.heap.size ∧ w.cell? ⟨b, off + k, none⟩ = some (.string (rd L[k]))
theorem SA.past {w w' : World} {a : Option Addr} {L : List Dy} (h : SA w a L) (hb : Below w.heap.size w w') : SA w' a L := ⟨fun k hk => by
  obtain ⟨b, off, e, h1, h2⟩ := h.at' k hk
  exact ⟨b, off, e, Nat.lt_of_lt_of_le h1 hb.size, (hb.cell (p := ⟨b, off + k, none⟩) h1).trans h2⟩⟩
theorem OwnS.sa {w : World} {base : Nat} {v : Value} {L : List Dy} (h : OwnS w base v L) : ∃ a cap, v = .slice a L.length cap ∧ SA w a L := by
  have h0 := h
  rcases h.2 with ⟨rfl, hn⟩ | ⟨g, cap, cur, rfl, _⟩
  · exact ⟨none, 0, by rw [hn], ⟨fun k hk => by rw [hn] at hk; exact absurd hk (Nat.not_lt_zero _)⟩⟩
  · refine ⟨_, cap, rfl, ⟨fun k hk => ⟨g, 0, rfl, (World.ownsRow.lt h0 g rfl).2, ?_⟩⟩⟩
    rw [Nat.zero_add, World.ownsRow.cellAt h0 k (by omega)]
    simp [cellsS, hk]
end Go.Proofs.YtcbepmjojppokaaDoor
