/-
  The walk of props.classNames.
-/
import Derived.Test.YtpimameogmkpcaaDoorPbCnW
import Derived.Test.YtpimameogmkpcaaDoorShelfK
import Derived.Shelf.Strconv.Clone
import Derived.Maps.AppendAt
import Derived.Lib.AppendZeros
import Derived.Deep.DeepAppendRoom
namespace Go.Proofs.YtpimameogmkpcaaDoor
open Go.RowKit Go.Shelf
def cellsS (L : List ByteArray) : List Value := L.map .string
def OwnS (w : World) (base : Nat) (v : Value) (L : List ByteArray) : Prop := w.ownsRow base 9 1 v L.length (cellsS L)
theorem infoStr : (Tryd.prog.info? 9).map (fun i => (i.zero, i.size, i.bytes)) = some (some (.string ⟨#[]⟩), 1, 16) := by kernel_rfl
theorem info_parts {t : TypeId} {z : Value} {n b : Nat} (h : (Tryd.prog.info? t).map (fun i => (i.zero, i.size, i.bytes)) = some (some z, n, b)) : ∃ i, Tryd.prog.info? t = some i ∧ i.zero = some z ∧ i.size = n ∧ i.bytes = b := by
  cases hq : Tryd.prog.info? t with
  | none => rw [hq] at h; cases h
  | some i =>
    rw [hq] at h
    simp only [Option.map_some, Option.some.injEq, Prod.mk.injEq] at h
    exact ⟨i, rfl, h.1, h.2.1, h.2.2⟩
theorem owns_snoc {w wr w1 : World} {base : Nat} {v v' : Value} {L : List ByteArray} {c : ByteArray} {o : Obj} {n : Nat} (hn : n = L.length) (hown : OwnS wr base v L)
    (hown' : w1.ownsRow base 9 1 v' (n + 1) (cellsS L ++ [.string c])) (hgrow : (wr.alloc o).grownBy w1 v.ownBlock) (hbel : Below base w wr) (hb : base ≤ w.heap.size) :
    OwnS w1 base v' (L ++ [c]) ∧ Below base w w1 := by
  subst hn
  have hsz := hbel.size
  refine ⟨?_, (hbel.alloc (by omega) o).grown hgrow (by simp; omega) (fun k hk => (World.ownsRow.lt hown k hk).1)⟩
  unfold OwnS
  rw [List.length_append, List.length_singleton, cellsS, List.map_append]
  exact hown'
theorem OwnS.sa {w : World} {base : Nat} {v : Value} {L : List ByteArray} (h : OwnS w base v L) : ∃ a cap, v = .slice a L.length cap ∧ SA w a L ∧ (∀ p, a = some p → base ≤ p.block) ∧ L.length ≤ cap := by
  have h0 := h
  rcases h.2 with ⟨rfl, hn⟩ | ⟨g, cap, cur, rfl, hg, hr, hc, _⟩
  · exact ⟨none, 0, by rw [hn], ⟨fun k hk => by omega⟩, ⟨(fun p hp => by simp at hp), by omega⟩⟩
  · refine ⟨_, cap, rfl, ⟨fun k hk => ⟨g, 0, rfl, (World.ownsRow.lt h0 g rfl).2, ?_⟩⟩, fun p hp => by cases hp; exact hg, hc⟩
    have := World.ownsRow.cellAt h0 k (by omega)
    rw [Nat.zero_add, this]
    simp [cellsS, hk]
theorem cell_one_new (w : World) (v : Value) (t : TypeId) : ∀ j u, [v][j]? = some u → (w.alloc (.cells #[v] t)).cell? ((⟨w.heap.size, 0, none⟩ : Addr).add j) = some u := by
  intro j u h
  rw [Addr.add_lit, cell_of_row _ w.heap.size _ _ _ _ (heap_alloc_new w _), Nat.zero_add]
  simpa using h
set_option maxRecDepth 10000 in
theorem clone_any (s : ByteArray) (hs : s.size ≤ 1000000) (w : World) :
    Calls Tryd.prog 42 #[.string s] w fun e w' => e = .returned (.string s) ∧ Below w.heap.size w w' := by
  have h := Any.stringslite_Clone Tryd.laysM316 s w (by omega)
  change Calls Tryd.prog 50 _ _ _ at h
  go_enter Tryd.func42, Tryd.ntmps42
  go_wp2_with (go_at_call 50; refine h.mono ?_; rintro e w1 ⟨rfl, hb⟩; have HB := hid0 hb; clear hb)
  go_ret
  exact ⟨rfl, HB.out⟩
theorem SA.below {w w' : World} {a : Option Addr} {L : List ByteArray} (h : SA w a L) (hb : Below w.heap.size w w') : SA w' a L := ⟨fun k hk => by
  obtain ⟨b, off, rfl, h1, h2⟩ := h.at' k hk
  exact ⟨b, off, rfl, Nat.lt_of_lt_of_le h1 hb.size, (hb.cell (p := ⟨b, off + k, none⟩) h1).trans h2⟩⟩
theorem Below.later {w a b : World} (h : Below w.heap.size w a) (k : Below a.heap.size a b) : Below w.heap.size w b :=
  ⟨k.os.trans h.os, k.tape.trans h.tape, k.output.trans h.output, Nat.le_trans h.size k.size, fun i hi => (k.block i (Nat.lt_of_lt_of_le hi h.size)).trans (h.block i hi)⟩
theorem OwnS.later {w w' : World} {base : Nat} {v : Value} {L : List ByteArray} (h : OwnS w base v L) (hb : Below w.heap.size w w') : OwnS w' base v L :=
  World.ownsRow.kept h (row := none) ⟨hb.os, hb.tape, hb.output, hb.size, fun k hk _ => hb.block k hk⟩ (by cases hv : v.ownBlock <;> simp)
set_option maxRecDepth 10000 in
set_option maxHeartbeats 800000 in
theorem classNames_any (L : List ByteArray) (a : Option Addr) (cap : Nat) (w : World) (hl : L.length ≤ 62) (hsz : ∀ s ∈ L, s.size ≤ 1000000) (ha : SA w a L) :
    Calls Tryd.prog 30 #[.slice a L.length cap] w fun e w' => ∃ v, e = .returned v ∧ OwnS w' w.heap.size v (otherB :: L) ∧ Below w.heap.size w w' := by
  obtain ⟨i0, hi, hz0, hz1, hz2⟩ := info_parts infoStr
  have HA := hid0 ha
  have HZ := hid0 hsz
  have hlI : (L.length : Int) + 1 = ((L.length + 1 : Nat) : Int) := by omega
  have HLI := hid0 hlI
  clear ha hsz hlI
  go_enter Tryd.func30, Tryd.ntmps30
  have HM : Hid True := trivial
  go_wp2_with (first
    | (at_make; refine wpList_make_own _ rfl _ _ 22 rfl w.heap.size 9 i0 (.string ⟨#[]⟩) 1 Tryd.underlying22 hi hz0 hz1 .i64 .i64 _ (L.length + 1) rfl rfl HLI.out (by rw [hz2]; omega) (by unfold maxLen; omega) (Nat.le_refl _) ?_; intro w1 hown1 hgrow1; have HO1 := hid0 hown1; have HG1 := hid0 hgrow1; have hsz1 := hgrow1.size; clear hown1 hgrow1)
    | (at_builtin; clear HM; refine wpList_append_own _ rfl _ _ 22 rfl w.heap.size 9 i0 (.string ⟨#[]⟩) 1 16 Tryd.underlying22 hi hz0 hz1 hz2 rfl (by decide) _ _ _ rfl (HO1.out.alloc _) ⟨w1.heap.size, 0, none⟩ 1 1 [.string otherB] rfl rfl (cell_one_new _ _ _) ?c2a ?c3a ?c4a ?c5a ?_))
  case c2a => simp [Value.oneCell']
  case c3a => unfold maxLen; omega
  case c4a => omega
  case c5a => simp; omega
  intro v' w2 hown' hgrow _
  have HB1 : Below w.heap.size w w1 := (Below.refl w.heap.size w).grown HG1.out (Nat.le_refl _) (fun k hk => by cases hk)
  obtain ⟨g1, g2⟩ := owns_snoc (w := w) (base := w.heap.size) (L := []) (c := otherB) rfl HO1.out hown' hgrow HB1 (Nat.le_refl _)
  have HO2 := hid0 g1
  have HB2 := hid0 g2
  clear hown' hgrow g1 g2 HB1 HO1 HG1 hsz1
  go_wp2
  go_loopw [3, 15] (fun v i wr => ∃ k : Nat, k ≤ L.length ∧ i = .int .i64 (k : Int) ∧ Hid (OwnS wr w.heap.size v (otherB :: L.take k)) ∧ Hid (Below w.heap.size w wr)) (fun _ i _ => L.length - (intOf i).toNat)
  case atStart => exact ⟨0, Nat.zero_le _, rfl, hid0 HO2.out, HB2⟩
  case round =>
    clear HO2 HB2
    obtain ⟨k, hk, rfl, HO, HB⟩ := hrel
    have hbs := HB.out.size
    by_cases hlt : k < L.length
    · obtain ⟨b, off, rfl, hbw, hc⟩ := HA.out.at' k hlt
      have hc' := (HB.out.cell (p := ⟨b, off + k, none⟩) hbw).trans hc
      have hkI : (k : Int) < (L.length : Int) := by omega
      have hkI0 : (0 : Int) ≤ (k : Int) := by omega
      have HCL := hid0 (clone_any L[k] (HZ.out _ (List.getElem_mem hlt)) wr)
      have HTK : Hid (L.take (k + 1) = L.take k ++ [L[k]]) := hid0 (by rw [List.take_add_one, List.getElem?_eq_getElem hlt]; rfl)
      have htl : (otherB :: L.take k).length = k + 1 := by rw [List.length_cons, List.length_take]; omega
      have hOO : wr.ownsRow w.heap.size 9 1 u3 (k + 1) (cellsS (otherB :: L.take k)) := by have h := HO.out; unfold OwnS at h; rw [htl] at h; exact h
      have HOO := hid0 hOO
      have HTL := hid0 htl
      generalize L[k] = s at *
      clear hc hOO htl
      go_wp2_with (first
        | (go_at_call 42; refine HCL.out.mono ?_; rintro e w3 ⟨rfl, hb3⟩; have HB3 := hid0 hb3; have hs3 := hb3.size; have HO3 : Hid (w3.ownsRow w.heap.size 9 1 u3 (k + 1) (cellsS (otherB :: L.take k))) := hid0 (World.ownsRow.kept HOO.out (row := none) ⟨hb3.os, hb3.tape, hb3.output, hb3.size, fun k hk _ => hb3.block k hk⟩ (by cases hv : u3.ownBlock <;> simp)); clear hb3)
        | (at_builtin; refine wpList_append_own _ rfl _ _ 22 rfl w.heap.size 9 i0 (.string ⟨#[]⟩) 1 16 Tryd.underlying22 hi hz0 hz1 hz2 rfl (by decide) _ _ _ rfl (HO3.out.alloc _) ⟨w3.heap.size, 0, none⟩ 1 1 [.string s] rfl rfl (cell_one_new _ _ _) ?c2b ?c3b ?c4b ?c5b ?_))
      case c2b => simp [Value.oneCell']
      case c3b => unfold maxLen; omega
      case c4b => omega
      case c5b => simp; omega
      intro v2 w4 hown' hgrow _
      have hB3 := Below.later HB.out HB3.out
      obtain ⟨g1, g2⟩ := owns_snoc (w := w) (base := w.heap.size) (L := otherB :: L.take k) (c := s) (n := k + 1) HTL.out.symm (by unfold OwnS; rw [HTL.out]; exact HO3.out) hown' hgrow hB3 (Nat.le_refl _)
      have HO4 : Hid (OwnS w4 w.heap.size v2 (otherB :: L.take (k + 1))) := hid0 (by rw [HTK.out]; exact g1)
      have HB4 := hid0 g2
      clear hown' hgrow g1 g2 hB3 HO3 HOO HO HB HB3
      go_wp2
      go_roundw
      case rel => exact ⟨k + 1, by omega, by go_num, HO4, HB4⟩
      case measure => simp [intOf]; omega
    · have hkI : ¬ (k : Int) < (L.length : Int) := by omega
      have HE : Hid (OwnS wr w.heap.size u3 (otherB :: L)) := hid0 (by have h := HO.out; rw [List.take_of_length_le (by omega)] at h; exact h)
      go_wp2
      go_ret
      exact ⟨u3, rfl, HE.out, HB.out⟩
end Go.Proofs.YtpimameogmkpcaaDoor
