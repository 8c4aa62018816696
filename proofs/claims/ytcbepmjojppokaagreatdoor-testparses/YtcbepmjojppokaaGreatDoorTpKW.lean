/-
  strings.Builder's copyCheck, WriteString in this program (as SxKW has it; stage 23).
-/
import Derived.Test.YtcbepmjojppokaaGreatDoorTpJW
import Derived.Shelf.Strings.BuilderK
import Derived.Lib.AppendStr
import Derived.BigQuiet
import Derived.Deep.QuietTactic
import Derived.WalkLawsBesides
import Derived.WalkSpells
namespace Go.Proofs.YtcbepmjojppokaaGreatDoor.Tp
open Go.RowKit Go.Shelf
theorem ext169 : Builder.Extra Tryz.prog Tryz.lays169_ren where
  sizeBuilder := by kernel_rfl
  liesBuilder := by kernel_rfl
  t5 := Tryz.underlying5
  a5 := Tryz.isAgg5
  z5 := Tryz.sizeOf5
  v5 := Tryz.zeroValue5
  infoByte := by kernel_rfl
  cellsByte := by kernel_rfl
  sizeByte := by kernel_rfl
  neB5 := by decide
theorem bldSize : (Tryz.prog.info? 85).map (·.size) = some 2 := by kernel_rfl
theorem bldLies : liesAt Tryz.prog Tryz.prog.depth 85 (2 / Tryz.prog.cellsOf 85) 0 85 1 = true := by kernel_rfl
theorem infoByte : (Tryz.prog.info? 5).map (fun i => (i.zero, i.size, i.bytes)) = some (some (.int .u8 0), 1, 1) := by kernel_rfl
set_option maxRecDepth 100000 in
set_option maxHeartbeats 800000 in
theorem ccUsed (b : Nat) (w : World) (h0 : w.cell? ⟨b, 0, none⟩ = some (.pointer (some ⟨b, 0, none⟩))) :
    Calls Tryz.prog 58 #[.pointer (some ⟨b, 0, none⟩)] w fun e w' => e = .returned (.tuple #[]) ∧ w' = w := by
  obtain ⟨j, hj, _⟩ := Option.map_eq_some_iff.1 bldSize
  go_enter Tryz.func58, Tryz.ntmps58
  go_wp2
  rw [Lib.run_neq_ptr_same w _ Tryz.underlying82 hj]
  go_wp2
  go_end0
  exact ⟨rfl, rfl⟩
set_option maxRecDepth 100000 in
set_option maxHeartbeats 800000 in
theorem ccNew (b : Nat) (w : World) (h0 : w.cell? ⟨b, 0, none⟩ = some (.pointer none)) (hsh : w.shape? b = some (85, 2)) (hfz : w.frozen? ⟨b, 0, none⟩ = false) :
    Calls Tryz.prog 58 #[.pointer (some ⟨b, 0, none⟩)] w fun e w' => e = .returned (.tuple #[]) ∧ w' = w.setCell ⟨b, 0, none⟩ (.pointer (some ⟨b, 0, none⟩)) := by
  obtain ⟨j, hj, hjs⟩ := Option.map_eq_some_iff.1 bldSize
  go_enter Tryz.func58, Tryz.ntmps58
  go_wp2
  rw [Lib.run_to_unsafe w ⟨b, 0, none⟩ Tryz.underlying82 Tryz.underlying65 hj (by rw [hjs]; decide) hsh (Nat.zero_lt_succ 1)]
  simp only [Result.andThen]
  rw [Oper.upon_value]
  go_wp2
  rw [run_callFunc_extern Tryz.func78 (by kernel_rfl) (by kernel_rfl) (by kernel_rfl) (e := Extern.AbiNoEscape.same) (by kernel_rfl)]
  rw [Lib.run_noEscape]
  simp only [Result.andThen]
  rw [Oper.upon_value]
  go_wp2
  rw [Lib.run_from_unsafe w ⟨b, 0, none⟩ Tryz.underlying65 Tryz.underlying82 hj hsh bldLies]
  simp only [Result.andThen]
  rw [Oper.upon_value]
  go_wp2
  go_end0
  exact ⟨rfl, rfl⟩
/-- A builder in memory, used or not. -/
abbrev Bl (B b : Nat) (bs : List Value) (w : World) : Prop := Lib.IsBuilder 85 5 B b bs w
abbrev Bu (B b : Nat) (bs : List Value) (w : World) : Prop := Lib.BuilderAt 85 5 B b (.pointer (some ⟨b, 0, none⟩)) bs w
/-- A write keeps what is no row of bytes. -/
def Kb (b : Nat) (w w' : World) : Prop := ∀ (i : Nat) (o : Obj), w.heap[i]? = some o → (∀ c z, o ≠ Obj.cells c 5 z) → ¬ i = b → w'.heap[i]? = some o
theorem cc_any (B b : Nat) (bs : List Value) (w : World) (h : Bl B b bs w) : Calls Tryz.prog 58 #[.pointer (some ⟨b, 0, none⟩)] w fun e w' => e = .returned (.tuple #[]) ∧ Bu B b bs w' ∧ Below B w w' ∧ Kb b w w' := by
  rcases h with h | h
  · exact (ccNew b w h.cell0 h.shape h.frozen0).mono fun e w' ⟨h1, h2⟩ => ⟨h1, h2 ▸ h.used _, h2 ▸ (Below.refl B w).setCell (p := ⟨b, 0, none⟩) h.1 _, h2 ▸ fun i o hi _ hn => (Below.heap_setCell w ⟨b, 0, none⟩ _ i hn).trans hi⟩
  · exact (ccUsed b w h.cell0).mono fun e w' ⟨h1, h2⟩ => ⟨h1, h2 ▸ h, h2 ▸ Below.refl B _, h2 ▸ fun i o hi _ _ => hi⟩
/-- What a write leaves. -/
theorem bu_grown {B b : Nat} {bs bs' : List Value} {w w1 w2 : World} {v v' : Value} {o : Option Obj} (hB : B ≤ b) (hbk : w1.heap[b]? = some (.cells #[.pointer (some ⟨b, 0, none⟩), v] 85 (0, 0))) (hown : w1.ownsRow B 5 1 v bs.length bs) (hne : v.ownBlock ≠ some b) (hb1 : Below B w w1) (_hBw : B ≤ w.heap.size) (hk1 : Kb b w w1)
    (hgrow : ((match o with | some x => w1.alloc x | none => w1)).grownBy w2 v.ownBlock) (hown' : w2.ownsRow B 5 1 v' bs'.length bs') :
    w2.heap[b]? = some (.cells #[.pointer (some ⟨b, 0, none⟩), v] 85 (0, 0)) ∧ Bu B b bs' (w2.setCell ⟨b, 1, none⟩ v') ∧ Below B w (w2.setCell ⟨b, 1, none⟩ v') ∧ Kb b w (w2.setCell ⟨b, 1, none⟩ v') := by
  have hlt := (Array.getElem?_eq_some_iff.1 hbk).1
  have hb2 : w2.heap[b]? = some (.cells #[.pointer (some ⟨b, 0, none⟩), v] 85 (0, 0)) := by
    cases o with
    | none => exact (hgrow.block b hlt (fun e => hne e.symm)).trans hbk
    | some x => exact (hgrow.block b (by simp; omega) (fun e => hne e.symm)).trans ((Below.heap_alloc w1 x b hlt).trans hbk)
  have hs := hb1.size
  have hrow : ∀ (i : Nat) (o : Obj), w1.heap[i]? = some o → (∀ c z, o ≠ Obj.cells c 5 z) → some i ≠ v.ownBlock := fun i o hi ht e => by
    rcases hown.2 with ⟨rfl, _⟩ | ⟨g, cap, cur, rfl, _, hg, _⟩
    · simp [Value.ownBlock] at e
    · simp only [Value.ownBlock, Option.some.injEq] at e
      subst e
      rw [hi] at hg
      simp only [Option.some.injEq] at hg
      exact ht _ _ hg
  refine ⟨hb2, Lib.BuilderAt.put hB hb2 hown' (by decide), ?_, fun i o2 hi ht hn => ?_⟩
  rotate_left
  · have h1 := hk1 i o2 hi ht hn
    have hl := (Array.getElem?_eq_some_iff.1 h1).1
    rw [Below.heap_setCell w2 ⟨b, 1, none⟩ v' i hn]
    cases o with
    | none => exact (hgrow.block i hl (hrow i o2 h1 ht)).trans h1
    | some x => exact (hgrow.block i (by simp; omega) (hrow i o2 h1 ht)).trans ((Below.heap_alloc w1 x i hl).trans h1)
  cases o with
  | none => exact (hb1.grown hgrow (by omega) (fun k hk => (World.ownsRow.lt hown k hk).1)).setCell (p := ⟨b, 1, none⟩) hB _
  | some x => exact ((hb1.alloc (by omega) x).grown hgrow (by simp; omega) (fun k hk => (World.ownsRow.lt hown k hk).1)).setCell (p := ⟨b, 1, none⟩) hB _
theorem row_form {w : World} {B n : Nat} {v : Value} {xs : List Value} (h : w.ownsRow B 5 1 v n xs) : ∃ a c, v = .slice a n c := by
  rcases h.2 with ⟨rfl, hn⟩ | ⟨g, c, cur, rfl, _⟩
  · exact ⟨none, 0, by rw [hn]⟩
  · exact ⟨_, c, rfl⟩
set_option maxRecDepth 10000 in
set_option maxHeartbeats 800000 in
theorem writeString_any (B b : Nat) (bs : List Value) (s : ByteArray) (w : World) (h : Bl B b bs w) (hlen : bs.length + s.size ≤ 140737488355328) (hBw : B ≤ w.heap.size) :
    Calls Tryz.prog 41 #[.pointer (some ⟨b, 0, none⟩), .string s] w fun e w' => e = .returned (.tuple #[.int .i64 s.size, .nilIface]) ∧ Bu B b (bs ++ Lib.strCells s) w' ∧ Below B w w' ∧ Kb b w w' := by
  obtain ⟨i0, hi, hz0, hz1, hz2⟩ := info_parts infoByte
  have HC := hid0 (cc_any B b bs w h)
  have hsl : (Lib.strCells s).length = s.size := by simp [Lib.strCells]
  have HSl := hid0 hsl
  clear h hsl
  go_enter Tryz.func41, Tryz.ntmps41
  go_wp2_with (first
    | (go_at_call 58; refine HC.out.mono ?_; rintro e w1 ⟨rfl, ⟨hB, v, hbk, hown, hne⟩, hb1, hk1⟩; have HK1 := hid0 hk1; have c1 : w1.cell? ⟨b, 1, none⟩ = some v := (by rw [cell_of_row _ _ _ _ _ _ hbk]; rfl); have HK := hid0 hbk; have HO := hid0 hown; have HNe := hid0 hne; have HB1 := hid0 hb1; have hs1 := hb1.size; clear hbk hown hne hb1 hk1)
    | (at_builtin; refine Go.Lib.wpList_append_own_string _ rfl _ _ 83 9 rfl B 5 i0 Tryz.underlying83 Tryz.underlying9 hi hz0 hz1 hz2 v bs.length bs rfl HO.out s rfl (by unfold maxLen; omega) (by omega) (by omega) ?_; intro v' w2 hown' hgrow _; obtain ⟨a', c', rfl⟩ := row_form hown'; obtain ⟨r1, r2, r3, r4⟩ := bu_grown (bs' := bs ++ Lib.strCells s) (o := none) hB HK.out HO.out HNe.out HB1.out hBw HK1.out hgrow (by rw [List.length_append, HSl.out]; exact hown'); have d1 : w2.cell? ⟨b, 1, none⟩ = some v := (by rw [cell_of_row _ _ _ _ _ _ r1]; rfl); have f1 : w2.frozen? ⟨b, 1, none⟩ = false := frozen_of_row _ _ _ _ _ r1; have HR := hid0 (And.intro r2 (And.intro r3 r4)); clear hown' hgrow r1 r2 r3 r4)
    | fail)
  go_ret2
  exact ⟨rfl, HR.out⟩
end Go.Proofs.YtcbepmjojppokaaGreatDoor.Tp
