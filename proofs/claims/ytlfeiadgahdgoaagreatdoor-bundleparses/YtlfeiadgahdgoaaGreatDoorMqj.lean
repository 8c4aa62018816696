/-
  BwSW, BwPW, BsM, BtBW, USameW, BxJW, BxKW, BtGW, BtHW, BuAW, BxLW, Door, SentVP, LaidQ.
-/
import Derived.Test.YtlfeiadgahdgoaaGreatDoorMqi
import Derived.Test.YtlfeiadgahdgoaaGreatDoorMqc
import Derived.Deep.RegionHeld3
import Derived.Test.YtlfeiadgahdgoaaGreatDoorMqh
import Derived.Laws.StructEq
import Derived.Test.YtlfeiadgahdgoaaGreatDoorMqf
import Derived.Test.YtlfeiadgahdgoaaGreatDoorCards
import Derived.Test.YtlfeiadgahdgoaaGreatDoorTie
import Derived.WalkKit
import Derived.ProofKit
import Derived.OpenShut
import Derived.Deep.DeepHandedRow
import Derived.Lib.LaidTab
import Derived.Lib.SmallJoins
import Derived.Test.YtlfeiadgahdgoaaGreatDoorMqa
import Derived.Stop.LaidErr
import Derived.Test.YtlfeiadgahdgoaaGreatDoorMqb
namespace Go.Proofs.YtlfeiadgahdgoaaGreatDoor
open Go.RowKit Go.Shelf Go.Lib
/-- A section's head. -/
def hdB (lo pa : ByteArray) : List UInt8 := [91] ++ lo.data.toList ++ [93, 10] ++ (if pa.data.toList = [] then [] else [112, 97, 114, 101, 110, 116, 32] ++ pa.data.toList ++ [10])
theorem secB_hd (s : Sec) : secB s = hdB s.loc s.par ++ s.ed.flatMap wrX := rfl
/-- What is written of a section up to its k-th edit. -/
def sdT (s : Sec) (k : Nat) : List UInt8 := hdB s.loc s.par ++ (s.ed.take k).flatMap wrX
theorem sdT_more (s : Sec) (k : Nat) (h : k < s.ed.length) : sdT s (k + 1) = sdT s k ++ wrX s.ed[k] := by
  unfold sdT
  rw [List.take_succ_eq_append_getElem h, List.flatMap_append, List.append_assoc]
  simp only [List.flatMap_cons, List.flatMap_nil, List.append_nil]
theorem hdB_len {s : Sec} (h : SecOk s) : (hdB s.loc s.par).length ≤ 139 := by
  have h1 := tag_len h.loc
  have h3 : s.par.data.toList ≠ [] → s.par.data.toList.length ≤ 64 := fun hp => tag_len (h.par (by rw [par_nil]; simpa using hp))
  have h4 : (if s.par.data.toList = [] then [] else [112, 97, 114, 101, 110, 116, 32] ++ s.par.data.toList ++ [10] : List UInt8).length ≤ 72 := by
    split
    · simp only [List.length_nil]; omega
    · rename_i hp
      have := h3 hp
      simp only [List.length_append, List.length_cons, List.length_nil]
      omega
  unfold hdB
  simp only [List.length_append, List.length_cons, List.length_nil]
  omega
theorem sdT_len {s : Sec} (h : SecOk s) (k : Nat) (hk : k ≤ 20000) : (sdT s k).length ≤ 4000000 := by
  have h1 := hdB_len h
  have h2 := flat_len wrX 195 (s.ed.take k) (fun e he => wrX_len (h.ent e (List.mem_of_mem_take he)))
  have h3 : (s.ed.take k).length ≤ k := by rw [List.length_take]; omega
  unfold sdT
  rw [List.length_append]
  have := Nat.mul_le_mul_right 195 h3
  omega
set_option maxRecDepth 10000 in
set_option maxHeartbeats 6400000 in
theorem writtenSection_any (s : Sec) (ae : Option Addr) (ce : Nat) (w : World) (hn : s.ed.length ≤ 20000) (hz : ∀ e ∈ s.ed, e.2.size ≤ 4194400) (hok : SecOk s) (hQ : SeqAt w) (hT : DT w) (he : EA w ae s.ed) :
    Calls Tryz.prog 18 #[.agg #[.string s.loc, .string s.par, .slice ae s.ed.length ce]] w fun e w' => e = .returned (.string (strOf (secB s))) ∧ Below w.heap.size w w' := by
  obtain ⟨w0, hw0⟩ : ∃ w0, w0 = w.alloc (.cells #[.string s.loc, .string s.par, .slice ae s.ed.length ce] 38) := ⟨_, rfl⟩
  have hB0 : Below w.heap.size w w0 := by rw [hw0]; exact (Below.refl _ _).alloc (Nat.le_refl _) _
  have hs0 : w0.heap.size = w.heap.size + 1 := by rw [hw0]; simp
  have hX0 : w0.heap[w.heap.size]? = some (.cells #[.string s.loc, .string s.par, .slice ae s.ed.length ce] 38 (0, 0)) := by rw [hw0]; exact heap_alloc_new w _
  have HX : Hid (∀ W, Below w0.heap.size w0 W → W.cell? ⟨w.heap.size, 0, none⟩ = some (.string s.loc) ∧ W.cell? ⟨w.heap.size, 1, none⟩ = some (.string s.par) ∧ W.cell? ⟨w.heap.size, 2, none⟩ = some (.slice ae s.ed.length ce)) := hid0 (fun W hW => by
    have hr := (hW.block w.heap.size (by omega)).trans hX0
    exact ⟨by rw [cell_of_row _ _ _ _ _ _ hr]; rfl, by rw [cell_of_row _ _ _ _ _ _ hr]; rfl, by rw [cell_of_row _ _ _ _ _ _ hr]; rfl⟩)
  obtain ⟨wA, hwA⟩ : ∃ wA, wA = w0.alloc (.cells #[.pointer none, .slice none 0 0] 50) := ⟨_, rfl⟩
  have hBA : Below w0.heap.size w0 wA := by rw [hwA]; exact (Below.refl _ _).alloc (Nat.le_refl _) _
  have HBlA : Hid (Bl w0.heap.size (w.heap.size + 1) [] wA) := hid0 (by rw [hwA, ← hs0]; exact Lib.fresh_isBuilder 50 5 w0)
  have HEv : Hid (∀ W, Below w0.heap.size w0 W → SeqAt W ∧ DT W ∧ EA W ae s.ed) := hid0 (fun W hW => ⟨(hQ.later hB0).later hW, dt_later (dt_later hT hB0) hW, (he.later hB0).later hW⟩)
  obtain ⟨y0, y1, y2⟩ := HX.out wA hBA
  have HBA := hid0 hBA
  have HB0 := hid0 hB0
  have hszA : w0.heap.size ≤ wA.heap.size := hBA.size
  have HOk := hid0 hok
  have HZ := hid0 hz
  obtain ⟨Y, hY⟩ : ∃ Y, Y = strOf (secB s) := ⟨_, rfl⟩
  rw [← hY]
  have HY := hid0 hY
  have hlo : s.loc.size ≤ 64 := by have := tag_len hok.loc; rw [bsize] at this; exact this
  have HS1 : Hid ((⟨#[91]⟩ ++ s.loc ++ ⟨#[93, 10]⟩ : ByteArray).size ≤ 67) := hid0 (by
    have z1 : (⟨#[91]⟩ : ByteArray).size = 1 := rfl
    have z2 : (⟨#[93, 10]⟩ : ByteArray).size = 2 := rfl
    rw [ByteArray.size_append, ByteArray.size_append, z1, z2]
    omega)
  have HL1 : Hid (([] : List Value).length + (⟨#[91]⟩ ++ s.loc ++ ⟨#[93, 10]⟩ : ByteArray).size ≤ 140737488355328) := hid0 (by have := HS1.out; rw [List.length_nil]; omega)
  obtain ⟨X1, hX1⟩ : ∃ X1 : ByteArray, (⟨#[91]⟩ ++ s.loc ++ ⟨#[93, 10]⟩ : ByteArray) = X1 := ⟨_, rfl⟩
  rw [hX1] at HS1 HL1
  have HX1c : Hid (Lib.strCells X1 = Lib.strCells ⟨#[91]⟩ ++ Lib.strCells s.loc ++ Lib.strCells ⟨#[93, 10]⟩) := hid0 (by rw [← hX1, strCells_app, strCells_app])
  have hf0 := hw0.symm
  have hfA := hwA.symm
  clear hw0 hwA hB0 hX0 hBA hQ hT he hY hok hz
  cases hp : (s.par.toList == []) with
  | true =>
    have M1 : Hid True := trivial
    have hy1 : ¬ 9223372036854775807 < 1 + s.loc.size := by omega
    have hy2 : ¬ 9223372036854775807 < 1 + s.loc.size + 2 := by omega
    go_enter Tryz.func18, Tryz.ntmps18
    go_wp2_with (first
      | (go_at_call 17; clear M1; refine (writeString_any _ _ [] X1 wA HBlA.out HL1.out hszA).mono ?_; rintro e2 w1 ⟨rfl, h1, h2, h3⟩; have HB1 := hid0 (HBA.out.trans h2); obtain ⟨y0, y1, y2⟩ := HX.out w1 HB1.out; have HBl1 : Hid (Bl w0.heap.size (w.heap.size + 1) ([] ++ Lib.strCells X1) w1) := hid0 (.inr h1); clear h1 h2 h3)
      | fail)
    have HBZ := HB1
    have HBlZ : Hid (Bl w0.heap.size (w.heap.size + 1) (Lib.byteCells (sdT s 0)) w1) := hid0 (by
      have h := HBl1.out
      rw [HX1c.out] at h
      have e : Lib.byteCells (sdT s 0) = [] ++ (Lib.strCells ⟨#[91]⟩ ++ Lib.strCells s.loc ++ Lib.strCells ⟨#[93, 10]⟩) := by
        unfold sdT hdB
        rw [if_pos (by rw [par_nil] at hp; exact of_decide_eq_true hp)]
        simp [Lib.byteCells, Lib.strCells]
      rw [e]
      exact h)
    clear HBl1 HB1 HBlA HBA
    go_loopw [23] (fun i wr => ∃ k : Nat, k ≤ s.ed.length ∧ i = .int .i64 (k : Int) ∧ Hid (Bl w0.heap.size (w.heap.size + 1) (Lib.byteCells (sdT s k)) wr) ∧ Hid (Below w0.heap.size w0 wr)) (fun i _ => s.ed.length - (intOf i).toNat)
    case atStart => exact ⟨0, Nat.zero_le _, rfl, HBlZ, HBZ⟩
    case round =>
      clear HBlZ HBZ
      obtain ⟨k, hk, rfl, HBl, HBr⟩ := hrel
      by_cases hlt : k < s.ed.length
      · have hkI : (k : Int) < (s.ed.length : Int) := by omega
        have hkI0 : (0 : Int) ≤ (k : Int) := by omega
        obtain ⟨b, off, rfl, hbl, c0, c1⟩ := (HEv.out wr HBr.out).2.2.at' k hlt
        have HEn : Hid (entF s.ed[k].2.data.toList = none) := hid0 (HOk.out.ent _ (List.getElem_mem hlt))
        have HEz : Hid (s.ed[k].2.size ≤ 4194400) := hid0 (HZ.out _ (List.getElem_mem hlt))
        have HMo : Hid (Lib.byteCells (sdT s k) ++ Lib.byteCells (wrX s.ed[k]) = Lib.byteCells (sdT s (k + 1))) := hid0 (by rw [sdT_more s k hlt, bytes_app])
        have HLn : Hid ((Lib.byteCells (sdT s k)).length ≤ 4000000) := hid0 (by rw [Lib.byteCells_length]; exact sdT_len HOk.out k (by omega))
        generalize Lib.byteCells (sdT s k) = bs at *
        generalize s.ed[k] = ed at *
        obtain ⟨x, e⟩ := ed
        simp only at c0 c1 HEn HEz HMo
        obtain ⟨wB, hwB⟩ : ∃ wB, wB = wr.alloc (.cells #[.bool x, .string e] 40) := ⟨_, rfl⟩
        have hbB : Below wr.heap.size wr wB := by rw [hwB]; exact (Below.refl _ _).alloc (Nat.le_refl _) _
        have hrB : wB.heap[wr.heap.size]? = some (.cells #[.bool x, .string e] 40 (0, 0)) := by rw [hwB]; exact heap_alloc_new wr _
        have d0 : wB.cell? ⟨wr.heap.size, 0, none⟩ = some (.bool x) := by rw [cell_of_row _ _ _ _ _ _ hrB]; rfl
        have d1 : wB.cell? ⟨wr.heap.size, 1, none⟩ = some (.string e) := by rw [cell_of_row _ _ _ _ _ _ hrB]; rfl
        have HBB : Hid (Below w0.heap.size w0 wB) := hid0 (HBr.out.trans (hbB.mono HBr.out.size))
        have HBlB := hid0 (bl_later HBl.out hbB)
        have HWr := hid0 (writtenEntry_any e HEz.out HEn.out wB (HEv.out wB HBB.out).1 (HEv.out wB HBB.out).2.1)
        have HWl : Hid ((strOf (wrE e.data.toList)).size ≤ 192) := hid0 (by rw [strOf_size]; exact wrE_len HEn.out)
        have HXt : Hid (x = true → bs ++ Lib.strCells (⟨#[43, 32]⟩ ++ strOf (wrE e.data.toList) ++ ⟨#[10]⟩) = Lib.byteCells (sdT s (k + 1))) := hid0 (fun hx => by
          rw [← HMo.out, strCells_app, strCells_app, strCells_strOf]
          unfold wrX
          simp only
          rw [if_pos hx, bytes_app, bytes_app]
          rfl)
        have HXf : Hid (x = false → bs ++ Lib.strCells (⟨#[45, 32]⟩ ++ strOf (wrE e.data.toList) ++ ⟨#[10]⟩) = Lib.byteCells (sdT s (k + 1))) := hid0 (fun hx => by
          rw [← HMo.out, strCells_app, strCells_app, strCells_strOf]
          unfold wrX
          simp only
          rw [if_neg (by rw [hx]; simp), bytes_app, bytes_app]
          rfl)
        have HLe : Hid (∀ g : ByteArray, g.size = 2 → bs.length + (g ++ strOf (wrE e.data.toList) ++ ⟨#[10]⟩).size ≤ 140737488355328) := hid0 (fun g hg => by
          have h1 := HLn.out
          have h2 := HWl.out
          have z1 : (⟨#[10]⟩ : ByteArray).size = 1 := rfl
          rw [ByteArray.size_append, ByteArray.size_append, hg, z1]
          omega)
        have hfB := hwB.symm
        generalize strOf (wrE e.data.toList) = We at *
        have hz1 : ¬ 9223372036854775807 < 2 + We.size := by have := HWl.out; omega
        have hz2 : ¬ 9223372036854775807 < 2 + We.size + 1 := by have := HWl.out; omega
        clear hwB hbB hrB HBl HMo HEn HEz HBr hbl
        cases x with
        | true =>
          have hXn := HXt.out rfl
          have hLe := HLe.out ⟨#[43, 32]⟩ rfl
          obtain ⟨X3, hX3⟩ : ∃ X3 : ByteArray, (⟨#[43, 32]⟩ ++ We ++ ⟨#[10]⟩ : ByteArray) = X3 := ⟨_, rfl⟩
          rw [hX3] at hXn hLe
          have HXn := hid0 hXn
          have HLe3 := hid0 hLe
          clear HXt HXf hXn hLe HLe
          go_wp2_with (first
            | (go_at_call 36; refine HWr.out.mono ?_; rintro e2 w5 ⟨rfl, hb5⟩; have HB5 := hid0 (Below.later HBB.out hb5); have HBl5 := hid0 (bl_later HBlB.out hb5); clear hb5)
            | (go_at_call 17; refine (writeString_any _ _ bs X3 w5 HBl5.out HLe3.out HB5.out.size).mono ?_; rintro e2 w6 ⟨rfl, h1, h2, h3⟩; have HB6 := hid0 (HB5.out.trans h2); have HBl6 : Hid (Bl w0.heap.size (w.heap.size + 1) (Lib.byteCells (sdT s (k + 1))) w6) := hid0 (.inr (by rw [← HXn.out]; exact h1)); clear h1 h2 h3)
            | fail)
          go_roundw
          case rel => exact ⟨k + 1, by omega, by go_num, HBl6, HB6⟩
          case measure => simp [intOf]; omega
        | false =>
          have hXn := HXf.out rfl
          have hLe := HLe.out ⟨#[45, 32]⟩ rfl
          obtain ⟨X3, hX3⟩ : ∃ X3 : ByteArray, (⟨#[45, 32]⟩ ++ We ++ ⟨#[10]⟩ : ByteArray) = X3 := ⟨_, rfl⟩
          rw [hX3] at hXn hLe
          have HXn := hid0 hXn
          have HLe3 := hid0 hLe
          clear HXt HXf hXn hLe HLe
          go_wp2_with (first
            | (go_at_call 36; refine HWr.out.mono ?_; rintro e2 w5 ⟨rfl, hb5⟩; have HB5 := hid0 (Below.later HBB.out hb5); have HBl5 := hid0 (bl_later HBlB.out hb5); clear hb5)
            | (go_at_call 17; refine (writeString_any _ _ bs X3 w5 HBl5.out HLe3.out HB5.out.size).mono ?_; rintro e2 w6 ⟨rfl, h1, h2, h3⟩; have HB6 := hid0 (HB5.out.trans h2); have HBl6 : Hid (Bl w0.heap.size (w.heap.size + 1) (Lib.byteCells (sdT s (k + 1))) w6) := hid0 (.inr (by rw [← HXn.out]; exact h1)); clear h1 h2 h3)
            | fail)
          go_roundw
          case rel => exact ⟨k + 1, by omega, by go_num, HBl6, HB6⟩
          case measure => simp [intOf]; omega
      · have hkI : ¬ (k : Int) < (s.ed.length : Int) := by omega
        have HS := hid0 (Any.Builder_String_any_k Tryz.lays169 ext169 w0.heap.size (w.heap.size + 1) (sdT s k) wr (Lib.IsBuilderF.of HBl.out) HBr.out.size)
        have HE : Hid (sdT s k = secB s) := hid0 (by rw [secB_hd]; unfold sdT; rw [List.take_of_length_le (by omega)])
        rw [HE.out] at HS
        have HS2 : Hid (Calls Tryz.prog 20 #[.pointer (some ⟨w.heap.size + 1, 0, none⟩)] wr fun e w' => e = .returned (.string Y) ∧ Below w0.heap.size wr w') := hid0 (by rw [HY.out]; exact HS.out.mono (fun e w' h => ⟨h.1, h.2.2.1⟩))
        clear HS HBl
        go_wp2_with (go_at_call 20; refine HS2.out.mono ?_; rintro e2 w7 ⟨rfl, hb7⟩)
        go_ret
        exact ⟨rfl, Below.later HB0.out (HBr.out.trans hb7)⟩
  | false =>
    have M1 : Hid True := trivial
    have hy1 : ¬ 9223372036854775807 < 1 + s.loc.size := by omega
    have hy2 : ¬ 9223372036854775807 < 1 + s.loc.size + 2 := by omega
    go_enter Tryz.func18, Tryz.ntmps18
    have hpz : s.par.size ≤ 64 := by have := tag_len (HOk.out.par hp); rw [bsize] at this; exact this
    have hy3 : ¬ 9223372036854775807 < 7 + s.par.size := by omega
    have hy4 : ¬ 9223372036854775807 < 7 + s.par.size + 1 := by omega
    have HL2 : Hid (([] ++ Lib.strCells X1).length + (⟨#[112, 97, 114, 101, 110, 116, 32]⟩ ++ s.par ++ ⟨#[10]⟩ : ByteArray).size ≤ 140737488355328) := hid0 (by
      have h1 := HS1.out
      have z7 : (⟨#[112, 97, 114, 101, 110, 116, 32]⟩ : ByteArray).size = 7 := rfl
      have z1 : (⟨#[10]⟩ : ByteArray).size = 1 := rfl
      rw [List.nil_append, Lib.strCells_length, ByteArray.size_append (a := ⟨#[112, 97, 114, 101, 110, 116, 32]⟩ ++ s.par), ByteArray.size_append (a := ⟨#[112, 97, 114, 101, 110, 116, 32]⟩), z7, z1]
      omega)
    obtain ⟨X2, hX2⟩ : ∃ X2 : ByteArray, (⟨#[112, 97, 114, 101, 110, 116, 32]⟩ ++ s.par ++ ⟨#[10]⟩ : ByteArray) = X2 := ⟨_, rfl⟩
    rw [hX2] at HL2
    have HX2c : Hid (Lib.strCells X2 = Lib.strCells ⟨#[112, 97, 114, 101, 110, 116, 32]⟩ ++ Lib.strCells s.par ++ Lib.strCells ⟨#[10]⟩) := hid0 (by rw [← hX2, strCells_app, strCells_app])
    go_wp2_with (first
      | (go_at_call 17; clear M1; refine (writeString_any _ _ [] X1 wA HBlA.out HL1.out hszA).mono ?_; rintro e2 w1 ⟨rfl, h1, h2, h3⟩; have HB1 := hid0 (HBA.out.trans h2); obtain ⟨y0, y1, y2⟩ := HX.out w1 HB1.out; have HBl1 : Hid (Bl w0.heap.size (w.heap.size + 1) ([] ++ Lib.strCells X1) w1) := hid0 (.inr h1); clear h1 h2 h3)
      | (go_at_call 17; refine (writeString_any _ _ _ X2 w1 HBl1.out HL2.out HB1.out.size).mono ?_; rintro e2 w2 ⟨rfl, h1, h2, h3⟩; have HB2 := hid0 (HB1.out.trans h2); obtain ⟨y0, y1, y2⟩ := HX.out w2 HB2.out; have HBl2 : Hid (Bl w0.heap.size (w.heap.size + 1) ([] ++ Lib.strCells X1 ++ Lib.strCells X2) w2) := hid0 (.inr h1); clear h1 h2 h3)
      | fail)
    have HBZ := HB2
    have HBlZ : Hid (Bl w0.heap.size (w.heap.size + 1) (Lib.byteCells (sdT s 0)) w2) := hid0 (by
      have h := HBl2.out
      rw [HX1c.out, HX2c.out] at h
      have e : Lib.byteCells (sdT s 0) = [] ++ (Lib.strCells ⟨#[91]⟩ ++ Lib.strCells s.loc ++ Lib.strCells ⟨#[93, 10]⟩) ++ (Lib.strCells ⟨#[112, 97, 114, 101, 110, 116, 32]⟩ ++ Lib.strCells s.par ++ Lib.strCells ⟨#[10]⟩) := by
        unfold sdT hdB
        rw [if_neg (by rw [par_nil] at hp; exact of_decide_eq_false hp)]
        simp [Lib.byteCells, Lib.strCells]
      rw [e]
      exact h)
    clear HBl1 HB1 HBl2 HB2 HBlA HBA
    go_loopw [23] (fun i wr => ∃ k : Nat, k ≤ s.ed.length ∧ i = .int .i64 (k : Int) ∧ Hid (Bl w0.heap.size (w.heap.size + 1) (Lib.byteCells (sdT s k)) wr) ∧ Hid (Below w0.heap.size w0 wr)) (fun i _ => s.ed.length - (intOf i).toNat)
    case atStart => exact ⟨0, Nat.zero_le _, rfl, HBlZ, HBZ⟩
    case round =>
      clear HBlZ HBZ
      obtain ⟨k, hk, rfl, HBl, HBr⟩ := hrel
      by_cases hlt : k < s.ed.length
      · have hkI : (k : Int) < (s.ed.length : Int) := by omega
        have hkI0 : (0 : Int) ≤ (k : Int) := by omega
        obtain ⟨b, off, rfl, hbl, c0, c1⟩ := (HEv.out wr HBr.out).2.2.at' k hlt
        have HEn : Hid (entF s.ed[k].2.data.toList = none) := hid0 (HOk.out.ent _ (List.getElem_mem hlt))
        have HEz : Hid (s.ed[k].2.size ≤ 4194400) := hid0 (HZ.out _ (List.getElem_mem hlt))
        have HMo : Hid (Lib.byteCells (sdT s k) ++ Lib.byteCells (wrX s.ed[k]) = Lib.byteCells (sdT s (k + 1))) := hid0 (by rw [sdT_more s k hlt, bytes_app])
        have HLn : Hid ((Lib.byteCells (sdT s k)).length ≤ 4000000) := hid0 (by rw [Lib.byteCells_length]; exact sdT_len HOk.out k (by omega))
        generalize Lib.byteCells (sdT s k) = bs at *
        generalize s.ed[k] = ed at *
        obtain ⟨x, e⟩ := ed
        simp only at c0 c1 HEn HEz HMo
        obtain ⟨wB, hwB⟩ : ∃ wB, wB = wr.alloc (.cells #[.bool x, .string e] 40) := ⟨_, rfl⟩
        have hbB : Below wr.heap.size wr wB := by rw [hwB]; exact (Below.refl _ _).alloc (Nat.le_refl _) _
        have hrB : wB.heap[wr.heap.size]? = some (.cells #[.bool x, .string e] 40 (0, 0)) := by rw [hwB]; exact heap_alloc_new wr _
        have d0 : wB.cell? ⟨wr.heap.size, 0, none⟩ = some (.bool x) := by rw [cell_of_row _ _ _ _ _ _ hrB]; rfl
        have d1 : wB.cell? ⟨wr.heap.size, 1, none⟩ = some (.string e) := by rw [cell_of_row _ _ _ _ _ _ hrB]; rfl
        have HBB : Hid (Below w0.heap.size w0 wB) := hid0 (HBr.out.trans (hbB.mono HBr.out.size))
        have HBlB := hid0 (bl_later HBl.out hbB)
        have HWr := hid0 (writtenEntry_any e HEz.out HEn.out wB (HEv.out wB HBB.out).1 (HEv.out wB HBB.out).2.1)
        have HWl : Hid ((strOf (wrE e.data.toList)).size ≤ 192) := hid0 (by rw [strOf_size]; exact wrE_len HEn.out)
        have HXt : Hid (x = true → bs ++ Lib.strCells (⟨#[43, 32]⟩ ++ strOf (wrE e.data.toList) ++ ⟨#[10]⟩) = Lib.byteCells (sdT s (k + 1))) := hid0 (fun hx => by
          rw [← HMo.out, strCells_app, strCells_app, strCells_strOf]
          unfold wrX
          simp only
          rw [if_pos hx, bytes_app, bytes_app]
          rfl)
        have HXf : Hid (x = false → bs ++ Lib.strCells (⟨#[45, 32]⟩ ++ strOf (wrE e.data.toList) ++ ⟨#[10]⟩) = Lib.byteCells (sdT s (k + 1))) := hid0 (fun hx => by
          rw [← HMo.out, strCells_app, strCells_app, strCells_strOf]
          unfold wrX
          simp only
          rw [if_neg (by rw [hx]; simp), bytes_app, bytes_app]
          rfl)
        have HLe : Hid (∀ g : ByteArray, g.size = 2 → bs.length + (g ++ strOf (wrE e.data.toList) ++ ⟨#[10]⟩).size ≤ 140737488355328) := hid0 (fun g hg => by
          have h1 := HLn.out
          have h2 := HWl.out
          have z1 : (⟨#[10]⟩ : ByteArray).size = 1 := rfl
          rw [ByteArray.size_append, ByteArray.size_append, hg, z1]
          omega)
        have hfB := hwB.symm
        generalize strOf (wrE e.data.toList) = We at *
        have hz1 : ¬ 9223372036854775807 < 2 + We.size := by have := HWl.out; omega
        have hz2 : ¬ 9223372036854775807 < 2 + We.size + 1 := by have := HWl.out; omega
        clear hwB hbB hrB HBl HMo HEn HEz HBr hbl
        cases x with
        | true =>
          have hXn := HXt.out rfl
          have hLe := HLe.out ⟨#[43, 32]⟩ rfl
          obtain ⟨X3, hX3⟩ : ∃ X3 : ByteArray, (⟨#[43, 32]⟩ ++ We ++ ⟨#[10]⟩ : ByteArray) = X3 := ⟨_, rfl⟩
          rw [hX3] at hXn hLe
          have HXn := hid0 hXn
          have HLe3 := hid0 hLe
          clear HXt HXf hXn hLe HLe
          go_wp2_with (first
            | (go_at_call 36; refine HWr.out.mono ?_; rintro e2 w5 ⟨rfl, hb5⟩; have HB5 := hid0 (Below.later HBB.out hb5); have HBl5 := hid0 (bl_later HBlB.out hb5); clear hb5)
            | (go_at_call 17; refine (writeString_any _ _ bs X3 w5 HBl5.out HLe3.out HB5.out.size).mono ?_; rintro e2 w6 ⟨rfl, h1, h2, h3⟩; have HB6 := hid0 (HB5.out.trans h2); have HBl6 : Hid (Bl w0.heap.size (w.heap.size + 1) (Lib.byteCells (sdT s (k + 1))) w6) := hid0 (.inr (by rw [← HXn.out]; exact h1)); clear h1 h2 h3)
            | fail)
          go_roundw
          case rel => exact ⟨k + 1, by omega, by go_num, HBl6, HB6⟩
          case measure => simp [intOf]; omega
        | false =>
          have hXn := HXf.out rfl
          have hLe := HLe.out ⟨#[45, 32]⟩ rfl
          obtain ⟨X3, hX3⟩ : ∃ X3 : ByteArray, (⟨#[45, 32]⟩ ++ We ++ ⟨#[10]⟩ : ByteArray) = X3 := ⟨_, rfl⟩
          rw [hX3] at hXn hLe
          have HXn := hid0 hXn
          have HLe3 := hid0 hLe
          clear HXt HXf hXn hLe HLe
          go_wp2_with (first
            | (go_at_call 36; refine HWr.out.mono ?_; rintro e2 w5 ⟨rfl, hb5⟩; have HB5 := hid0 (Below.later HBB.out hb5); have HBl5 := hid0 (bl_later HBlB.out hb5); clear hb5)
            | (go_at_call 17; refine (writeString_any _ _ bs X3 w5 HBl5.out HLe3.out HB5.out.size).mono ?_; rintro e2 w6 ⟨rfl, h1, h2, h3⟩; have HB6 := hid0 (HB5.out.trans h2); have HBl6 : Hid (Bl w0.heap.size (w.heap.size + 1) (Lib.byteCells (sdT s (k + 1))) w6) := hid0 (.inr (by rw [← HXn.out]; exact h1)); clear h1 h2 h3)
            | fail)
          go_roundw
          case rel => exact ⟨k + 1, by omega, by go_num, HBl6, HB6⟩
          case measure => simp [intOf]; omega
      · have hkI : ¬ (k : Int) < (s.ed.length : Int) := by omega
        have HS := hid0 (Any.Builder_String_any_k Tryz.lays169 ext169 w0.heap.size (w.heap.size + 1) (sdT s k) wr (Lib.IsBuilderF.of HBl.out) HBr.out.size)
        have HE : Hid (sdT s k = secB s) := hid0 (by rw [secB_hd]; unfold sdT; rw [List.take_of_length_le (by omega)])
        rw [HE.out] at HS
        have HS2 : Hid (Calls Tryz.prog 20 #[.pointer (some ⟨w.heap.size + 1, 0, none⟩)] wr fun e w' => e = .returned (.string Y) ∧ Below w0.heap.size wr w') := hid0 (by rw [HY.out]; exact HS.out.mono (fun e w' h => ⟨h.1, h.2.2.1⟩))
        clear HS HBl
        go_wp2_with (go_at_call 20; refine HS2.out.mono ?_; rintro e2 w7 ⟨rfl, hb7⟩)
        go_ret
        exact ⟨rfl, Below.later HB0.out (HBr.out.trans hb7)⟩
end Go.Proofs.YtlfeiadgahdgoaaGreatDoor
namespace Go.Proofs.YtlfeiadgahdgoaaGreatDoor
open Go.RowKit Go.Shelf Go.Lib
/-- What Print answers: the refusal's number, or the bytes. -/
def prtF (L : List Sec) : Option Nat × List UInt8 := match chkE entE L with
  | some i => (some i, [])
  | none => if 1048576 < (prB L).length then (some 2, []) else (none, prB L)
set_option maxRecDepth 10000 in
theorem len_any (B b : Nat) (bs : List Value) (w : World) (h : Bl B b bs w) : Calls Tryz.prog 19 #[.pointer (some ⟨b, 0, none⟩)] w fun e w' => e = .returned (.int .i64 (bs.length : Int)) ∧ w' = w := by
  have key : ∀ p, Lib.BuilderAt 50 5 B b p bs w → ∃ a c, w.cell? ⟨b, 1, none⟩ = some (.slice a bs.length c) := fun p ⟨h1, v, h2, h3, h4⟩ => by
    obtain ⟨a, c, rfl⟩ := row_form h3
    exact ⟨a, c, by rw [cell_of_row _ _ _ _ _ _ h2]; rfl⟩
  obtain ⟨a, c, h1⟩ : ∃ a c, w.cell? ⟨b, 1, none⟩ = some (.slice a bs.length c) := h.elim (key _) (key _)
  clear key h
  go_enter Tryz.func19, Tryz.ntmps19
  go_wp2
  go_ret
  exact ⟨rfl, rfl⟩
set_option maxRecDepth 10000 in
set_option maxHeartbeats 3200000 in
theorem print_any (A : Nat → Addr) (L : List Sec) (a : Option Addr) (c : Nat) (w : World) (hc : L.length ≤ c) (hb : ∀ s ∈ L, s.ed.length ≤ 140737488355328) (hz : ∀ s ∈ L, ∀ e ∈ s.ed, e.2.size ≤ 4194400) (hm : Mx w) (hQ : SeqAt w) (hT : DT w) (he : Sents w A) (ha : XA w a L) :
    Calls Tryz.prog 8 #[.agg #[.slice a L.length c]] w fun e w' => e = .returned (.tuple #[.string (strOf (prtF L).2), errO A (prtF L).1]) ∧ Below w.heap.size w w' := by
  obtain ⟨w0, hw0⟩ : ∃ w0, w0 = w.alloc (.cells #[.slice a L.length c] 24) := ⟨_, rfl⟩
  have hB0 : Below w.heap.size w w0 := by rw [hw0]; exact (Below.refl _ _).alloc (Nat.le_refl _) _
  have hs0 : w0.heap.size = w.heap.size + 1 := by rw [hw0]; simp
  have hX0 : w0.heap[w.heap.size]? = some (.cells #[.slice a L.length c] 24 (0, 0)) := by rw [hw0]; exact heap_alloc_new w _
  have HX : Hid (∀ W, Below w0.heap.size w0 W → W.cell? ⟨w.heap.size, 0, none⟩ = some (.slice a L.length c)) := hid0 (fun W hW => by
    have hr := (hW.block w.heap.size (by omega)).trans hX0
    rw [cell_of_row _ _ _ _ _ _ hr]; rfl)
  have HCk := hid0 (check_any entE A L a c w0 hc hb (hm.below hB0) (he.below hB0) (ha.later hB0) (fun s hs e hee => Nat.le_trans (hz s hs e hee) (by decide)) (fun x W hx hW => entry_any A x W hx ((hQ.later hB0).later hW) ((he.below hB0).below hW)))
  have HEv : Hid (∀ W, Below w0.heap.size w0 W → SeqAt W ∧ DT W ∧ XA W a L ∧ Sents W A) := hid0 (fun W hW => ⟨(hQ.later hB0).later hW, dt_later (dt_later hT hB0) hW, (ha.later hB0).later hW, (he.below hB0).below hW⟩)
  have HZ := hid0 hz
  have HB0 := hid0 hB0
  have x0 := HX.out w0 (Below.refl _ _)
  obtain ⟨R, hR⟩ : ∃ R, R = prtF L := ⟨_, rfl⟩
  rw [← hR]
  unfold prtF at hR
  have hf0 := hw0.symm
  clear hw0 hs0 hB0 hX0 hm hQ hT he ha hb hz
  cases hk : chkE entE L with
  | some i =>
    rw [hk] at HCk hR
    simp only [errO] at HCk
    simp only at hR
    subst hR
    have hse : strOf [] = (⟨#[]⟩ : ByteArray) := rfl
    simp only [errO, hse]
    go_enter Tryz.func8, Tryz.ntmps8
    go_wp2_with (go_at_call 11; refine HCk.out.mono ?_; rintro e w1 ⟨rfl, hb1⟩; have HB1 := hid0 (Below.later HB0.out hb1); clear hb1)
    go_ret2
    exact ⟨rfl, HB1.out⟩
  | none =>
    rw [hk] at HCk hR
    simp only [errO] at HCk
    simp only at hR
    obtain ⟨h500, h20k, hok⟩ := chk_ok (fun x => rfl) hk
    have HOk := hid0 hok
    have HPl : Hid (∀ k, (prB (L.take k)).length ≤ 4000000) := hid0 (fun k => prB_take h500 h20k hok k)
    have HEd : Hid (∀ s ∈ L, s.ed.length ≤ 20000) := hid0 (fun s hs => Nat.le_trans (ed_le hs) h20k)
    have HR := hid0 hR
    have M1 : Hid True := trivial
    clear hk hok hR
    go_enter Tryz.func8, Tryz.ntmps8
    go_wp2_with (go_at_call 11; clear M1; refine HCk.out.mono ?_; rintro e w1 ⟨rfl, hb1⟩; have HB1 := hid0 hb1; have x1 := HX.out w1 hb1; have x2 := HX.out (w1.alloc (.cells #[.pointer none, .slice none 0 0] 50)) (Below.later hb1 ((Below.refl _ _).alloc (Nat.le_refl _) _)); clear hb1 x0 hf0)
    have HBl1 : Hid (Bl w1.heap.size w1.heap.size (Lib.byteCells (prB (L.take 0))) (w1.alloc (.cells #[.pointer none, .slice none 0 0] 50))) := hid0 (by
      have h := Lib.fresh_isBuilder 50 5 w1
      simpa [prB, Lib.byteCells] using h)
    have HBA : Hid (Below w1.heap.size w1 (w1.alloc (.cells #[.pointer none, .slice none 0 0] 50))) := hid0 ((Below.refl _ _).alloc (Nat.le_refl _) _)
    clear x1 x2 HCk
    go_loopw [16] (fun i wr => ∃ k : Nat, k ≤ L.length ∧ i = .int .i64 (k : Int) ∧ Hid (Bl w1.heap.size w1.heap.size (Lib.byteCells (prB (L.take k))) wr) ∧ Hid (Below w1.heap.size w1 wr)) (fun i _ => L.length - (intOf i).toNat)
    case atStart => exact ⟨0, Nat.zero_le _, rfl, HBl1, HBA⟩
    case round =>
      clear HBl1 HBA
      obtain ⟨k, hkl, rfl, HBl, HBr⟩ := hrel
      by_cases hlt : k < L.length
      · have hkI : (k : Int) < (L.length : Int) := by omega
        have hkI0 : (0 : Int) ≤ (k : Int) := by omega
        have hB1r := Below.later HB1.out HBr.out
        obtain ⟨b, off, ae, ce, rfl, hbl, c0, c1, c2, hea⟩ := (HEv.out wr hB1r).2.2.1.at' k hlt
        have HMo : Hid (Lib.byteCells (prB (L.take k)) ++ Lib.byteCells (secB L[k]) = Lib.byteCells (prB (L.take (k + 1)))) := hid0 (by rw [prB_more L k hlt, bytes_app])
        have HLn : Hid ((Lib.byteCells (prB (L.take k))).length ≤ 4000000) := hid0 (by rw [Lib.byteCells_length]; exact HPl.out k)
        have HLm : Hid ((secB L[k]).length ≤ 4000000) := hid0 (by have h1 := HPl.out (k + 1); rw [prB_more L k hlt, List.length_append] at h1; omega)
        have hokk := HOk.out L[k] (List.getElem_mem hlt)
        have hedk := HEd.out L[k] (List.getElem_mem hlt)
        have hzk := HZ.out L[k] (List.getElem_mem hlt)
        generalize Lib.byteCells (prB (L.take k)) = bs at *
        generalize L[k] = s at *
        obtain ⟨wB, hwB⟩ : ∃ wB, wB = wr.alloc (.cells #[.string s.loc, .string s.par, .slice ae s.ed.length ce] 38) := ⟨_, rfl⟩
        have hbB : Below wr.heap.size wr wB := by rw [hwB]; exact (Below.refl _ _).alloc (Nat.le_refl _) _
        have hrB : wB.heap[wr.heap.size]? = some (.cells #[.string s.loc, .string s.par, .slice ae s.ed.length ce] 38 (0, 0)) := by rw [hwB]; exact heap_alloc_new wr _
        have d0 : wB.cell? ⟨wr.heap.size, 0, none⟩ = some (.string s.loc) := by rw [cell_of_row _ _ _ _ _ _ hrB]; rfl
        have d1 : wB.cell? ⟨wr.heap.size, 1, none⟩ = some (.string s.par) := by rw [cell_of_row _ _ _ _ _ _ hrB]; rfl
        have d2 : wB.cell? ⟨wr.heap.size, 2, none⟩ = some (.slice ae s.ed.length ce) := by rw [cell_of_row _ _ _ _ _ _ hrB]; rfl
        have HBB : Hid (Below w1.heap.size w1 wB) := hid0 (HBr.out.trans (hbB.mono HBr.out.size))
        have HBlB := hid0 (bl_later HBl.out hbB)
        have hEB := HEv.out wB (Below.later HB1.out HBB.out)
        have HWS := hid0 (writtenSection_any s ae ce wB hedk hzk hokk hEB.1 hEB.2.1 (hea.later hbB))
        have HSz : Hid ((strOf (secB s)).size ≤ 4000000) := hid0 (by rw [strOf_size]; exact HLm.out)
        have HXn : Hid (bs ++ Lib.strCells (strOf (secB s)) = Lib.byteCells (prB (L.take (k + 1)))) := hid0 (by rw [← HMo.out, strCells_strOf])
        have hfB := hwB.symm
        generalize strOf (secB s) = Ws at *
        clear hwB hbB hrB HBl HBr HMo HLm hokk hzk hEB hea hB1r hbl
        go_wp2_with (first
          | (go_at_call 18; refine HWS.out.mono ?_; rintro e2 w5 ⟨rfl, hb5⟩; have HB5 := hid0 (Below.later HBB.out hb5); have HBl5 := hid0 (bl_later HBlB.out hb5); clear hb5)
          | (go_at_call 17; refine (writeString_any _ _ bs Ws w5 HBl5.out (by have h1 := HLn.out; have h2 := HSz.out; omega) HB5.out.size).mono ?_; rintro e2 w6 ⟨rfl, h1, h2, h3⟩; have HB6 := hid0 (HB5.out.trans h2); have HBl6 : Hid (Bl w1.heap.size w1.heap.size (Lib.byteCells (prB (L.take (k + 1)))) w6) := hid0 (.inr (by rw [← HXn.out]; exact h1)); clear h1 h2 h3)
          | fail)
        go_roundw
        case rel => exact ⟨k + 1, by omega, by go_num, HBl6, HB6⟩
        case measure => simp [intOf]; omega
      · have hkI : ¬ (k : Int) < (L.length : Int) := by omega
        have HE : Hid (prB (L.take k) = prB L) := hid0 (by rw [List.take_of_length_le (by omega)])
        have HLe := hid0 (len_any _ _ _ wr HBl.out)
        have HLl : Hid (((Lib.byteCells (prB (L.take k))).length : Int) = ((prB L).length : Int)) := hid0 (by rw [Lib.byteCells_length, HE.out])
        rw [HLl.out] at HLe
        have HS := hid0 (Any.Builder_String_any_k Tryz.lays169 ext169 w1.heap.size w1.heap.size (prB (L.take k)) wr (Lib.IsBuilderF.of HBl.out) HBr.out.size)
        rw [HE.out] at HS
        have HS2 : Hid (Calls Tryz.prog 20 #[.pointer (some ⟨w1.heap.size, 0, none⟩)] wr fun e w' => e = .returned (.string (strOf (prB L))) ∧ Below w1.heap.size wr w') := hid0 (HS.out.mono (fun e w' h => ⟨h.1, h.2.2.1⟩))
        have HBF := hid0 (Below.later HB0.out (Below.later HB1.out HBr.out))
        have hrm := (HEv.out wr (Below.later HB1.out HBr.out)).2.2.2.c2
        clear HS HBl HLl
        by_cases hbig : 1048576 < (prB L).length
        · have hbI : (1048576 : Int) < ((prB L).length : Int) := by omega
          have hR2 : R = (some 2, []) := by rw [HR.out, if_pos hbig]
          subst hR2
          have HD : Hid (∀ q, Below w.heap.size w (wr.drewN q)) := hid0 (fun q => Below.later HBF.out ⟨rfl, rfl, rfl, Nat.le_refl _, fun _ _ => rfl⟩)
          have hse : strOf [] = (⟨#[]⟩ : ByteArray) := rfl
          clear hbig
          generalize (prB L).length = np at *
          go_wp2_with (go_at_call 19; refine HLe.out.mono ?_; rintro e2 w7 ⟨rfl, hw7⟩; have hw7' := hw7.symm; subst hw7'; clear hw7)
          go_quiet ((fail))
          go_wp2
          go_ret2
          exact ⟨rfl, HD.out _⟩
        · have hbI : ¬ (1048576 : Int) < ((prB L).length : Int) := by omega
          have hR2 : R = (none, prB L) := by rw [HR.out, if_neg hbig]
          subst hR2
          clear hbig
          generalize (prB L).length = np at *
          have HB1' := hid0 (Below.later HB0.out HB1.out)
          go_wp2_with (first
            | (go_at_call 19; refine HLe.out.mono ?_; rintro e2 w7 ⟨rfl, hw7⟩; have hw7' := hw7.symm; subst hw7'; clear hw7)
            | (go_at_call 20; refine HS2.out.mono ?_; rintro e2 w8 ⟨rfl, hb8⟩)
            | fail)
          go_ret2
          exact ⟨rfl, Below.later HB1'.out (HBr.out.trans hb8)⟩
end Go.Proofs.YtlfeiadgahdgoaaGreatDoor
namespace Go.Proofs.YtlfeiadgahdgoaaGreatDoor
open Go.RowKit Go.Shelf Go.Lib
def txt1 : ByteArray := ⟨#[91, 101, 110, 93, 10, 43, 77, 114, 46, 32, 35, 32, 97, 32, 116, 105, 116, 108, 101, 10, 91, 69, 78, 45, 117, 115, 93, 10, 112, 97, 114, 101, 110, 116, 32, 101, 110, 10, 45, 32, 92, 117, 123, 52, 49, 125, 92, 115, 10]⟩
def txt2 : ByteArray := ⟨#[91, 101, 110, 93, 10, 10, 42, 32, 97]⟩
def txt3 : ByteArray := ⟨#[91, 101, 110, 93, 10, 43, 32, 77, 114, 46, 10, 91, 101, 110, 95, 85, 83, 93, 10, 112, 97, 114, 101, 110, 116, 32, 101, 110, 10, 45, 32, 65, 92, 115, 10]⟩
def kB : List Sec := [⟨⟨#[101, 110]⟩, ⟨#[]⟩, [(true, ⟨#[77, 114, 46]⟩)]⟩, ⟨⟨#[101, 110, 95, 85, 83]⟩, ⟨#[101, 110]⟩, [(false, ⟨#[65, 32]⟩)]⟩]
theorem prs1 : prsL txt1.data.toList = .ok kB := by kernel_rfl
theorem prs2 : prsL txt2.data.toList = .stop 3 1 := by kernel_rfl
theorem prt1 : prtF kB = (none, txt3.data.toList) := by kernel_rfl
end Go.Proofs.YtlfeiadgahdgoaaGreatDoor
namespace Go.Proofs.YtlfeiadgahdgoaaGreatDoor
open Go.RowKit Go.Shelf Go.Lib
/-- What the world holds. -/
structure EnvP (A : Nat → Addr) (w : World) : Prop where
  mx : Mx w
  sy : Syn w
  sq : SeqAt w
  dt : DT w
  se : Sents w A
theorem EnvP.below {A : Nat → Addr} {w w' : World} (h : EnvP A w) (hb : Below w.heap.size w w') : EnvP A w' := ⟨h.mx.below hb, h.sy.below hb, h.sq.later hb, dt_later h.dt hb, h.se.below hb⟩
theorem SB.later {w w' : World} {lo : Nat} {v : Value} {S : List SecO} (h : SB w lo v S) (hb : Below w.heap.size w w') : SB w' lo v S := h.keep (fun k _ hk => hb.block k hk)
theorem SB.form {w : World} {lo : Nat} {v : Value} {S : List SecO} (h : SB w lo v S) : ∃ a c, v = .slice a S.length c ∧ S.length ≤ c := by
  rcases h.sec.2 with ⟨h1, h2⟩ | ⟨g, cap, cur, h1, _, _, h4, _⟩
  · exact ⟨none, 0, by rw [h1, h2], by omega⟩
  · exact ⟨_, cap, h1, h4⟩
theorem SB.xa {w : World} {lo : Nat} {a : Option Addr} {n c : Nat} {S : List SecO} (h : SB w lo (.slice a n c) S) : XA w a (secsO S) := ⟨fun k hk => by
  have hk2 : k < S.length := by rw [secsO_length] at hk; exact hk
  have h0 := h.sec
  have e : (secsO S)[k] = S[k].s := by simp [secsO]
  obtain ⟨ae, ce, e1, h1⟩ := (h.ed S[k] (List.getElem_mem hk2)).ea
  rcases h.sec.2 with ⟨h2, h3⟩ | ⟨g, cap, cur, h2, hg, hh, _⟩
  · omega
  · injection h2 with e2 e3 e4
    subst e2 e3 e4
    obtain ⟨c0, c1, c2⟩ := cellsO_at S k hk2
    rw [e]
    refine ⟨g, 0, ae, ce, rfl, (Array.getElem?_eq_some_iff.1 hh).1, ?_, ?_, ?_, h1⟩
    · rw [Nat.zero_add, World.ownsRow.cellAt h0 _ (by omega)]; exact c0
    · rw [Nat.zero_add, World.ownsRow.cellAt h0 _ (by omega)]; exact c1
    · rw [Nat.zero_add, World.ownsRow.cellAt h0 _ (by omega), c2, e1]⟩
/-- Where the sections of the first text lie. -/
structure KB (g c g0 c0 g1 c1 : Nat) (W : World) : Prop where
  e0 : W.cell? ⟨g, 2, none⟩ = some (.slice (some ⟨g0, 0, none⟩) 1 c0)
  e1 : W.cell? ⟨g, 5, none⟩ = some (.slice (some ⟨g1, 0, none⟩) 1 c1)
  b0 : W.cell? ⟨g0, 0, none⟩ = some (.bool true)
  b1 : W.cell? ⟨g1, 0, none⟩ = some (.bool false)
  xa : XA W (some ⟨g, 0, none⟩) kB
  cp : 2 ≤ c
theorem kb_of {w : World} {lo : Nat} {v : Value} {T : List SecO} (h : SB w lo v T) (e : secsO T = kB) : ∃ g c g0 c0 g1 c1, v = .slice (some ⟨g, 0, none⟩) 2 c ∧ ∀ W, Below w.heap.size w W → KB g c g0 c0 g1 c1 W := by
  have hl : T.length = 2 := by rw [← secsO_length, e]; rfl
  match T, hl with
  | [x0, x1], _ =>
    have q0 : x0.s = ⟨⟨#[101, 110]⟩, ⟨#[]⟩, [(true, ⟨#[77, 114, 46]⟩)]⟩ := by have := congrArg (fun l : List Sec => l[0]?) e; simpa [secsO, kB] using this
    have q1 : x1.s = ⟨⟨#[101, 110, 95, 85, 83]⟩, ⟨#[101, 110]⟩, [(false, ⟨#[65, 32]⟩)]⟩ := by have := congrArg (fun l : List Sec => l[1]?) e; simpa [secsO, kB] using this
    obtain ⟨g, c, hv, _, _, hc⟩ := own_form h.sec (by simp)
    have d0 := h.ed x0 (by simp)
    have d1 := h.ed x1 (by simp)
    rw [q0] at d0
    rw [q1] at d1
    obtain ⟨g0, c0, hv0, _⟩ := own_form d0 (by simp)
    obtain ⟨g1, c1, hv1, _⟩ := own_form d1 (by simp)
    have hv' : v = .slice (some ⟨g, 0, none⟩) 2 c := hv
    refine ⟨g, c, g0, c0, g1, c1, hv', fun W hW => ?_⟩
    have hs := (h.later hW).sec
    have f0 := (h.later hW).ed x0 (by simp)
    have f1 := (h.later hW).ed x1 (by simp)
    rw [q0, hv0] at f0
    rw [q1, hv1] at f1
    have hx := h.later hW
    rw [hv'] at hs hx
    have cx := cellsO_at [x0, x1]
    refine ⟨?_, ?_, ?_, ?_, ?_, hc⟩
    · rw [World.ownsRow.cellAt hs 2 (by simp)]
      have := (cx 0 (by simp)).2.2
      have e3 : x0.ev = .slice (some ⟨g0, 0, none⟩) 1 c0 := hv0
      simpa [e3] using this
    · rw [World.ownsRow.cellAt hs 5 (by simp)]
      have := (cx 1 (by simp)).2.2
      have e3 : x1.ev = .slice (some ⟨g1, 0, none⟩) 1 c1 := hv1
      simpa [e3] using this
    · have := World.ownsRow.cellAt f0 0 (by simp)
      rw [this]
      rfl
    · have := World.ownsRow.cellAt f1 0 (by simp)
      rw [this]
      rfl
    · have := hx.xa
      rw [e] at this
      exact this
set_option maxRecDepth 20000 in
set_option maxHeartbeats 3200000 in
theorem begun6_any (A : Nat → Addr) (w : World) (hE : EnvP A w) : Calls Tryz.prog 7 #[] w fun e w' => e = .returned (.bool true) ∧ Below w.heap.size w w' := by
  have HP1 : Hid (Calls Tryz.prog 9 #[.string ⟨#[91, 101, 110, 93, 10, 43, 77, 114, 46, 32, 35, 32, 97, 32, 116, 105, 116, 108, 101, 10, 91, 69, 78, 45, 117, 115, 93, 10, 112, 97, 114, 101, 110, 116, 32, 101, 110, 10, 45, 32, 92, 117, 123, 52, 49, 125, 92, 115, 10]⟩] w fun e w' => (∃ g c g0 c0 g1 c1, e = .returned (.tuple #[.agg #[.slice (some ⟨g, 0, none⟩) 2 c], .int .i64 0, .nilIface]) ∧ ∀ W, Below w'.heap.size w' W → KB g c g0 c0 g1 c1 W) ∧ Below w.heap.size w w') := hid0 (by
    refine (parse_any A txt1.data.toList (by decide) w hE.mx hE.sy hE.sq hE.se).mono ?_
    rintro e w' ⟨h, hb⟩
    rw [prs1] at h
    obtain ⟨v, T, hT, hS, rfl⟩ := h
    obtain ⟨g, c, g0, c0, g1, c1, rfl, hk⟩ := kb_of hS hT
    exact ⟨⟨g, c, g0, c0, g1, c1, rfl, hk⟩, hb⟩)
  have HP2 : Hid (∀ W, Below w.heap.size w W → Calls Tryz.prog 9 #[.string ⟨#[91, 101, 110, 93, 10, 10, 42, 32, 97]⟩] W fun e w' => e = .returned (.tuple #[.agg #[.slice none 0 0], .int .i64 3, .iface 216 (.pointer (some (A 1)))]) ∧ Below W.heap.size W w') := hid0 (fun W hW => by
    have hE := hE.below hW
    refine (parse_any A txt2.data.toList (by decide) W hE.mx hE.sy hE.sq hE.se).mono ?_
    rintro e w' ⟨h, hb⟩
    rw [prs2] at h
    exact ⟨h, hb⟩)
  have HPr : Hid (∀ W g c, 2 ≤ c → Below w.heap.size w W → XA W (some ⟨g, 0, none⟩) kB → Calls Tryz.prog 8 #[.agg #[.slice (some ⟨g, 0, none⟩) 2 c]] W fun e w' => e = .returned (.tuple #[.string ⟨#[91, 101, 110, 93, 10, 43, 32, 77, 114, 46, 10, 91, 101, 110, 95, 85, 83, 93, 10, 112, 97, 114, 101, 110, 116, 32, 101, 110, 10, 45, 32, 65, 92, 115, 10]⟩, .nilIface]) ∧ Below W.heap.size W w') := hid0 (fun W g c hc hW hx => by
    have hE := hE.below hW
    have h := print_any A kB (some ⟨g, 0, none⟩) c W hc (by decide) (by decide) hE.mx hE.sq hE.dt hE.se hx
    rw [prt1] at h
    exact h)
  have HE : Hid (∀ W, Below w.heap.size w W → Sents W A) := hid0 (fun W hW => hE.se.below hW)
  have M1 : Hid True := trivial
  clear hE
  go_enter Tryz.func7, Tryz.ntmps7
  go_wp2_with (first
    | (go_at_call 9; clear M1; refine HP1.out.mono ?_; rintro e w1 ⟨⟨g, c, g0, c0, g1, c1, rfl, hk⟩, hb1⟩; have HK := hid0 hk; have HB1 := hid0 hb1; have hs1 := hb1.size; clear hk hb1; have HBx : Hid (Below w1.heap.size w1 (w1.alloc (.cells #[.slice (some ⟨g, 0, none⟩) 2 c] 24))) := hid0 ((Below.refl _ _).alloc (Nat.le_refl _) _); have k0 := (HK.out _ HBx.out).e0; have k1 := (HK.out _ HBx.out).e1; have HXr : Hid (∀ W, Below (w1.alloc (.cells #[.slice (some ⟨g, 0, none⟩) 2 c] 24)).heap.size (w1.alloc (.cells #[.slice (some ⟨g, 0, none⟩) 2 c] 24)) W → W.cell? ⟨w1.heap.size, 0, none⟩ = some (.slice (some ⟨g, 0, none⟩) 2 c)) := hid0 (fun W hW => by rw [cell_of_row _ _ _ _ _ _ ((hW.block w1.heap.size (by simp)).trans (heap_alloc_new w1 _))]; rfl); have M2 : Hid True := trivial)
    | (go_at_call 8; refine (HPr.out _ g c (HK.out _ HBx.out).cp (Below.later HB1.out HBx.out) (HK.out _ HBx.out).xa).mono ?_; rintro e w2 ⟨rfl, hb2⟩; have HB2 := hid0 (Below.later HBx.out hb2); have HB2a := hid0 hb2; clear hb2 k0 k1)
    | (go_at_call 9; clear M2; refine (HP2.out _ (Below.later HB1.out HB2.out)).mono ?_; rintro e w3 ⟨rfl, hb3⟩; have HBy : Hid (Below w1.heap.size w1 (w3.alloc (.cells #[.slice none 0 0] 24))) := hid0 ((Below.later HB2.out hb3).alloc (Below.later HB2.out hb3).size _); have k0 := (HK.out _ HBy.out).e0; have k1 := (HK.out _ HBy.out).e1; have k2 := (HK.out _ HBy.out).b0; have k3 := (HK.out _ HBy.out).b1; have s1 := (HE.out _ (Below.later HB1.out HBy.out)).c1; have s2 := (HE.out _ (Below.later HB1.out HBy.out)).eql 1 1 (by decide) (by decide); have s3 := HXr.out _ ((Below.later HB2a.out hb3).alloc (Below.later HB2a.out hb3).size (.cells #[.slice none 0 0] 24)); clear hb3)
    | fail)
  go_ret
  exact ⟨rfl, Below.later HB1.out HBy.out⟩
end Go.Proofs.YtlfeiadgahdgoaaGreatDoor
namespace Go.Proofs.YtlfeiadgahdgoaaGreatDoor
open Go.RowKit Go.Shelf Go.Lib
theorem below_drew6 {B : Nat} {w a : World} (h : Below B w a) (n : Nat) : Below B w (a.drewN n) := ⟨h.os, h.tape, h.output, h.size, h.block⟩
set_option maxRecDepth 10000 in
set_option maxHeartbeats 3200000 in
theorem sameBundle_any (L : List Sec) (a b : Option Addr) (ca cb : Nat) (w : World) (hl : L.length ≤ 1000000) (hb : ∀ s ∈ L, s.ed.length ≤ 1000000000) (ha : XA w a L) (hB : XA w b L) :
    Calls Tryz.prog 10 #[.agg #[.slice a L.length ca], .agg #[.slice b L.length cb]] w fun e w' => e = .returned (.bool true) ∧ Below w.heap.size w w' := by
  obtain ⟨w0, hw0⟩ : ∃ w0, w0 = (w.alloc (.cells #[.slice a L.length ca] 24)).alloc (.cells #[.slice b L.length cb] 24) := ⟨_, rfl⟩
  have hs0 : w0.heap.size = w.heap.size + 2 := by rw [hw0]; simp
  have hB0 : Below w.heap.size w w0 := by rw [hw0]; exact ((Below.refl _ _).alloc (Nat.le_refl _) _).alloc (by simp) _
  have hX0 : w0.heap[w.heap.size]? = some (.cells #[.slice a L.length ca] 24 (0, 0)) := by
    rw [hw0]
    exact (Below.heap_alloc _ _ _ (by simp)).trans (heap_alloc_new w _)
  have hX1 : w0.heap[w.heap.size + 1]? = some (.cells #[.slice b L.length cb] 24 (0, 0)) := by
    rw [hw0]
    have h := heap_alloc_new (w.alloc (.cells #[.slice a L.length ca] 24)) (.cells #[.slice b L.length cb] 24)
    rw [show (w.alloc (.cells #[.slice a L.length ca] 24)).heap.size = w.heap.size + 1 by simp] at h
    exact h
  have HX : Hid (∀ W, Below w0.heap.size w0 W → W.cell? ⟨w.heap.size, 0, none⟩ = some (.slice a L.length ca) ∧ W.cell? ⟨w.heap.size + 1, 0, none⟩ = some (.slice b L.length cb)) := hid0 (fun W hW => by
    have hr := (hW.block w.heap.size (by omega)).trans hX0
    have hq := (hW.block (w.heap.size + 1) (by omega)).trans hX1
    exact ⟨by rw [cell_of_row _ _ _ _ _ _ hr]; rfl, by rw [cell_of_row _ _ _ _ _ _ hq]; rfl⟩)
  have HXA : Hid (∀ W, Below w0.heap.size w0 W → XA W a L ∧ XA W b L) := hid0 (fun W hW => ⟨(ha.later hB0).later hW, (hB.later hB0).later hW⟩)
  have HBD := hid0 hb
  have HB0 := hid0 hB0
  obtain ⟨x0, x1⟩ := HX.out w0 (Below.refl _ _)
  have hfold := hw0.symm
  clear hw0 hs0 hB0 hX0 hX1 ha hB hb
  go_enter Tryz.func10, Tryz.ntmps10
  go_wp2
  clear x0 x1 hfold
  go_loopw [5] (fun i wr => ∃ k : Nat, k ≤ L.length ∧ i = .int .i64 (k : Int) ∧ Hid (Below w0.heap.size w0 wr)) (fun i _ => L.length - (intOf i).toNat)
  case atStart => exact ⟨0, Nat.zero_le _, rfl, hid0 (Below.refl _ _)⟩
  case round =>
    obtain ⟨k, hk, rfl, HB⟩ := hrel
    obtain ⟨wo, hwo⟩ : ∃ wo, wo = wr := ⟨_, rfl⟩
    subst hwo
    obtain ⟨x0, x1⟩ := HX.out wo HB.out
    by_cases hlt : k < L.length
    · have hkI : (k : Int) < (L.length : Int) := by omega
      have hkI0 : (0 : Int) ≤ (k : Int) := by omega
      obtain ⟨b1, o1, ae, ce, rfl, hb1, c0, c1, c2, hea⟩ := (HXA.out wo HB.out).1.at' k hlt
      obtain ⟨b2, o2, be, de, rfl, hb2, d0, d1, d2, heb⟩ := (HXA.out wo HB.out).2.at' k hlt
      have hed := HBD.out L[k] (List.getElem_mem hlt)
      generalize L[k] = sc at *
      obtain ⟨lo, pa, ed⟩ := sc
      simp only at c0 c1 c2 d0 d1 d2 hea heb hed
      obtain ⟨w1, hw1⟩ : ∃ w1, w1 = wo.alloc (.cells #[.string lo, .string pa, .slice ae ed.length ce] 38) := ⟨_, rfl⟩
      have hbw1 : Below wo.heap.size wo w1 := by rw [hw1]; exact (Below.refl _ _).alloc (Nat.le_refl _) _
      have hs1 : w1.heap.size = wo.heap.size + 1 := by rw [hw1]; simp
      have hr1 : w1.heap[wo.heap.size]? = some (.cells #[.string lo, .string pa, .slice ae ed.length ce] 38 (0, 0)) := by rw [hw1]; exact heap_alloc_new wo _
      obtain ⟨w2, hw2⟩ : ∃ w2, w2 = w1.alloc (.cells #[.string lo, .string pa, .slice be ed.length de] 38) := ⟨_, rfl⟩
      have hbw2 : Below w1.heap.size w1 w2 := by rw [hw2]; exact (Below.refl _ _).alloc (Nat.le_refl _) _
      have hr2 : w2.heap[wo.heap.size + 1]? = some (.cells #[.string lo, .string pa, .slice be ed.length de] 38 (0, 0)) := by rw [hw2, ← hs1]; exact heap_alloc_new w1 _
      have hr12 : w2.heap[wo.heap.size]? = some (.cells #[.string lo, .string pa, .slice ae ed.length ce] 38 (0, 0)) := (hbw2.block _ (by omega)).trans hr1
      obtain ⟨y0, y1⟩ := HX.out w1 (Below.later HB.out hbw1)
      have e0 := (hbw1.cell (p := ⟨b2, o2 + k * 3, none⟩) hb2).trans d0
      have e1 := (hbw1.cell (p := ⟨b2, o2 + k * 3 + 1, none⟩) hb2).trans d1
      have e2 := (hbw1.cell (p := ⟨b2, o2 + k * 3 + 2, none⟩) hb2).trans d2
      obtain ⟨p0, p1, p2, p3⟩ := sec_cells hr12
      obtain ⟨q0, q1, q2, q3⟩ := sec_cells hr2
      have HE1 := hid0 ((hea.later hbw1).later hbw2)
      have HE2 := hid0 ((heb.later hbw1).later hbw2)
      have HB2 := hid0 (Below.later (Below.later HB.out hbw1) hbw2)
      have r0 : (lo.toList == lo.toList) = true := by simp
      have r1 : (pa.toList == pa.toList) = true := by simp
      have hf1 := hw1.symm
      have hf2 := hw2.symm
      clear hw1 hw2 hbw1 hbw2 hr1 hr2 hr12 hea heb hb1 hb2
      go_wp2
      clear c0 c1 c2 d0 d1 d2 e0 e1 e2 x0 x1 y0 y1 hf1 hf2
      go_loopw [8] (fun i wi => ∃ j q : Nat, j ≤ ed.length ∧ i = .int .i64 (j : Int) ∧ wi = w2.drewN q) (fun i _ => ed.length - (intOf i).toNat)
      case atStart => exact ⟨0, 0, Nat.zero_le _, rfl, rfl⟩
      case round =>
        obtain ⟨j, q, hj, rfl, rfl⟩ := hrel
        by_cases hjl : j < ed.length
        · obtain ⟨g1, f1, rfl, _, u0, u1⟩ := HE1.out.at' j hjl
          obtain ⟨g2, f2, rfl, _, v0, v1⟩ := HE2.out.at' j hjl
          have hjI : (j : Int) < (ed.length : Int) := by omega
          have hjI0 : (0 : Int) ≤ (j : Int) := by omega
          generalize ed[j] = u at *
          go_wp2
          go_quiet ((fail))
          go_wp2
          go_roundw
          case rel => exact ⟨j + 1, _, hjl, by go_num, rfl⟩
          case measure => simp [intOf]; omega
        · have hjI : ¬ (j : Int) < (ed.length : Int) := by omega
          have HBN := hid0 (below_drew6 HB2.out q)
          go_wp2
          go_roundw
          case rel => exact ⟨k + 1, by omega, by go_num, HBN⟩
          case measure => simp [intOf]; omega
    · have hkI : ¬ (k : Int) < (L.length : Int) := by omega
      have HBN := hid0 (Below.later HB0.out HB.out)
      go_wp2
      go_ret
      exact ⟨rfl, HBN.out⟩
end Go.Proofs.YtlfeiadgahdgoaaGreatDoor
namespace Go.Proofs.YtlfeiadgahdgoaaGreatDoor
open Go.RowKit Go.Shelf Go.Lib
def otT : ByteArray := ⟨#[91, 101, 110, 93, 10, 43, 32, 97, 10, 43, 32, 98, 10, 91, 100, 101, 93, 10, 45, 32, 97, 10]⟩
theorem ot_prs : prsL otT.data.toList = .ok otS := by kernel_rfl
theorem SB.wb {w : World} {lo : Nat} {v : Value} {S : List SecO} (h : SB w lo v S) : WB w lo v S := ⟨h.sec, h.ed, h.ne, h.pw⟩
/-- A bundle that was answered: its sections in rows of their own, from lo on. -/
structure An (w : World) (lo : Nat) (S : List Sec) (a : Option Addr) (c : Nat) (T : List SecO) : Prop where
  eq : secsO T = S
  wb : WB w lo (.slice a S.length c) T
theorem An.later {w w' : World} {lo : Nat} {S : List Sec} {a : Option Addr} {c : Nat} {T : List SecO} (h : An w lo S a c T) (hb : Below w.heap.size w w') : An w' lo S a c T := ⟨h.eq, h.wb.later hb⟩
theorem An.xa {w : World} {lo : Nat} {S : List Sec} {a : Option Addr} {c : Nat} {T : List SecO} (h : An w lo S a c T) : XA w a S := by
  have := h.wb.xa
  rw [h.eq] at this
  exact this
theorem An.of {w : World} {lo : Nat} {S : List Sec} {v : Value} {T : List SecO} (he : secsO T = S) (h : WB w lo v T) : ∃ a c, v = .slice a S.length c ∧ An w lo S a c T := by
  obtain ⟨a, c, e, _⟩ := h.form
  have hl : T.length = S.length := by rw [← he, secsO_length]
  rw [hl] at e
  exact ⟨a, c, e, he, by rw [← e]; exact h⟩
/-- The five that are answered ahead of the looks, and where each variable lies. -/
structure P5 (w W : World) (S : List Sec) (p1 p2 p3 p4 p5 : Nat) (a1 a2 a3 a4 a5 : Option Addr) (c1 c2 c3 c4 c5 : Nat) (T1 T2 T3 T4 T5 : List SecO) : Prop where
  b1 : W.heap[p1]? = some (.cells #[.slice a1 S.length c1] 24 (0, 0))
  b2 : W.heap[p2]? = some (.cells #[.slice a2 S.length c2] 24 (0, 0))
  b3 : W.heap[p3]? = some (.cells #[.slice a3 2 c3] 24 (0, 0))
  b4 : W.heap[p4]? = some (.cells #[.slice a4 S.length c4] 24 (0, 0))
  b5 : W.heap[p5]? = some (.cells #[.slice a5 S.length c5] 24 (0, 0))
  n1 : An W w.heap.size S a1 c1 T1
  n2 : An W (p1 + 1) S a2 c2 T2
  n3 : An W (p2 + 1) otS a3 c3 T3
  n4 : An W (p3 + 1) S a4 c4 T4
  n5 : An W (p4 + 1) S a5 c5 T5
  o1 : ∀ k, WB.owns (.slice a1 S.length c1) T1 k → k < p1
  o2 : ∀ k, WB.owns (.slice a2 S.length c2) T2 k → k < p2
  o3 : ∀ k, WB.owns (.slice a3 2 c3) T3 k → k < p3
  o4 : ∀ k, WB.owns (.slice a4 S.length c4) T4 k → k < p4
  o5 : ∀ k, WB.owns (.slice a5 S.length c5) T5 k → k < p5
  lt : w.heap.size ≤ p1 ∧ p1 < p2 ∧ p2 < p3 ∧ p3 < p4 ∧ p4 < p5
  bel : Below w.heap.size w W
theorem P5.later {w W W' : World} {S : List Sec} {p1 p2 p3 p4 p5 : Nat} {a1 a2 a3 a4 a5 : Option Addr} {c1 c2 c3 c4 c5 : Nat} {T1 T2 T3 T4 T5 : List SecO} (h : P5 w W S p1 p2 p3 p4 p5 a1 a2 a3 a4 a5 c1 c2 c3 c4 c5 T1 T2 T3 T4 T5) (hb : Below W.heap.size W W') : P5 w W' S p1 p2 p3 p4 p5 a1 a2 a3 a4 a5 c1 c2 c3 c4 c5 T1 T2 T3 T4 T5 :=
  have k : ∀ {q o}, W.heap[q]? = some o → W'.heap[q]? = some o := fun {q} {_} h => (hb.block q (Array.getElem?_eq_some_iff.1 h).1).trans h
  ⟨k h.b1, k h.b2, k h.b3, k h.b4, k h.b5, h.n1.later hb, h.n2.later hb, h.n3.later hb, h.n4.later hb, h.n5.later hb, h.o1, h.o2, h.o3, h.o4, h.o5, h.lt, Below.later h.bel hb⟩
/-- Four of them, in a row of their own, are apart. -/
theorem P5.four {w W : World} {S : List Sec} {p1 p2 p3 p4 p5 : Nat} {a1 a2 a3 a4 a5 : Option Addr} {c1 c2 c3 c4 c5 : Nat} {T1 T2 T3 T4 T5 : List SecO} (h : P5 w W S p1 p2 p3 p4 p5 a1 a2 a3 a4 a5 c1 c2 c3 c4 c5 T1 T2 T3 T4 T5) (hs : S.length ≤ 500) (he : ∀ s ∈ S, s.ed.length ≤ 20000)
    {gl : Nat} (hg : p5 < gl) (hr : W.heap[gl]? = some (.cells #[.slice a1 S.length c1, .slice a2 S.length c2, .slice a3 2 c3, .slice a4 S.length c4] 24 (0, 0))) :
    Four W w.heap.size gl [(.slice a1 S.length c1, T1), (.slice a2 S.length c2, T2), (.slice a3 2 c3, T3), (.slice a4 S.length c4, T4)] := by
  obtain ⟨l1, l2, l3, l4, l5⟩ := h.lt
  have lo : ∀ {lo' : Nat} {v : Value} {T : List SecO}, WB W lo' v T → ∀ k, WB.owns v T k → lo' ≤ k := fun hw k hk => (hw.lt hk).1
  have sm : ∀ {S' : List Sec} {T : List SecO}, secsO T = S' → S'.length ≤ 500 → (∀ s ∈ S', s.ed.length ≤ 20000) → T.length ≤ 500 ∧ ∀ x ∈ T, x.s.ed.length ≤ 20000 := fun {S'} {T} e h1 h2 => by
    subst e
    exact ⟨by rw [← secsO_length]; exact h1, fun x hx => h2 x.s (List.mem_map.2 ⟨x, hx, rfl⟩)⟩
  have c : ∀ p, W.cell? ⟨gl, p, none⟩ = (#[.slice a1 S.length c1, .slice a2 S.length c2, .slice a3 2 c3, .slice a4 S.length c4] : Array Value)[p]? := fun p => cell_of_row _ _ _ _ _ _ hr
  refine ⟨rfl, fun j hj => ?_, fun p hp => ?_, ?_, fun p hp hk => ?_, (Array.getElem?_eq_some_iff.1 hr).1, fun p hp => ?_⟩
  · have hj4 : j < 4 := hj
    rw [c]
    obtain rfl | rfl | rfl | rfl : j = 0 ∨ j = 1 ∨ j = 2 ∨ j = 3 := by omega
    all_goals rfl
  · simp only [List.mem_cons, List.not_mem_nil, or_false] at hp
    rcases hp with rfl | rfl | rfl | rfl
    · exact h.n1.wb
    · exact h.n2.wb.lower (by omega)
    · exact h.n3.wb.lower (by omega)
    · exact h.n4.wb.lower (by omega)
  · simp only [List.pairwise_cons, List.mem_cons, List.not_mem_nil, or_false, forall_eq_or_imp, forall_eq, List.Pairwise.nil, and_true, false_imp_iff, implies_true]
    refine ⟨⟨fun k h1 h2 => ?_, fun k h1 h2 => ?_, fun k h1 h2 => ?_⟩, ⟨fun k h1 h2 => ?_, fun k h1 h2 => ?_⟩, fun k h1 h2 => ?_⟩
    · have := h.o1 k h1; have := lo h.n2.wb k h2; omega
    · have := h.o1 k h1; have := lo h.n3.wb k h2; omega
    · have := h.o1 k h1; have := lo h.n4.wb k h2; omega
    · have := h.o2 k h1; have := lo h.n3.wb k h2; omega
    · have := h.o2 k h1; have := lo h.n4.wb k h2; omega
    · have := h.o3 k h1; have := lo h.n4.wb k h2; omega
  · simp only [List.mem_cons, List.not_mem_nil, or_false] at hp
    rcases hp with rfl | rfl | rfl | rfl
    · have := h.o1 _ hk; omega
    · have := h.o2 _ hk; omega
    · have := h.o3 _ hk; omega
    · have := h.o4 _ hk; omega
  · simp only [List.mem_cons, List.not_mem_nil, or_false] at hp
    rcases hp with rfl | rfl | rfl | rfl
    · exact sm h.n1.eq hs he
    · exact sm h.n2.eq hs he
    · exact sm h.n3.eq (by decide) (by decide)
    · exact sm h.n4.eq hs he
theorem P5.build {w w1 w2 w3 w4 w5 : World} {S : List Sec} {a1 a2 a3 a4 a5 : Option Addr} {c1 c2 c3 c4 c5 : Nat} {T1 T2 T3 T4 T5 : List SecO}
    (b1 : Below w.heap.size w w1) (n1 : An w1 w.heap.size S a1 c1 T1)
    (b2 : Below (w1.alloc (.cells #[.slice a1 S.length c1] 24)).heap.size (w1.alloc (.cells #[.slice a1 S.length c1] 24)) w2) (n2 : An w2 (w1.alloc (.cells #[.slice a1 S.length c1] 24)).heap.size S a2 c2 T2)
    (b3 : Below (w2.alloc (.cells #[.slice a2 S.length c2] 24)).heap.size (w2.alloc (.cells #[.slice a2 S.length c2] 24)) w3) (n3 : An w3 (w2.alloc (.cells #[.slice a2 S.length c2] 24)).heap.size otS a3 c3 T3)
    (b4 : Below (w3.alloc (.cells #[.slice a3 2 c3] 24)).heap.size (w3.alloc (.cells #[.slice a3 2 c3] 24)) w4) (n4 : An w4 (w3.alloc (.cells #[.slice a3 2 c3] 24)).heap.size S a4 c4 T4)
    (b5 : Below (w4.alloc (.cells #[.slice a4 S.length c4] 24)).heap.size (w4.alloc (.cells #[.slice a4 S.length c4] 24)) w5) (n5 : An w5 (w4.alloc (.cells #[.slice a4 S.length c4] 24)).heap.size S a5 c5 T5) :
    P5 w (w5.alloc (.cells #[.slice a5 S.length c5] 24)) S w1.heap.size w2.heap.size w3.heap.size w4.heap.size w5.heap.size a1 a2 a3 a4 a5 c1 c2 c3 c4 c5 T1 T2 T3 T4 T5 := by
  have k1 : Below w1.heap.size w1 w2 := Below.trans ((Below.refl _ _).alloc (Nat.le_refl _) _) (lowB b2 (by simp))
  have k2 : Below w2.heap.size w2 w3 := Below.trans ((Below.refl _ _).alloc (Nat.le_refl _) _) (lowB b3 (by simp))
  have k3 : Below w3.heap.size w3 w4 := Below.trans ((Below.refl _ _).alloc (Nat.le_refl _) _) (lowB b4 (by simp))
  have k4 : Below w4.heap.size w4 w5 := Below.trans ((Below.refl _ _).alloc (Nat.le_refl _) _) (lowB b5 (by simp))
  have k5 : Below w5.heap.size w5 (w5.alloc (.cells #[.slice a5 S.length c5] 24)) := (Below.refl _ _).alloc (Nat.le_refl _) _
  have m4 := Below.later k4 k5
  have m3 := Below.later k3 m4
  have m2 := Below.later k2 m3
  have m1 := Below.later k1 m2
  have s1 := b1.size
  have s2 := b2.size
  have s3 := b3.size
  have s4 := b4.size
  have s5 := b5.size
  simp only [World.size_alloc] at s2 s3 s4 s5 n2 n3 n4 n5
  have r1 := boxRow b2
  have r2 := boxRow b3
  have r3 := boxRow b4
  have r4 := boxRow b5
  exact ⟨(m2.block _ (by omega)).trans r1, (m3.block _ (by omega)).trans r2, (m4.block _ (by omega)).trans r3, (k5.block _ (by omega)).trans r4, heap_alloc_new w5 _, n1.later m1, n2.later m2, n3.later m3, n4.later m4, n5.later k5,
    fun k hk => (n1.wb.lt hk).2, fun k hk => (n2.wb.lt hk).2, fun k hk => (n3.wb.lt hk).2, fun k hk => (n4.wb.lt hk).2, fun k hk => (n5.wb.lt hk).2, ⟨s1, by omega, by omega, by omega, by omega⟩, Below.later b1 m1⟩
end Go.Proofs.YtlfeiadgahdgoaaGreatDoor
namespace Go.Proofs.YtlfeiadgahdgoaaGreatDoor
open Go.RowKit Go.Shelf Go.Lib
theorem P5.after {w W W' : World} {S : List Sec} {p1 p2 p3 p4 p5 : Nat} {a1 a2 a3 a4 a5 : Option Addr} {c1 c2 c3 c4 c5 : Nat} {T1 T2 T3 T4 T5 : List SecO} (h : P5 w W S p1 p2 p3 p4 p5 a1 a2 a3 a4 a5 c1 c2 c3 c4 c5 T1 T2 T3 T4 T5)
    (hk : ∀ k, k < W.heap.size → (∀ p ∈ [((.slice a1 S.length c1 : Value), T1), (.slice a2 S.length c2, T2), (.slice a3 2 c3, T3), (.slice a4 S.length c4, T4)], ¬ WB.owns p.1 p.2 k) → W'.heap[k]? = W.heap[k]?) :
    W'.heap[p4]? = some (.cells #[.slice a4 S.length c4] 24 (0, 0)) ∧ W'.heap[p5]? = some (.cells #[.slice a5 S.length c5] 24 (0, 0)) ∧ An W' (p4 + 1) S a5 c5 T5 := by
  obtain ⟨l1, l2, l3, l4, l5⟩ := h.lt
  have far : ∀ k, p4 ≤ k → k < W.heap.size → W'.heap[k]? = W.heap[k]? := fun k h1 h2 => hk k h2 (fun p hp ho => by
    simp only [List.mem_cons, List.not_mem_nil, or_false] at hp
    rcases hp with rfl | rfl | rfl | rfl
    · have := h.o1 k ho; omega
    · have := h.o2 k ho; omega
    · have := h.o3 k ho; omega
    · have := h.o4 k ho; omega)
  have s5 := (Array.getElem?_eq_some_iff.1 h.b5).1
  refine ⟨(far p4 (Nat.le_refl _) (by omega)).trans h.b4, (far p5 (by omega) s5).trans h.b5, h.n5.eq, h.n5.wb.keep (fun k hk2 => ?_)⟩
  have := h.n5.wb.lt hk2
  exact far k (by omega) this.2
set_option maxRecDepth 20000 in
set_option maxHeartbeats 6400000 in
theorem bundleParses_core (t : ByteArray) (S : List Sec) (n num : Nat) (ve : Value) (w : World) (hs : S.length ≤ 500) (he : ∀ s ∈ S, s.ed.length ≤ 20000)
    (HP : Hid (∀ W, Below w.heap.size w W → Calls Tryz.prog 9 #[.string t] W fun e w' => (∃ v T, secsO T = S ∧ WB w' W.heap.size v T ∧ e = .returned (.tuple #[.agg #[v], .int .i64 (n : Int), ve])) ∧ Below W.heap.size W w'))
    (HO : Hid (∀ W, Below w.heap.size w W → Calls Tryz.prog 9 #[.string otT] W fun e w' => (∃ v T, secsO T = otS ∧ WB w' W.heap.size v T ∧ e = .returned (.tuple #[.agg #[v], .int .i64 0, .nilIface])) ∧ Below W.heap.size W w'))
    (HR : Hid (∀ W, Calls Tryz.prog 13 #[.string t] W fun e w' => (∃ v T, secsO T = S ∧ WB w' W.heap.size v T ∧ e = .returned (.tuple #[.agg #[v], .int .i64 (n : Int), .int .i64 (num : Int)])) ∧ Below W.heap.size W w'))
    (HN : Hid (∀ W, Below w.heap.size w W → Calls Tryz.prog 14 #[ve] W fun e w' => e = .returned (.int .i64 (num : Int)) ∧ w' = W)) :
    Calls Tryz.prog 6 #[.string t] w fun e w' => e = .returned (.bool true) ∧ Below w.heap.size w w' := by
  have HSm : Hid (∀ (W : World) a b ca cb, XA W a S → XA W b S → Calls Tryz.prog 10 #[.agg #[.slice a S.length ca], .agg #[.slice b S.length cb]] W fun e w' => e = .returned (.bool true) ∧ Below W.heap.size W w') := hid0 (fun W a b ca cb h1 h2 => sameBundle_any S a b ca cb W (by omega) (fun s hs => Nat.le_trans (he s hs) (by decide)) h1 h2)
  have HSo : Hid (∀ (W : World) a b ca cb, XA W a otS → XA W b otS → Calls Tryz.prog 10 #[.agg #[.slice a 2 ca], .agg #[.slice b 2 cb]] W fun e w' => e = .returned (.bool true) ∧ Below W.heap.size W w') := hid0 (fun W a b ca cb h1 h2 => sameBundle_any otS a b ca cb W (by decide) (by decide) h1 h2)
  have hot : otS.length = 2 := rfl
  have HE := hid0 he
  clear he
  go_enter Tryz.func6, Tryz.ntmps6
  go_wp2_with (first
    | (go_at_call 9; refine (HP.out _ HB3.out).mono ?_; rintro e w4 ⟨⟨v4, T4, he4, hw4, rfl⟩, hb4⟩; obtain ⟨a4, c4, rfl, hn4⟩ := An.of he4 hw4; have HN4 := hid0 hn4; have HK4 := hid0 hb4; have HB4 : Hid (Below w.heap.size w (w4.alloc (.cells #[.slice a4 S.length c4] 24))) := hid0 ((Below.later HB3.out hb4).alloc (Below.later HB3.out hb4).size _); clear he4 hw4 hn4 hb4)
    | (go_at_call 9; refine (HO.out _ HB2.out).mono ?_; rintro e w3 ⟨⟨v3, T3, he3, hw3, rfl⟩, hb3⟩; obtain ⟨a3, c3, rfl, hn3⟩ := An.of he3 hw3; rw [hot]; have HN3 := hid0 hn3; have HK3 := hid0 hb3; have HB3 : Hid (Below w.heap.size w (w3.alloc (.cells #[.slice a3 2 c3] 24))) := hid0 ((Below.later HB2.out hb3).alloc (Below.later HB2.out hb3).size _); clear he3 hw3 hn3 hb3)
    | (go_at_call 9; refine (HP.out _ HB1.out).mono ?_; rintro e w2 ⟨⟨v2, T2, he2, hw2, rfl⟩, hb2⟩; obtain ⟨a2, c2, rfl, hn2⟩ := An.of he2 hw2; have HN2 := hid0 hn2; have HK2 := hid0 hb2; have HB2 : Hid (Below w.heap.size w (w2.alloc (.cells #[.slice a2 S.length c2] 24))) := hid0 ((Below.later HB1.out hb2).alloc (Below.later HB1.out hb2).size _); clear he2 hw2 hn2 hb2)
    | (go_at_call 9; refine (HP.out _ (Below.refl _ _)).mono ?_; rintro e w1 ⟨⟨v1, T1, he1, hw1, rfl⟩, hb1⟩; obtain ⟨a1, c1, rfl, hn1⟩ := An.of he1 hw1; have HN1 := hid0 hn1; have HK1 := hid0 hb1; have HB1 : Hid (Below w.heap.size w (w1.alloc (.cells #[.slice a1 S.length c1] 24))) := hid0 (hb1.alloc hb1.size _); clear he1 hw1 hn1 hb1)
    | (go_at_call 13; refine (HR.out _).mono ?_; rintro e w5 ⟨⟨v5, T5, he5, hw5, rfl⟩, hb5⟩; obtain ⟨a5, c5, rfl, hn5⟩ := An.of he5 hw5; have hp5 := P5.build HK1.out HN1.out HK2.out HN2.out HK3.out HN3.out HK4.out HN4.out hb5 hn5; have z1 := (row1 hp5.b1).1; have z5 := (row1 hp5.b5).1; have HP5 := hid0 hp5; clear he5 hw5 hn5 hb5 hp5)
    | (go_at_call 10; refine (HSm.out _ _ _ _ _ HP5.out.n1.xa HP5.out.n5.xa).mono ?_; rintro e w6 ⟨rfl, hb6⟩; have HP6 := hid0 (HP5.out.later hb6); clear hb6)
    | (go_at_call 14; refine (HN.out _ HP6.out.bel).mono ?_; rintro e w7 ⟨rfl, hw7⟩; have hw7' := hw7.symm; subst hw7'; clear hw7)
    | fail)
  have HSk : Hid (∀ W : World, P5 w W S w1.heap.size w2.heap.size w3.heap.size w4.heap.size w5.heap.size a1 a2 a3 a4 a5 c1 c2 c3 c4 c5 T1 T2 T3 T4 T5 → W.cell? ⟨w3.heap.size, 0, none⟩ = some (.slice a3 2 c3) ∧ W.cell? ⟨w4.heap.size, 0, none⟩ = some (.slice a4 S.length c4) ∧ W.cell? ⟨w5.heap.size, 0, none⟩ = some (.slice a5 S.length c5)) := hid0 (fun W h => ⟨(row1 h.b3).1, (row1 h.b4).1, (row1 h.b5).1⟩)
  have HPd := hid0 (HP6.out.later ((Below.refl _ _).drew))
  have hs6 := HSk.out _ HPd.out
  clear z1 z5 HK1 HK2 HK3 HK4 HN1 HN2 HN3 HN4 HB1 HB2 HB3 HB4 HP5
  go_region_held3 (fun W => W.cell? ⟨w3.heap.size, 0, none⟩ = some (.slice a3 2 c3) ∧ W.cell? ⟨w4.heap.size, 0, none⟩ = some (.slice a4 S.length c4) ∧ W.cell? ⟨w5.heap.size, 0, none⟩ = some (.slice a5 S.length c5))
    (first | assumption)
    (first
      | (go_at_call 10; refine (HSo.out _ _ _ _ _ HP9.out.n3.xa HXo.out).mono ?_; rintro e w10 ⟨rfl, hb10⟩; have HP10 := hid0 (HP9.out.later hb10); have hs10 := HSk.out _ HP10.out; clear hb10)
      | (go_at_call 10; refine (HSm.out _ _ _ _ _ HPd.out.n4.xa HPd.out.n5.xa).mono ?_; rintro e w8 ⟨rfl, hb8⟩; have HP8 := hid0 (HPd.out.later hb8); have hs8 := HSk.out _ HP8.out; clear hb8)
      | (go_at_call 14; refine (HN.out _ HP8.out.bel).mono ?_; rintro e w7 ⟨rfl, hw7⟩; have hw7' := hw7.symm; subst hw7'; clear hw7)
      | (go_at_call 15; refine (other_any _).mono ?_; rintro e w9 ⟨a9, rfl, hx9, hb9⟩; have HP9 := hid0 (HP8.out.later hb9); have HXo := hid0 hx9; have hs9 := HSk.out _ HP9.out; clear hb9 hx9))
  have x2 := (row1 HP10.out.b2).1
  have x5 := (row1 HP10.out.b5).1
  clear hs6 hs8 hs9 hs10
  go_wp2_with (first
    | (go_at_call 10; refine (HSm.out _ _ _ _ _ HQ.out.1 HQ.out.2.1).mono ?_; rintro e w14 ⟨rfl, hb14⟩; have HB14 := hid0 (Below.later HQ.out.2.2 hb14); clear hb14)
    | (go_at_call 10; refine (HSm.out _ _ _ _ _ HP10.out.n2.xa HP10.out.n5.xa).mono ?_; rintro e w11 ⟨rfl, hb11⟩; have HP11 := hid0 (HP10.out.later hb11); have y1 := (row1 HP11.out.b1).1; have y2 := (row1 HP11.out.b2).1; have y3 := (row1 HP11.out.b3).1; have y4 := (row1 HP11.out.b4).1; clear hb11)
    | (go_at_call 16; go_loud ((
        have hp12 := HP11.out.later ((Below.refl _ _).alloc (Nat.le_refl _) (.cells #[.slice a1 S.length c1, .slice a2 S.length c2, .slice a3 2 c3, .slice a4 S.length c4] 24))
        refine (apart6_any w.heap.size w11.heap.size 4 [(.slice a1 S.length c1, T1), (.slice a2 S.length c2, T2), (.slice a3 2 c3, T3), (.slice a4 S.length c4, T4)] _ hp12.bel.size (hp12.four hs HE.out (by have := (Array.getElem?_eq_some_iff.1 HP11.out.b5).1; exact this) (heap_alloc_new w11 _))).mono ?_
        rintro e w12 ⟨rfl, hb12, hk12⟩
        obtain ⟨r4, r5, hn5⟩ := hp12.after hk12
        have HR4 := hid0 r4
        have HR5 := hid0 r5
        have HN5 := hid0 hn5
        have HB12 := hid0 (hp12.bel.trans hb12)
        have HL := hid0 hp12.lt
        clear hb12 hk12 r4 r5 hn5 hp12)))
    | (go_at_call 9; go_loud ((
        refine (HP.out _ HB12.out).mono ?_
        rintro e w13 ⟨⟨v6, T6, he6, hw6, rfl⟩, hb13⟩
        obtain ⟨a6, c6, rfl, hn6⟩ := An.of he6 hw6
        have q4 := (hb13.block _ (Array.getElem?_eq_some_iff.1 HR4.out).1).trans HR4.out
        have q5 := (hb13.block _ (Array.getElem?_eq_some_iff.1 HR5.out).1).trans HR5.out
        obtain ⟨g4, f4⟩ := row1 q4
        have s4 := set_one (.slice a6 S.length c6) q4
        have s5 := (Below.heap_setCell w13 ⟨w4.heap.size, 0, none⟩ (.slice a6 S.length c6) w5.heap.size (by have := HL.out.2.2.2.2; simp only; omega)).trans q5
        have g6 := (row1 s4).1
        have g5 := (row1 s5).1
        have hz4 := (Array.getElem?_eq_some_iff.1 HR4.out).1
        have hwp := (HB12.out).size
        have HQ : Hid (XA (w13.setCell ⟨w4.heap.size, 0, none⟩ (.slice a6 S.length c6)) a6 S ∧ XA (w13.setCell ⟨w4.heap.size, 0, none⟩ (.slice a6 S.length c6)) a5 S ∧ Below w.heap.size w (w13.setCell ⟨w4.heap.size, 0, none⟩ (.slice a6 S.length c6))) := hid0 ⟨An.xa (lo := w12.heap.size) (c := c6) (T := T6) ⟨hn6.eq, hn6.wb.keep (fun k hk => Below.heap_setCell _ _ _ k (by have := (hn6.wb.lt hk).1; simp only; omega))⟩, An.xa (lo := w4.heap.size + 1) (c := c5) (T := T5) ⟨HN5.out.eq, (HN5.out.wb.later hb13).keep (fun k hk => Below.heap_setCell _ _ _ k (by have := ((HN5.out.wb.later hb13).lt hk).1; simp only; omega))⟩, (Below.later HB12.out hb13).setCell (p := ⟨w4.heap.size, 0, none⟩) (by have := HL.out; simp only; omega) _⟩
        clear q4 q5 s4 s5 he6 hw6 hn6 hb13)))
    | (go_at_call 14; refine (HN.out _ HB14.out).mono ?_; rintro e w15 ⟨rfl, hw15⟩; have hw15' := hw15.symm; subst hw15'; clear hw15)
    | fail)
  go_ret
  exact ⟨by simp, HB14.out⟩
end Go.Proofs.YtlfeiadgahdgoaaGreatDoor
namespace Go.Proofs.YtlfeiadgahdgoaaGreatDoor
open Go.RowKit Go.Shelf Go.Lib
theorem cellsU_pt (us : List (Int × Nat × Nat)) : ∀ (k : Nat) (h : k < us.length), (cellsU us)[k * 3]? = some (.int .i64 us[k].1) := by
  induction us with
  | nil => intro k h; simp at h
  | cons u l ih =>
    intro k h
    have e : cellsU (u :: l) = .int .i64 u.1 :: .int .i64 (u.2.1 : Int) :: .int .i64 (u.2.2 : Int) :: cellsU l := rfl
    cases k with
    | zero => rw [e]; simp
    | succ k =>
      have := ih k (by simpa using h)
      rw [e, show (k + 1) * 3 = k * 3 + 1 + 1 + 1 by omega]
      simpa using this
set_option maxRecDepth 10000 in
set_option maxHeartbeats 800000 in
theorem good_ok (s : ByteArray) (hs : s.size ≤ 4194400) (h : entF s.data.toList = none) (w : World) (hQ : SeqAt w) : Calls Tryz.prog 12 #[.string s] w fun e w' => e = .returned (.bool true) ∧ Below w.heap.size w w' := by
  have hg := entG_of h
  have HS := hid0 (usplit_as s s.data.toList rfl hs w hQ)
  have HG2 : Hid (∀ k (h : k < (unitsOf s.data.toList).length), (unitsOf s.data.toList)[k].1 ≠ -1) := hid0 (fun k h => hg.bad _ (List.getElem_mem h))
  have h1 := hg.pos
  have h2 := hg.few
  clear hg h
  generalize unitsOf s.data.toList = us at *
  go_enter Tryz.func12, Tryz.ntmps12
  go_wp2_with (go_at_call 26; refine HS.out.mono ?_; rintro e w1 ⟨g, cap, rfl, ho, hcap, hgl, hge, hb⟩; have HO := hid0 ho; have HB := hid0 hb; clear ho hb)
  go_loopw [4] (fun i wr => ∃ k : Nat, k ≤ us.length ∧ i = .int .i64 (k : Int) ∧ wr = w1) (fun i _ => us.length - (intOf i).toNat)
  case atStart => exact ⟨0, Nat.zero_le _, rfl, rfl⟩
  case round =>
    obtain ⟨k, hk, rfl, rfl⟩ := hrel
    by_cases hlt : k < us.length
    · have hkI : (k : Int) < (us.length : Int) := by omega
      have hk0 : (0 : Int) ≤ (k : Int) := by omega
      have c0 : wr.cell? ⟨g, k * 3, none⟩ = some (.int .i64 us[k].1) := by
        rw [World.ownsRow.cellAt HO.out _ (by omega)]
        exact cellsU_pt us k hlt
      have hne : (us[k].1 == -1) = false := by simpa using HG2.out k hlt
      generalize us[k].1 = p at *
      go_wp2
      go_roundw
      case rel => exact ⟨k + 1, by omega, by go_num, trivial⟩
      case measure => simp [intOf]; omega
    · have hkI : ¬ (k : Int) < (us.length : Int) := by omega
      have q1 : (1 : Int) ≤ (us.length : Int) := by omega
      have q2 : (us.length : Int) ≤ 32 := by omega
      have d1 : decide ((1 : Int) ≤ (us.length : Int)) = true := decide_eq_true q1
      have d2 : decide ((us.length : Int) ≤ 32) = true := decide_eq_true q2
      go_wp2
      go_ret
      exact ⟨rfl, HB.out⟩
end Go.Proofs.YtlfeiadgahdgoaaGreatDoor
namespace Go.Proofs.YtlfeiadgahdgoaaGreatDoor
open Go.RowKit Go.Shelf Go.Lib
theorem str_ne {a b : ByteArray} (h : ¬ a = b) : (a.toList == b.toList) = false := by rw [str_eq]; exact decide_eq_false h
theorem ent_short {l : List UInt8} (h : entF l = none) : l.length ≤ 128 := by
  have hg := entG_of h
  have he := enc_units l l.length 0 (by omega) (Nat.zero_le _) hg.bad
  have h1 := encAll_len ((unitsAt l 0).map (·.1))
  have h2 := hg.few
  have h3 : (unitsAt l 0).length = (unitsOf l).length := rfl
  rw [he] at h1
  simp at h1
  omega
set_option maxRecDepth 20000 in
set_option maxHeartbeats 3200000 in
theorem holds_err (t : ByteArray) (w : World) (HBg : Hid (Calls Tryz.prog 7 #[] w fun e w' => e = .returned (.bool true) ∧ Below w.heap.size w w'))
    (HP : Hid (∀ W, Below w.heap.size w W → Calls Tryz.prog 9 #[.string t] W fun e w' => (∃ (n : Int) (ty : TypeId) (p : Value), e = .returned (.tuple #[.agg #[.slice none 0 0], .int .i64 n, .iface ty p])) ∧ Below W.heap.size W w')) :
    Calls Tryz.prog 5 #[.string t] w fun e w' => e = .returned (.bool true) ∧ Below w.heap.size w w' := by
  go_enter Tryz.func5, Tryz.ntmps5
  go_wp2_with (first
    | (go_at_call 7; refine HBg.out.mono ?_; rintro e w1 ⟨rfl, hb1⟩; have HB1 := hid0 hb1; clear hb1)
    | (go_at_call 9; refine (HP.out _ HB1.out).mono ?_; rintro e w2 ⟨⟨n, ty, p, rfl⟩, hb2⟩; have HB2 := hid0 (Below.later HB1.out hb2); clear hb2)
    | fail)
  go_ret
  exact ⟨rfl, HB2.out.alloc HB2.out.size _⟩
set_option maxRecDepth 20000 in
set_option maxHeartbeats 6400000 in
theorem holds_ok (t : ByteArray) (S : List Sec) (hI : Inv S) (w : World) (HQ : Hid (∀ W, Below w.heap.size w W → SeqAt W)) (HBg : Hid (Calls Tryz.prog 7 #[] w fun e w' => e = .returned (.bool true) ∧ Below w.heap.size w w'))
    (HP : Hid (∀ W, Below w.heap.size w W → Calls Tryz.prog 9 #[.string t] W fun e w' => (∃ a c, e = .returned (.tuple #[.agg #[.slice a S.length c], .int .i64 0, .nilIface]) ∧ XA w' a S) ∧ Below W.heap.size W w')) :
    Calls Tryz.prog 5 #[.string t] w fun e w' => e = .returned (.bool true) ∧ Below w.heap.size w w' := by
  have hlen := hI.len
  have hned := hI.ned
  have HI := hid0 hI
  have HGd : Hid (∀ (x : ByteArray) W, entF x.data.toList = none → Below w.heap.size w W → Calls Tryz.prog 12 #[.string x] W fun e w' => e = .returned (.bool true) ∧ Below W.heap.size W w') := hid0 (fun x W hx hW => good_ok x (by have := ent_short hx; rw [bsize] at this; omega) hx W (HQ.out W hW))
  have HN : Hid (∀ k, k ≤ S.length → nEd (S.take k) ≤ nEd S) := hid0 (fun k _ => by
    have h : nEd S = nEd (S.take k) + nEd (S.drop k) := by
      have e := List.take_append_drop k S
      have h2 : nEd (S.take k ++ S.drop k) = nEd (S.take k) + nEd (S.drop k) := by unfold nEd; rw [List.map_append, List.sum_append]
      rwa [e] at h2
    omega)
  have HN1 : Hid (∀ k (h : k < S.length), nEd (S.take (k + 1)) = nEd (S.take k) + S[k].ed.length) := hid0 (fun k h => nEd_more S k h)
  have HNe : Hid (nEd (S.take S.length) = nEd S) := hid0 (by rw [List.take_length])
  clear hI HQ
  go_enter Tryz.func5, Tryz.ntmps5
  go_wp2_with (first
    | (go_at_call 7; refine HBg.out.mono ?_; rintro e w1 ⟨rfl, hb1⟩; have HB1 := hid0 hb1; clear hb1)
    | (go_at_call 9; refine (HP.out _ HB1.out).mono ?_; rintro e w2 ⟨⟨a, c, rfl, hx⟩, hb2⟩; have HX2 := hid0 hx; have HB2 := hid0 (Below.later HB1.out hb2); clear hx hb2)
    | fail)
  obtain ⟨w3, hw3⟩ : ∃ w3, w3 = w2.alloc (.cells #[.slice a S.length c] 24) := ⟨_, rfl⟩
  have hB3 : Below w2.heap.size w2 w3 := by rw [hw3]; exact (Below.refl _ _).alloc (Nat.le_refl _) _
  have hr3 : w3.heap[w2.heap.size]? = some (.cells #[.slice a S.length c] 24 (0, 0)) := by rw [hw3]; exact heap_alloc_new w2 _
  have hs3 : w3.heap.size = w2.heap.size + 1 := by rw [hw3]; simp
  have HX3 := hid0 (HX2.out.later hB3)
  have HB3 := hid0 (Below.later HB2.out hB3)
  have HC3 : Hid (∀ W, Below w3.heap.size w3 W → W.cell? ⟨w2.heap.size, 0, none⟩ = some (.slice a S.length c)) := hid0 (fun W hW => by rw [cell_of_row _ _ _ _ _ _ ((hW.block w2.heap.size (by omega)).trans hr3)]; rfl)
  rw [← hw3]
  clear hw3 hB3 hr3 HX2 HB2 HP HBg HB1
  generalize w2.heap.size = X at *
  go_loopw [6, 7] (fun ed i wr => ∃ k : Nat, k ≤ S.length ∧ i = .int .i64 (k : Int) ∧ ed = .int .i64 ((nEd (S.take k) : Nat) : Int) ∧ Hid (Below w3.heap.size w3 wr)) (fun _ i _ => S.length - (intOf i).toNat)
  case atStart => exact ⟨0, Nat.zero_le _, rfl, rfl, hid0 (Below.refl _ _)⟩
  case round =>
    obtain ⟨k, hk, rfl, rfl, HB⟩ := hrel
    obtain ⟨wo, hwo⟩ : ∃ wo, wo = wr := ⟨_, rfl⟩
    subst hwo
    have x0 := HC3.out wo HB.out
    have hnk := HN.out k hk
    by_cases hlt : k < S.length
    · have hkI : (k : Int) < (S.length : Int) := by omega
      have hk0 : (0 : Int) ≤ (k : Int) := by omega
      obtain ⟨b, off, ae, ce, rfl, hbl, c0, c1, c2, hed⟩ := (HX3.out.later HB.out).at' k hlt
      have hn1 := HN1.out k hlt
      have hnk1 := HN.out (k + 1) (by omega)
      have hg := HI.out.ok S[k] (List.getElem_mem hlt)
      have HEA := hid0 hed
      have HEn : Hid (∀ e ∈ S[k].ed, entF e.2.data.toList = none) := hid0 hg.ent
      have HLoc : Hid (∀ j (h : j < S.length), j < k → ¬ S[j].loc = S[k].loc) := hid0 (fun j h hj => List.pairwise_iff_getElem.1 HI.out.pw j k h hlt hj)
      have hl2 := tag_two hg.loc
      have hp2 : S[k].par.size ≤ 64 := by
        rcases hg.par with e | e
        · rw [e]; decide
        · exact (tag_two e).2
      have hrt := hg.root
      have b1 := beq_root S[k].loc
      have b2 := beq_nil S[k].par
      have HNx : Hid (((nEd (S.take k) : Nat) : Int) + (S[k].ed.length : Int) = ((nEd (S.take (k + 1)) : Nat) : Int)) := hid0 (by omega)
      have hel : S[k].ed.length ≤ 20000 := by omega
      generalize S[k].loc = lc at *
      generalize S[k].par = pr at *
      generalize S[k].ed = ed at *
      generalize nEd (S.take k) = ne at *
      clear hg hed
      obtain ⟨w4, hw4⟩ : ∃ w4, w4 = wo.alloc (.cells #[.string lc, .string pr, .slice ae ed.length ce] 38) := ⟨_, rfl⟩
      have hB4 : Below wo.heap.size wo w4 := by rw [hw4]; exact (Below.refl _ _).alloc (Nat.le_refl _) _
      have hr4 : w4.heap[wo.heap.size]? = some (.cells #[.string lc, .string pr, .slice ae ed.length ce] 38 (0, 0)) := by rw [hw4]; exact heap_alloc_new wo _
      have hs4 : w4.heap.size = wo.heap.size + 1 := by rw [hw4]; simp
      have HB4 := hid0 (Below.later HB.out hB4)
      have HSc : Hid (∀ W, Below w4.heap.size w4 W → W.cell? ⟨wo.heap.size, 0, none⟩ = some (.string lc) ∧ W.cell? ⟨wo.heap.size, 1, none⟩ = some (.string pr) ∧ W.cell? ⟨wo.heap.size, 2, none⟩ = some (.slice ae ed.length ce) ∧ W.cell? ⟨X, 0, none⟩ = some (.slice (some ⟨b, off, none⟩) S.length c)) := hid0 (fun W hW => by
        have hr := (hW.block wo.heap.size (by omega)).trans hr4
        exact ⟨by rw [cell_of_row _ _ _ _ _ _ hr]; rfl, by rw [cell_of_row _ _ _ _ _ _ hr]; rfl, by rw [cell_of_row _ _ _ _ _ _ hr]; rfl, HC3.out W (Below.later HB4.out hW)⟩)
      have HEA4 := hid0 (HEA.out.later hB4)
      have HF4 := hid0 hw4.symm
      have HXW : Hid (∀ W, Below w4.heap.size w4 W → ∀ j (h : j < S.length), W.cell? ⟨b, off + j * 3, none⟩ = some (.string S[j].loc)) := hid0 (fun W hW j h => by
        obtain ⟨b2, off2, ae2, ce2, e2, _, d0, _⟩ := (HX3.out.later (Below.later HB4.out hW)).at' j h
        injection e2 with e2
        injection e2 with e3 e4
        subst e3 e4
        exact d0)
      have HBW : Hid (∀ W, Below w4.heap.size w4 W → Below w.heap.size w W) := hid0 (fun W hW => Below.later HB3.out (Below.later HB4.out hW))
      clear hw4 hB4 hr4 hs4 HEA
      go_wp2
      rw [HF4.out]
      clear HF4 c0 c1 c2 x0 hbl
      generalize wo.heap.size = Y at *
      go_loopw [9] (fun j wr => ∃ jj : Nat, jj ≤ k ∧ j = .int .i64 (jj : Int) ∧ Hid (Below w4.heap.size w4 wr)) (fun j _ => k - (intOf j).toNat)
      case atStart => exact ⟨0, Nat.zero_le _, rfl, hid0 (Below.refl _ _)⟩
      case round =>
        obtain ⟨jj, hjk, rfl, HBj⟩ := hrel
        obtain ⟨wj, hwj⟩ : ∃ wj, wj = wr := ⟨_, rfl⟩
        subst hwj
        obtain ⟨y0, y1, y2, y3⟩ := HSc.out wj HBj.out
        by_cases hj : jj < k
        · have hjI : (jj : Int) < (k : Int) := by omega
          have hjI0 : (0 : Int) ≤ (jj : Int) := by omega
          have hjS : (jj : Int) < (S.length : Int) := by omega
          have d0 := HXW.out wj HBj.out jj (by omega)
          have hne := str_ne (HLoc.out jj (by omega) hj)
          generalize S[jj].loc = lj at *
          go_wp2
          go_quiet ((fail))
          go_wp2
          go_roundw
          case rel => exact ⟨jj + 1, by omega, by go_num, hid0 (drewN_keeps HBj.out _)⟩
          case measure => simp [intOf]; omega
        · have hjI : ¬ (jj : Int) < (k : Int) := by omega
          have HEj := hid0 (HEA4.out.later HBj.out)
          go_wp2
          go_loopw [10] (fun m wr => ∃ mm : Nat, mm ≤ ed.length ∧ m = .int .i64 (mm : Int) ∧ Hid (Below wj.heap.size wj wr)) (fun m _ => ed.length - (intOf m).toNat)
          case atStart => exact ⟨0, Nat.zero_le _, rfl, hid0 (Below.refl _ _)⟩
          case round =>
            obtain ⟨mm, hmk, rfl, HBm⟩ := hrel
            have HBm2 := hid0 (Below.later HBj.out HBm.out)
            clear y0 y1 y2 y3
            obtain ⟨y0, y1, y2, y3⟩ := HSc.out wr HBm2.out
            by_cases hm : mm < ed.length
            · have hmI : (mm : Int) < (ed.length : Int) := by omega
              have hmI0 : (0 : Int) ≤ (mm : Int) := by omega
              obtain ⟨be, oe, rfl, _, _, d1⟩ := (HEj.out.later HBm.out).at' mm hm
              have HG := hid0 (HGd.out ed[mm].2 wr (HEn.out _ (List.getElem_mem hm)) (HBW.out wr HBm2.out))
              generalize ed[mm].2 = en at *
              go_wp2_with (go_at_call 12; refine HG.out.mono ?_; rintro e w6 ⟨rfl, hb6⟩; have HB6 := hid0 (Below.later HBm.out hb6); clear hb6)
              go_roundw
              case rel => exact ⟨mm + 1, by omega, by go_num, HB6⟩
              case measure => simp [intOf]; omega
            · have hmI : ¬ (mm : Int) < (ed.length : Int) := by omega
              have q1 : ¬ (lc.size : Int) < 2 := by omega
              have q2 : ¬ (64 : Int) < (lc.size : Int) := by omega
              have q3 : ¬ (64 : Int) < (pr.size : Int) := by omega
              have dq1 : decide ((lc.size : Int) < 2) = false := decide_eq_false q1
              have dq2 : decide ((64 : Int) < (lc.size : Int)) = false := decide_eq_false q2
              have dq3 : decide ((64 : Int) < (pr.size : Int)) = false := decide_eq_false q3
              have HEnd : Hid (Below w3.heap.size w3 wr) := hid0 (Below.later HB4.out HBm2.out)
              by_cases hroot : lc = ⟨#[114, 111, 111, 116]⟩
              · rw [decide_eq_true hroot] at b1
                rw [decide_eq_true (hrt hroot)] at b2
                clear hroot hrt
                go_wp2
                go_roundw
                case rel => exact ⟨k + 1, by omega, by go_num, by rw [HNx.out], HEnd⟩
                case measure => simp [intOf]; omega
              · rw [decide_eq_false hroot] at b1
                clear hroot hrt b2
                go_wp2
                go_roundw
                case rel => exact ⟨k + 1, by omega, by go_num, by rw [HNx.out], HEnd⟩
                case measure => simp [intOf]; omega
    · have hkI : ¬ (k : Int) < (S.length : Int) := by omega
      have hkn : nEd (S.take k) = nEd S := by rw [show k = S.length by omega]; exact HNe.out
      rw [hkn]
      have q1 : (S.length : Int) ≤ 500 := by omega
      have q2 : ((nEd S : Nat) : Int) ≤ 20000 := by omega
      have d1 : decide ((S.length : Int) ≤ 500) = true := decide_eq_true q1
      have d2 : decide (((nEd S : Nat) : Int) ≤ 20000) = true := decide_eq_true q2
      go_wp2
      go_ret
      exact ⟨rfl, Below.later HB3.out HB.out⟩
theorem bundleHolds_any (A : Nat → Addr) (t : ByteArray) (w : World) (hE : EnvP A w) : Calls Tryz.prog 5 #[.string t] w fun e w' => e = .returned (.bool true) ∧ Below w.heap.size w w' := by
  have HBg := hid0 (begun6_any A w hE)
  by_cases hl : 1048576 < t.size
  · exact holds_err t w HBg (hid0 (fun W hW => (parse_long A t hl W (hE.se.below hW).c2).mono (fun e w' h => ⟨⟨0, _, _, h.1⟩, h.2⟩)))
  · have et : t = strOf t.data.toList := rfl
    have hlen : t.data.toList.length ≤ 1048576 := by rw [bsize]; omega
    have HP : ∀ W, Below w.heap.size w W → Calls Tryz.prog 9 #[.string t] W fun e w' => GoPar A W w' (prsL t.data.toList) e ∧ Below W.heap.size W w' := fun W hW => by
      have hE2 := hE.below hW
      exact parse_any A t.data.toList hlen W hE2.mx hE2.sy hE2.sq hE2.se
    cases hp : prsL t.data.toList with
    | stop n i =>
      refine holds_err t w HBg (hid0 (fun W hW => (HP W hW).mono (fun e w' h => ?_)))
      rw [hp] at h
      exact ⟨⟨(n : Int), _, _, h.1⟩, h.2⟩
    | ok S =>
      refine holds_ok t S (inv_prs hp) w (hid0 (fun W hW => hE.sq.later hW)) HBg (hid0 (fun W hW => (HP W hW).mono (fun e w' h => ?_)))
      rw [hp] at h
      obtain ⟨⟨v, T, hT, hS, rfl⟩, hb⟩ := h
      obtain ⟨a, c, rfl, _⟩ := hS.form
      have hx := hS.xa
      rw [hT] at hx
      have hl2 : T.length = S.length := by rw [← secsO_length, hT]
      rw [hl2]
      exact ⟨⟨a, c, rfl, hx⟩, hb⟩
end Go.Proofs.YtlfeiadgahdgoaaGreatDoor
namespace Go.Proofs.YtlfeiadgahdgoaaGreatDoor
open Go.RowKit Go.Shelf Go.Lib
theorem par_line : ∀ (f : Nat) (S : List Sec) (n m i : Nat) (l : List UInt8), parF f S n l = .stop m i → n + 1 ≤ m ∧ m ≤ n + l.length
  | 0, S, n, m, i, l, h => by rw [parF] at h; cases h
  | f + 1, S, n, m, i, l, h => by
    rw [parF] at h
    cases hs : lineS S (lineB (cutN l)) with
    | stop j =>
      rw [hs] at h
      simp only at h
      injection h with h _
      have hl : l ≠ [] := fun e => by
        subst e
        have e1 : lineB (cutN []) = [] := by decide
        rw [e1] at hs
        unfold lineS at hs
        rw [if_pos rfl] at hs
        cases hs
      have := List.length_pos_iff.2 hl
      omega
    | go S' =>
      rw [hs] at h
      simp only at h
      split at h
      · rename_i hc
        have h1 := par_line f S' (n + 1) m i _ h
        have h2 := cut_short hc
        omega
      · cases h
theorem prs_line {l : List UInt8} {m i : Nat} (h : prsL l = .stop m i) : 1 ≤ m ∧ m ≤ l.length := by
  have := par_line _ [] 0 m i l h
  omega
set_option maxRecDepth 20000 in
set_option maxHeartbeats 3200000 in
theorem again_err (t : ByteArray) (n : Nat) (hn : n ≤ t.size) (hb : decide ((1048576 : Int) < (t.size : Int)) = ((n : Int) == 0)) (w : World) (ty : TypeId) (p : Value) (HBg : Hid (Calls Tryz.prog 7 #[] w fun e w' => e = .returned (.bool true) ∧ Below w.heap.size w w'))
    (HP : Hid (∀ W, Below w.heap.size w W → Calls Tryz.prog 9 #[.string t] W fun e w' => e = .returned (.tuple #[.agg #[.slice none 0 0], .int .i64 (n : Int), .iface ty p]) ∧ Below W.heap.size W w')) :
    Calls Tryz.prog 4 #[.string t] w fun e w' => e = .returned (.bool true) ∧ Below w.heap.size w w' := by
  have q1 : (0 : Int) ≤ (n : Int) := by omega
  have q2 : (n : Int) ≤ (t.size : Int) := by omega
  have d1 : decide ((0 : Int) ≤ (n : Int)) = true := decide_eq_true q1
  have d2 : decide ((n : Int) ≤ (t.size : Int)) = true := decide_eq_true q2
  cases hc : ((n : Int) == 0) with
  | true =>
    rw [hc] at hb
    go_enter Tryz.func4, Tryz.ntmps4
    go_wp2_with (first
      | (go_at_call 7; refine HBg.out.mono ?_; rintro e w1 ⟨rfl, hb1⟩; have HB1 := hid0 hb1; clear hb1)
      | (go_at_call 9; refine (HP.out _ HB1.out).mono ?_; rintro e w2 ⟨rfl, hb2⟩; have HB2 := hid0 (Below.later HB1.out hb2); clear hb2)
      | fail)
    go_ret
    exact ⟨rfl, HB2.out.alloc HB2.out.size _⟩
  | false =>
    rw [hc] at hb
    go_enter Tryz.func4, Tryz.ntmps4
    go_wp2_with (first
      | (go_at_call 7; refine HBg.out.mono ?_; rintro e w1 ⟨rfl, hb1⟩; have HB1 := hid0 hb1; clear hb1)
      | (go_at_call 9; refine (HP.out _ HB1.out).mono ?_; rintro e w2 ⟨rfl, hb2⟩; have HB2 := hid0 (Below.later HB1.out hb2); clear hb2)
      | fail)
    go_ret
    exact ⟨rfl, HB2.out.alloc HB2.out.size _⟩
set_option maxRecDepth 20000 in
set_option maxHeartbeats 3200000 in
theorem again_ok (A : Nat → Addr) (t : ByteArray) (S : List Sec) (hI : Inv S) (w : World) (hE : EnvP A w) (HBg : Hid (Calls Tryz.prog 7 #[] w fun e w' => e = .returned (.bool true) ∧ Below w.heap.size w w'))
    (HP : Hid (∀ W, Below w.heap.size w W → Calls Tryz.prog 9 #[.string t] W fun e w' => (∃ a c, S.length ≤ c ∧ e = .returned (.tuple #[.agg #[.slice a S.length c], .int .i64 0, .nilIface]) ∧ XA w' a S) ∧ Below W.heap.size W w')) :
    Calls Tryz.prog 4 #[.string t] w fun e w' => e = .returned (.bool true) ∧ Below w.heap.size w w' := by
  have hel : ∀ s ∈ S, s.ed.length ≤ 20000 := fun s hs => by
    obtain ⟨k, hk, rfl⟩ := List.getElem_of_mem hs
    have h1 := nEd_more S k hk
    have h2 : nEd S = nEd (S.take (k + 1)) + nEd (S.drop (k + 1)) := by
      have e := List.take_append_drop (k + 1) S
      have h3 : nEd (S.take (k + 1) ++ S.drop (k + 1)) = nEd (S.take (k + 1)) + nEd (S.drop (k + 1)) := by unfold nEd; rw [List.map_append, List.sum_append]
      rwa [e] at h3
    have := hI.ned
    omega
  have hen : ∀ s ∈ S, ∀ e ∈ s.ed, e.2.size ≤ 128 := fun s hs e he => by
    have := ent_short ((hI.ok s hs).ent e he)
    rw [bsize] at this
    exact this
  have hchk := inv_chk hI
  have HCk : Hid (∀ W a c, S.length ≤ c → Below w.heap.size w W → XA W a S → Calls Tryz.prog 11 #[.agg #[.slice a S.length c]] W fun e w' => e = .returned .nilIface ∧ Below W.heap.size W w') := hid0 (fun W a c hc hW hx => by
    have hE2 := hE.below hW
    have h := check_any entE A S a c W hc (fun s hs => Nat.le_trans (hel s hs) (by decide)) hE2.mx hE2.se hx (fun s hs e he => Nat.le_trans (hen s hs e he) (by decide)) (fun x W' hx' hW' => entry_any A x W' hx' (hE2.sq.later hW') (hE2.se.below hW'))
    rw [hchk] at h
    exact h)
  have HPr : Hid (∀ W a c, S.length ≤ c → Below w.heap.size w W → XA W a S → Calls Tryz.prog 8 #[.agg #[.slice a S.length c]] W fun e w' => e = .returned (.tuple #[.string (strOf (prtF S).2), errO A (prtF S).1]) ∧ Below W.heap.size W w') := hid0 (fun W a c hc hW hx => by
    have hE2 := hE.below hW
    exact print_any A S a c W hc (fun s hs => Nat.le_trans (hel s hs) (by decide)) (fun s hs e he => Nat.le_trans (hen s hs e he) (by decide)) hE2.mx hE2.sq hE2.dt hE2.se hx)
  have HP2 : Hid (∀ W, Below w.heap.size w W → (prB S).length ≤ 1048576 → Calls Tryz.prog 9 #[.string (strOf (prB S))] W fun e w' => (∃ a c, e = .returned (.tuple #[.agg #[.slice a S.length c], .int .i64 0, .nilIface]) ∧ XA w' a S) ∧ Below W.heap.size W w') := hid0 (fun W hW hl => by
    have hE2 := hE.below hW
    refine (parse_any A (prB S) hl W hE2.mx hE2.sy hE2.sq hE2.se).mono (fun e w' h => ?_)
    rw [prs_prB hI] at h
    obtain ⟨⟨v, T, hT, hS, rfl⟩, hb⟩ := h
    obtain ⟨a, c, rfl, _⟩ := hS.form
    have hx := hS.xa
    rw [hT] at hx
    have hl2 : T.length = S.length := by rw [← secsO_length, hT]
    rw [hl2]
    exact ⟨⟨a, c, rfl, hx⟩, hb⟩)
  have HSm : Hid (∀ W a b ca cb, XA W a S → XA W b S → Calls Tryz.prog 10 #[.agg #[.slice a S.length ca], .agg #[.slice b S.length cb]] W fun e w' => e = .returned (.bool true) ∧ Below W.heap.size W w') := hid0 (fun W a b ca cb h1 h2 => sameBundle_any S a b ca cb W (by have := hI.len; omega) (fun s hs => Nat.le_trans (hel s hs) (by decide)) h1 h2)
  have HSe : Hid (∀ W, Below w.heap.size w W → Sents W A) := hid0 (fun W hW => hE.se.below hW)
  have hprt : prtF S = if 1048576 < (prB S).length then (some 2, []) else (none, prB S) := by unfold prtF; rw [hchk]
  have hlen := hI.len
  have M1 : Hid True := trivial
  clear hchk hE hel hen hI
  by_cases hlong : 1048576 < (prB S).length
  · rw [if_pos hlong] at hprt
    rw [hprt] at HPr
    simp only [errO] at HPr
    have e0 : strOf [] = (⟨#[]⟩ : ByteArray) := rfl
    rw [e0] at HPr
    clear hprt HP2 HSm hlong
    go_enter Tryz.func4, Tryz.ntmps4
    go_wp2_with (first
      | (go_at_call 7; refine HBg.out.mono ?_; rintro e w1 ⟨rfl, hb1⟩; have HB1 := hid0 hb1; clear hb1)
      | (go_at_call 9; refine (HP.out _ HB1.out).mono ?_; rintro e w2 ⟨⟨a, c, hc, rfl, hx⟩, hb2⟩; have HB2 := hid0 (Below.later HB1.out hb2); have HX2 := hid0 hx; have hB3 : Below w2.heap.size w2 (w2.alloc (.cells #[.slice a S.length c] 24)) := (Below.refl _ _).alloc (Nat.le_refl _) _; have HX3 := hid0 (hx.later hB3); have HB3 := hid0 (Below.later HB2.out hB3); have HR3 : Hid (∀ W, Below (w2.alloc (.cells #[.slice a S.length c] 24)).heap.size (w2.alloc (.cells #[.slice a S.length c] 24)) W → W.cell? ⟨w2.heap.size, 0, none⟩ = some (.slice a S.length c)) := hid0 (fun W hW => by rw [cell_of_row _ _ _ _ _ _ ((hW.block w2.heap.size (by simp)).trans (heap_alloc_new w2 _))]; rfl); clear hx hb2 hB3)
      | (go_at_call 11; refine (HCk.out _ _ _ hc HB3.out HX3.out).mono ?_; rintro e w4 ⟨rfl, hb4⟩; have r4 := HR3.out w4 hb4; have HB4 := hid0 (Below.later HB3.out hb4); have HX4 := hid0 (HX3.out.later hb4); clear hb4)
      | (go_at_call 8; refine (HPr.out _ _ _ hc HB4.out HX4.out).mono ?_; rintro e w5 ⟨rfl, hb5⟩; have HB5 := hid0 (Below.later HB4.out hb5); have s5 := (HSe.out _ HB5.out).c2; have s6 := (HSe.out _ HB5.out).eql 2 2 (by decide) (by decide); clear hb5)
      | fail)
    go_ret
    exact ⟨rfl, HB5.out⟩
  · rw [if_neg hlong] at hprt
    rw [hprt] at HPr
    simp only [errO] at HPr
    have HP3 := hid0 (fun W hW => HP2.out W hW (by omega))
    generalize strOf (prB S) = TX at *
    clear hprt hlong HP2 HSe
    go_enter Tryz.func4, Tryz.ntmps4
    go_wp2_with (first
      | (go_at_call 7; refine HBg.out.mono ?_; rintro e w1 ⟨rfl, hb1⟩; have HB1 := hid0 hb1; clear hb1)
      | (go_at_call 9; clear M1; refine (HP.out _ HB1.out).mono ?_; rintro e w2 ⟨⟨a, c, hc, rfl, hx⟩, hb2⟩; have HB2 := hid0 (Below.later HB1.out hb2); have HX2 := hid0 hx; have hB3 : Below w2.heap.size w2 (w2.alloc (.cells #[.slice a S.length c] 24)) := (Below.refl _ _).alloc (Nat.le_refl _) _; have HX3 := hid0 (hx.later hB3); have HB3 := hid0 (Below.later HB2.out hB3); have HR3 : Hid (∀ W, Below (w2.alloc (.cells #[.slice a S.length c] 24)).heap.size (w2.alloc (.cells #[.slice a S.length c] 24)) W → W.cell? ⟨w2.heap.size, 0, none⟩ = some (.slice a S.length c)) := hid0 (fun W hW => by rw [cell_of_row _ _ _ _ _ _ ((hW.block w2.heap.size (by simp)).trans (heap_alloc_new w2 _))]; rfl); clear hx hb2 hB3)
      | (go_at_call 11; refine (HCk.out _ _ _ hc HB3.out HX3.out).mono ?_; rintro e w4 ⟨rfl, hb4⟩; have r4 := HR3.out w4 hb4; have HB4 := hid0 (Below.later HB3.out hb4); have HX4 := hid0 (HX3.out.later hb4); have HB4a := hid0 hb4; clear hb4)
      | (go_at_call 8; refine (HPr.out _ _ _ hc HB4.out HX4.out).mono ?_; rintro e w5 ⟨rfl, hb5⟩; have HB5 := hid0 (Below.later HB4.out hb5); have HX5 := hid0 (HX4.out.later hb5); have HB5a := hid0 (Below.later HB4a.out hb5); clear hb5)
      | (go_at_call 9; refine (HP3.out _ HB5.out).mono ?_; rintro e w6 ⟨⟨a6, c6, rfl, hx6⟩, hb6⟩; have hB7 : Below w6.heap.size w6 (w6.alloc (.cells #[.slice a6 S.length c6] 24)) := (Below.refl _ _).alloc (Nat.le_refl _) _; have r7 := HR3.out _ (Below.later (Below.later HB5a.out hb6) hB7); have HX7 := hid0 ((HX5.out.later hb6).later hB7); have HY7 := hid0 (hx6.later hB7); have HB7 := hid0 (Below.later (Below.later HB5.out hb6) hB7); clear hx6 hb6 hB7)
      | (go_at_call 10; refine (HSm.out _ _ _ _ _ HX7.out HY7.out).mono ?_; rintro e w8 ⟨rfl, hb8⟩; have HB8 := hid0 (Below.later HB7.out hb8); clear hb8)
      | fail)
    go_ret
    exact ⟨rfl, HB8.out⟩
theorem bundleAgain_any (A : Nat → Addr) (t : ByteArray) (w : World) (hE : EnvP A w) : Calls Tryz.prog 4 #[.string t] w fun e w' => e = .returned (.bool true) ∧ Below w.heap.size w w' := by
  have HBg := hid0 (begun6_any A w hE)
  by_cases hl : 1048576 < t.size
  · exact again_err t 0 (Nat.zero_le _) (by rw [decide_eq_true (by omega)]; rfl) w _ _ HBg (hid0 (fun W hW => parse_long A t hl W (hE.se.below hW).c2))
  · have hlen : t.data.toList.length ≤ 1048576 := by rw [bsize]; omega
    have HP : ∀ W, Below w.heap.size w W → Calls Tryz.prog 9 #[.string t] W fun e w' => GoPar A W w' (prsL t.data.toList) e ∧ Below W.heap.size W w' := fun W hW => by
      have hE2 := hE.below hW
      exact parse_any A t.data.toList hlen W hE2.mx hE2.sy hE2.sq hE2.se
    cases hp : prsL t.data.toList with
    | stop n i =>
      have hn := prs_line hp
      rw [bsize] at hn
      refine again_err t n hn.2 (by rw [decide_eq_false (by omega)]; exact (beq_eq_false_iff_ne.2 (by omega)).symm) w 216 (.pointer (some (A i))) HBg (hid0 (fun W hW => (HP W hW).mono (fun e w' h => ?_)))
      rw [hp] at h
      exact h
    | ok S =>
      refine again_ok A t S (inv_prs hp) w hE HBg (hid0 (fun W hW => (HP W hW).mono (fun e w' h => ?_)))
      rw [hp] at h
      obtain ⟨⟨v, T, hT, hS, rfl⟩, hb⟩ := h
      obtain ⟨a, c, rfl, hc⟩ := hS.form
      have hx := hS.xa
      rw [hT] at hx
      have hl2 : T.length = S.length := by rw [← secsO_length, hT]
      rw [hl2] at hc ⊢
      exact ⟨⟨a, c, hc, rfl, hx⟩, hb⟩
end Go.Proofs.YtlfeiadgahdgoaaGreatDoor
namespace Go.Proofs.YtlfeiadgahdgoaaGreatDoor
open Go.RowKit Go.Shelf Go.Lib
theorem line_sent {S : List Sec} {t : List UInt8} {i : Nat} (h : lineS S t = .stop i) : isSent i = true := by
  unfold lineS headS parS edS at h
  repeat' split at h
  all_goals first | (injection h with h; subst h; rfl) | cases h
theorem par_sent : ∀ (f : Nat) (S : List Sec) (n m i : Nat) (l : List UInt8), parF f S n l = .stop m i → isSent i = true
  | 0, S, n, m, i, l, h => by rw [parF] at h; cases h
  | f + 1, S, n, m, i, l, h => by
    rw [parF] at h
    cases hs : lineS S (lineB (cutN l)) with
    | stop j =>
      rw [hs] at h
      simp only at h
      injection h with _ h
      subst h
      exact line_sent hs
    | go S' =>
      rw [hs] at h
      simp only at h
      split at h
      · exact par_sent f S' (n + 1) m i _ h
      · cases h
theorem inv_ed {S : List Sec} (hI : Inv S) : ∀ s ∈ S, s.ed.length ≤ 20000 := fun s hs => by
  obtain ⟨k, hk, rfl⟩ := List.getElem_of_mem hs
  have h1 := nEd_step S k hk
  have h2 := nEd_take S (k + 1)
  have := hI.ned
  omega
theorem bundleParses_any (A : Nat → Addr) (t : ByteArray) (w : World) (hE : EnvP A w) (h6 : Sent6 w A) :
    Calls Tryz.prog 6 #[.string t] w fun e w' => e = .returned (.bool true) ∧ Below w.heap.size w w' := by
  have HO : Hid (∀ W, Below w.heap.size w W → Calls Tryz.prog 9 #[.string otT] W fun e w' => (∃ v T, secsO T = otS ∧ WB w' W.heap.size v T ∧ e = .returned (.tuple #[.agg #[v], .int .i64 0, .nilIface])) ∧ Below W.heap.size W w') := hid0 (fun W hW => by
    have hE2 := hE.below hW
    refine (parse_any A otT.data.toList (by decide) W hE2.mx hE2.sy hE2.sq hE2.se).mono (fun e w' h => ?_)
    rw [ot_prs] at h
    obtain ⟨⟨v, T, hT, hS, rfl⟩, hb⟩ := h
    exact ⟨⟨v, T, hT, hS.wb, rfl⟩, hb⟩)
  by_cases hlong : 1048576 < t.size
  · refine bundleParses_core t [] 0 3 (.iface 216 (.pointer (some (A 2)))) w (by simp) (by simp) (hid0 (fun W hW => ?_)) HO (hid0 (fun W => ?_)) (hid0 (fun W hW => ?_))
    · refine (parse_long A t hlong W (hE.below hW).se.c2).mono ?_
      rintro e w' ⟨rfl, hb⟩
      exact ⟨⟨_, [], rfl, WB.nil _ _, rfl⟩, hb⟩
    · refine (refParse_long t hlong W).mono ?_
      rintro e w' ⟨h, hb⟩
      have h2 : e = .returned (.tuple #[.agg #[.slice none 0 0], .int .i64 ((0 : Nat) : Int), .int .i64 ((3 : Nat) : Int)]) := h
      exact ⟨⟨_, [], rfl, WB.nil _ _, h2⟩, hb⟩
    · exact num6_at W A (h6.below hW) 2 rfl
  · have hl : t.data.toList.length ≤ 1048576 := by rw [bsize]; omega
    have hPa : ∀ W, Below w.heap.size w W → Calls Tryz.prog 9 #[.string t] W fun e w' => GoPar A W w' (prsL t.data.toList) e ∧ Below W.heap.size W w' := fun W hW => by
      have hE2 := hE.below hW
      exact parse_any A t.data.toList hl W hE2.mx hE2.sy hE2.sq hE2.se
    have hRa := fun W => refParse_any t (by omega) W
    cases hp : prsL t.data.toList with
    | ok S =>
      rw [hp] at hPa hRa
      have hI := inv_prs hp
      refine bundleParses_core t S 0 0 .nilIface w hI.len (inv_ed hI) (hid0 (fun W hW => ?_)) HO (hid0 (fun W => ?_)) (hid0 (fun W _ => num6_nil W))
      · refine (hPa W hW).mono ?_
        rintro e w' ⟨⟨v, T, hT, hS, rfl⟩, hb⟩
        exact ⟨⟨v, T, hT, hS.wb, rfl⟩, hb⟩
      · refine (hRa W).mono ?_
        rintro e w' ⟨⟨v, T, hT, hS, rfl⟩, hb⟩
        exact ⟨⟨v, T, hT, hS, rfl⟩, hb⟩
    | stop n i =>
      rw [hp] at hPa hRa
      have hi := par_sent _ [] 0 n i _ hp
      refine bundleParses_core t [] n (numS i) (.iface 216 (.pointer (some (A i)))) w (by simp) (by simp) (hid0 (fun W hW => ?_)) HO (hid0 (fun W => ?_)) (hid0 (fun W hW => num6_at W A (h6.below hW) i hi))
      · refine (hPa W hW).mono ?_
        rintro e w' ⟨h, hb⟩
        exact ⟨⟨_, [], rfl, WB.nil _ _, h⟩, hb⟩
      · refine (hRa W).mono ?_
        rintro e w' ⟨h, hb⟩
        exact ⟨⟨_, [], rfl, WB.nil _ _, h⟩, hb⟩
end Go.Proofs.YtlfeiadgahdgoaaGreatDoor
namespace Go.Proofs.YtlfeiadgahdgoaaGreatDoor
open Go.ChangeShapes Go.WideShapes Go.ChangeAt Go.RowKit
theorem own : ownKnob Tryz.prog.godebug = none := by kernel_rfl
/-- The settled world, the listed variables holding what their initialisers lay. -/
def laidWorld (hold : World) : World := { hold with heap := ((((((((((((((((((((((((((((((((hold.heap.modify 0 fun | .cells _ t frozen => .cells #[.iface 216 (.pointer (some ⟨hold.heap.size + 0, 0, none⟩))] t frozen | o => o).modify 1 fun | .cells _ t frozen => .cells #[.iface 216 (.pointer (some ⟨hold.heap.size + 1, 0, none⟩))] t frozen | o => o).modify 2 fun | .cells _ t frozen => .cells #[.iface 216 (.pointer (some ⟨hold.heap.size + 2, 0, none⟩))] t frozen | o => o).modify 3 fun | .cells _ t frozen => .cells #[.iface 216 (.pointer (some ⟨hold.heap.size + 3, 0, none⟩))] t frozen | o => o).modify 4 fun | .cells _ t frozen => .cells #[.iface 216 (.pointer (some ⟨hold.heap.size + 4, 0, none⟩))] t frozen | o => o).modify 5 fun | .cells _ t frozen => .cells #[.iface 216 (.pointer (some ⟨hold.heap.size + 5, 0, none⟩))] t frozen | o => o).modify 6 fun | .cells _ t frozen => .cells #[.iface 216 (.pointer (some ⟨hold.heap.size + 6, 0, none⟩))] t frozen | o => o).modify 7 fun | .cells _ t frozen => .cells #[.iface 216 (.pointer (some ⟨hold.heap.size + 7, 0, none⟩))] t frozen | o => o).modify 8 fun | .cells _ t frozen => .cells #[.iface 216 (.pointer (some ⟨hold.heap.size + 8, 0, none⟩))] t frozen | o => o).modify 9 fun | .cells _ t frozen => .cells #[.iface 216 (.pointer (some ⟨hold.heap.size + 9, 0, none⟩))] t frozen | o => o).modify 10 fun | .cells _ t frozen => .cells #[.iface 216 (.pointer (some ⟨hold.heap.size + 10, 0, none⟩))] t frozen | o => o).modify 12 fun | .cells _ t frozen => .cells #[.int .u64 1, .int .u64 10, .int .u64 100, .int .u64 1000, .int .u64 10000, .int .u64 100000, .int .u64 1000000, .int .u64 10000000, .int .u64 100000000, .int .u64 1000000000, .int .u64 10000000000, .int .u64 100000000000, .int .u64 1000000000000, .int .u64 10000000000000, .int .u64 100000000000000, .int .u64 1000000000000000, .int .u64 10000000000000000, .int .u64 100000000000000000, .int .u64 1000000000000000000, .int .u64 10000000000000000000] t frozen | o => o).modify 13 fun | .cells _ t frozen => .cells (Go.Pinned.utf8FirstZ.map fun n => Value.int .u8 (Int.ofNat n)).toArray t frozen | o => o).modify 14 fun | .cells _ t frozen => .cells #[.int .u8 128, .int .u8 191, .int .u8 160, .int .u8 191, .int .u8 128, .int .u8 159, .int .u8 144, .int .u8 191, .int .u8 128, .int .u8 143, .int .u8 0, .int .u8 0, .int .u8 0, .int .u8 0, .int .u8 0, .int .u8 0, .int .u8 0, .int .u8 0, .int .u8 0, .int .u8 0, .int .u8 0, .int .u8 0, .int .u8 0, .int .u8 0, .int .u8 0, .int .u8 0, .int .u8 0, .int .u8 0, .int .u8 0, .int .u8 0, .int .u8 0, .int .u8 0] t frozen | o => o).modify 15 fun | .cells _ t frozen => .cells #[.int .u8 0, .int .u8 127, .int .u8 0, .int .u8 0, .int .i64 1, .int .u8 0, .int .u8 194, .int .u8 223, .int .u8 128, .int .u8 191, .int .i64 2, .int .u8 192, .int .u8 224, .int .u8 224, .int .u8 160, .int .u8 191, .int .i64 3, .int .u8 224, .int .u8 225, .int .u8 236, .int .u8 128, .int .u8 191, .int .i64 3, .int .u8 224, .int .u8 237, .int .u8 237, .int .u8 128, .int .u8 159, .int .i64 3, .int .u8 224, .int .u8 238, .int .u8 239, .int .u8 128, .int .u8 191, .int .i64 3, .int .u8 224, .int .u8 240, .int .u8 240, .int .u8 144, .int .u8 191, .int .i64 4, .int .u8 240, .int .u8 241, .int .u8 243, .int .u8 128, .int .u8 191, .int .i64 4, .int .u8 240, .int .u8 244, .int .u8 244, .int .u8 128, .int .u8 143, .int .i64 4, .int .u8 240] t frozen | o => o).modify 16 fun | .cells _ t frozen => .cells #[.int .u8 0, .int .u8 1, .int .u8 28, .int .u8 2, .int .u8 29, .int .u8 14, .int .u8 24, .int .u8 3, .int .u8 30, .int .u8 22, .int .u8 20, .int .u8 15, .int .u8 25, .int .u8 17, .int .u8 4, .int .u8 8, .int .u8 31, .int .u8 27, .int .u8 13, .int .u8 23, .int .u8 21, .int .u8 19, .int .u8 16, .int .u8 7, .int .u8 26, .int .u8 12, .int .u8 18, .int .u8 6, .int .u8 11, .int .u8 5, .int .u8 10, .int .u8 9] t frozen | o => o).modify 17 fun | .cells _ t frozen => .cells #[.int .u8 0, .int .u8 1, .int .u8 56, .int .u8 2, .int .u8 57, .int .u8 49, .int .u8 28, .int .u8 3, .int .u8 61, .int .u8 58, .int .u8 42, .int .u8 50, .int .u8 38, .int .u8 29, .int .u8 17, .int .u8 4, .int .u8 62, .int .u8 47, .int .u8 59, .int .u8 36, .int .u8 45, .int .u8 43, .int .u8 51, .int .u8 22, .int .u8 53, .int .u8 39, .int .u8 33, .int .u8 30, .int .u8 24, .int .u8 18, .int .u8 12, .int .u8 5, .int .u8 63, .int .u8 55, .int .u8 48, .int .u8 27, .int .u8 60, .int .u8 41, .int .u8 37, .int .u8 16, .int .u8 46, .int .u8 35, .int .u8 44, .int .u8 21, .int .u8 52, .int .u8 32, .int .u8 23, .int .u8 11, .int .u8 54, .int .u8 26, .int .u8 40, .int .u8 15, .int .u8 34, .int .u8 20, .int .u8 31, .int .u8 10, .int .u8 25, .int .u8 14, .int .u8 19, .int .u8 9, .int .u8 13, .int .u8 8, .int .u8 7, .int .u8 6] t frozen | o => o).modify 19 fun | .cells _ t frozen => .cells #[.iface 216 (.pointer (some ⟨hold.heap.size + 11, 0, none⟩))] t frozen | o => o).modify 20 fun | .cells _ t frozen => .cells #[.iface 216 (.pointer (some ⟨hold.heap.size + 12, 0, none⟩))] t frozen | o => o).push (.cells #[.string ⟨#[97, 98, 111, 118, 101, 32, 97, 32, 108, 105, 109, 105, 116]⟩] 218)).push (.cells #[.string ⟨#[97, 32, 116, 101, 120, 116, 32, 111, 114, 32, 98, 121, 116, 101, 115, 32, 116, 104, 97, 116, 32, 99, 97, 110, 110, 111, 116, 32, 98, 101, 32, 114, 101, 97, 100]⟩] 218)).push (.cells #[.string ⟨#[97, 32, 110, 117, 109, 98, 101, 114, 32, 111, 114, 32, 97, 110, 32, 97, 114, 103, 117, 109, 101, 110, 116, 32, 105, 115, 32, 111, 117, 116, 32, 111, 102, 32, 105, 116, 115, 32, 112, 108, 97, 99, 101]⟩] 218)).push (.cells #[.string ⟨#[115, 111, 109, 101, 116, 104, 105, 110, 103, 32, 105, 115, 32, 109, 105, 115, 115, 105, 110, 103]⟩] 218)).push (.cells #[.string ⟨#[116, 104, 101, 114, 101, 32, 116, 119, 105, 99, 101]⟩] 218)).push (.cells #[.string ⟨#[110, 111, 116, 32, 105, 110, 32, 111, 114, 100, 101, 114]⟩] 218)).push (.cells #[.string ⟨#[110, 111, 116, 32, 116, 104, 101, 114, 101]⟩] 218)).push (.cells #[.string ⟨#[103, 111, 101, 115, 32, 114, 111, 117, 110, 100, 32, 105, 110, 32, 97, 32, 99, 105, 114, 99, 108, 101]⟩] 218)).push (.cells #[.string ⟨#[116, 104, 101, 32, 115, 117, 109, 32, 100, 111, 101, 115, 32, 110, 111, 116, 32, 102, 105, 116]⟩] 218)).push (.cells #[.string ⟨#[110, 111, 116, 32, 116, 104, 101, 32, 111, 110, 101, 32, 102, 111, 114, 109, 32, 116, 104, 97, 116, 32, 105, 115, 32, 119, 114, 105, 116, 116, 101, 110]⟩] 218)).push (.cells #[.string ⟨#[105, 116, 32, 104, 97, 115, 32, 101, 110, 100, 101, 100]⟩] 218)).push (.cells #[.string ⟨#[105, 110, 118, 97, 108, 105, 100, 32, 115, 121, 110, 116, 97, 120]⟩] 218)).push (.cells #[.string ⟨#[118, 97, 108, 117, 101, 32, 111, 117, 116, 32, 111, 102, 32, 114, 97, 110, 103, 101]⟩] 218)) }
set_option maxRecDepth 100000 in
theorem door_shaped (os : Os) (args : Array Value) : ((laidWorld (World.holding Tryz.prog os ⟨#[], #[], []⟩)).forCall (fun _ _ => 0) ⟨#[], args, []⟩).Shaped Tryz.prog :=
  World.shaped_of_RefB (by kernel_rfl) (by kernel_rfl)
/-- An input that fits, at a world that is written out. -/
theorem witness_row_shaped {H : Type} {enc : TypeId × Value → H} {C : Checked} {os : Os} {f : FuncId} {fn : Func} {s : OpenSpec} {conds : List PathCond} {apart : Bool} {laid : List (String × DataW Unit)} (w0 : World) (args : Array Value) (hos : w0.os = os)
    (hsh : (w0.forCall (fun _ _ => 0) ⟨#[], args, []⟩).Shaped C.prog)
    (hok : Input.okWideB C.prog (w0.forCall (fun _ _ => 0) ⟨#[], args, []⟩) f ⟨#[], args, []⟩ = true)
    (hrow : s.preRow enc C.prog fn conds apart laid (w0.forCall (fun _ _ => 0) ⟨#[], args, []⟩).memory args) :
    ∃ (w : World) (tape : Tape) (i : Input), w.os = os ∧ (w.forCall tape i).Shaped C.prog ∧ i.vars = [] ∧ Input.okWide C.prog (w.forCall tape i) .any w.heap.size f i ∧
      s.preRow enc C.prog fn conds apart laid (w.forCall tape i).memory i.args ∧ ({} : Assume).holds C.prog (lone (Frame.enter C.prog f i.args .normal) [] (w.forCall tape i)) :=
  ⟨w0, fun _ _ => 0, ⟨#[], args, []⟩, hos, hsh, (Input.okWide_of_okWideB (base := 0) hok).1, (Input.okWide_of_okWideB hok).2, hrow, by
    simp only [Assume.holds]
    exact ⟨by simp, by simp, by simp, by simp, by simp⟩⟩
theorem laidOut : laidOutB Tryz.prog = true := by kernel_rfl
set_option maxRecDepth 10000 in
/-- The frame of a law of one parameter that answers true, writes nothing that was there, and lists no variable among its readings. -/
theorem law_contract {H : Type} {enc : TypeId × Value → H} {f : FuncId} {fn : Func} {s : ChangeSpec} {t : TypeId} (hp : fn.params = #[t]) (hrt : fn.resultTypes = #[4]) (hvars : s.vars = [])
    (hfn : ∀ (K : Type) (d : DataW K), s.fn K [d] = { results := [.lit (.bool true)], args := [d] }) (hread : Tryz.prog.readableRec t = true) (hrow : t < Tryz.prog.types.size)
    (W : World) (base : Nat) (args : Array Value) (ds gs : List (DataW H)) (before : List MemPlace)
    (hval : ∀ (j : Nat) t v, fn.params[j]? = some t → args[j]? = some v → Value.okWide Tryz.prog W .any base t v)
    (hW : DataW.Whole enc Tryz.prog fn.params.toList s.vars false W args.toList ds gs before)
    (hsz : (DataW.weightsEach Tryz.prog (fn.params.toList ++ s.plain.varTypes Tryz.prog) (ds ++ gs)).all (· ≤ reachBytes) = true)
    (walk : ∀ (v : Value) (d : DataW H) (p : List MemPlace), Value.okWide Tryz.prog W .any base t v → DataW.Trod enc Tryz.prog W 0 (fun _ => true) true t v d p → (∀ x ∈ p, x.block < W.heap.size) → (∀ x ∈ d.weights Tryz.prog t, x ≤ reachBytes) → ds = [d] → gs = [] →
      Calls Tryz.prog f #[v] W fun e W' => e = .returned (.bool true) ∧ Below W.heap.size W W') :
    Calls Tryz.prog f args W fun e W' => ∃ v, e = .returned v ∧ s.post enc Tryz.prog fn false true false false W args v W' := by
  have hW' := hW
  obtain ⟨p, q, hA0, hV, rfl, hfz, hnd⟩ := hW
  have hA : DataW.TrodAll enc Tryz.prog W 0 (fun _ => true) true fn.params.toList args.toList ds p := hA0
  rw [hp] at hA hval hsz
  obtain ⟨v0, vs0, d0, ds0, p0, q0, hargs, rfl, rfl, h0, r0⟩ := trodAll_cons hA
  obtain ⟨rfl, rfl, rfl⟩ := trodAll_nil r0
  obtain rfl : args = #[v0] := by cases args; simp_all
  rw [hvars] at hV
  obtain ⟨rfl, rfl⟩ := trodVars_none hV
  have hlt : ∀ x ∈ p0, x.block < W.heap.size := fun x hx => by have := hW'.lt x (by simpa using hx); simpa using this
  have hw : ∀ x ∈ d0.weights Tryz.prog t, x ≤ reachBytes := fun x hx => by
    have := List.all_eq_true.1 hsz x (DataW.weights_mem_each (j := 0) (by simp) (by simp) x hx)
    simpa using this
  refine (walk v0 d0 p0 (hval 0 t v0 rfl rfl) h0 hlt hw rfl rfl).mono fun e W' ⟨he, hb⟩ => ?_
  subst he
  refine ⟨_, rfl, [d0], [], _, [], p0 ++ [], [], hW', ?_, ?_, ?_, hb.frame _, fun h => by cases h⟩
  · rw [hrt, show ([d0] ++ ([] : List (DataW H))) = [d0] from rfl, hfn]
    exact trodAll_cons_mk (shut_bool Tryz.underlying4 true) trodAll_mk0
  · rw [hp, show ([d0] ++ ([] : List (DataW H))) = [d0] from rfl, hfn]
    exact trodAll_cons_mk (Below.trod laidOut hread hrow h0 hb hlt) trodAll_mk0
  · rw [hvars, show ([d0] ++ ([] : List (DataW H))) = [d0] from rfl, hfn]
    rfl
set_option maxRecDepth 10000 in
/-- The same frame for a law without parameters. -/
theorem law_contract0 {H : Type} {enc : TypeId × Value → H} {f : FuncId} {fn : Func} {s : ChangeSpec} (hp : fn.params = #[]) (hrt : fn.resultTypes = #[4]) (hvars : s.vars = [])
    (hfn : ∀ (K : Type), s.fn K [] = { results := [.lit (.bool true)], args := [] })
    (W : World) (args : Array Value) (ds gs : List (DataW H)) (before : List MemPlace)
    (hW : DataW.Whole enc Tryz.prog fn.params.toList s.vars false W args.toList ds gs before)
    (walk : Calls Tryz.prog f #[] W fun e W' => e = .returned (.bool true) ∧ Below W.heap.size W W') :
    Calls Tryz.prog f args W fun e W' => ∃ v, e = .returned v ∧ s.post enc Tryz.prog fn false true false false W args v W' := by
  have hW' := hW
  obtain ⟨p, q, hA0, hV, rfl, hfz, hnd⟩ := hW
  have hA : DataW.TrodAll enc Tryz.prog W 0 (fun _ => true) true fn.params.toList args.toList ds p := hA0
  rw [hp] at hA
  obtain ⟨hargs, rfl, rfl⟩ := trodAll_nil hA
  obtain rfl : args = #[] := by cases args; simp_all
  rw [hvars] at hV
  obtain ⟨rfl, rfl⟩ := trodVars_none hV
  refine walk.mono fun e W' ⟨he, hb⟩ => ?_
  subst he
  refine ⟨_, rfl, [], [], _, [], [], [], hW', ?_, ?_, ?_, hb.frame _, fun h => by cases h⟩
  · rw [hrt, show (([] : List (DataW H)) ++ []) = [] from rfl, hfn]
    exact trodAll_cons_mk (shut_bool Tryz.underlying4 true) trodAll_mk0
  · rw [hp, show (([] : List (DataW H)) ++ []) = [] from rfl, hfn]
    exact trodAll_mk0
  · rw [hvars, show (([] : List (DataW H)) ++ []) = [] from rfl, hfn]
    rfl
end Go.Proofs.YtlfeiadgahdgoaaGreatDoor
namespace Go.Proofs.YtlfeiadgahdgoaaGreatDoor
open Go.ChangeShapes Go.WideShapes Go.ChangeAt Go.RowKit
theorem star : ("*" ++ "errors.errorString" : String) = "*errors.errorString" := by decide
theorem errRow (u : TypeId) (h : Tryz.prog.typeName? 3 u = some "*errors.errorString") : u = 216 :=
  typeName_ptr_named (nm := "errors.errorString") (by rw [star]; kernel_rfl) (by kernel_rfl) (by decide) u (by rw [star]; exact h)
theorem cellsErr : Tryz.prog.cellsOf 218 = 1 := by kernel_rfl
theorem cellsStr : Tryz.prog.cellsOf 9 = 1 := by kernel_rfl
/-- A listed refusal. -/
def sentRow (x : String × List UInt8) : String × DataW Unit := (x.1, .iface "*errors.errorString" (.ptr (.agg [.lit (.string x.2)])))
set_option maxRecDepth 10000 in
theorem sents_list {W : World} (rest : List (String × DataW Unit)) : ∀ (L : List (String × List UInt8)) (ps : List MemPlace),
    DataW.LaidVars Tryz.prog W (L.map sentRow ++ rest) ps → ps.Nodup →
    (∀ b off, MemPlace.cell b off ∈ ps → (∃ c t, W.heap[b]? = some (.cells c t (0, 0))) ∧ ∀ u v, W.cell? ⟨b, off, none⟩ = some (.iface u v) → Value.okWide Tryz.prog W .any 0 u v) →
    (∀ x ∈ L, ∀ g t, Tryz.prog.globalNamed x.1 = some g → (Tryz.prog.globals[g]?).map (·.type) = some t → t = 27) →
    ∃ xs : List Addr, xs.length = L.length ∧ xs.Nodup ∧ (∀ a ∈ xs, MemPlace.cell a.block a.off ∈ ps ∧ ∃ c t, W.heap[a.block]? = some (.cells c t (0, 0))) ∧
      ∀ i (h : i < L.length) g, Tryz.prog.globalNamed (L[i]).1 = some g → W.cell? ⟨g, 0, none⟩ = some (.iface 216 (.pointer (some (xs.getD i ⟨0, 0, none⟩)))) := by
  intro L
  induction L with
  | nil => intro ps _ _ _ _; exact ⟨[], rfl, List.nodup_nil, (fun a h => by cases h), fun i h => absurd h (Nat.not_lt_zero _)⟩
  | cons x L ih =>
    intro ps hl hnd hrows hty
    obtain ⟨g0, t0, cs0, f0, p0, q0, hg0, ht0, hv0, hd0, hl', rfl⟩ := hl
    obtain rfl := hty x List.mem_cons_self g0 t0 hg0 ht0
    obtain ⟨l0⟩ := cs0
    have ok0 : ∀ u v, l0 = [.iface u v] → Value.okWide Tryz.prog W .any 0 u v := fun u v e => by
      subst e
      exact (hrows g0 0 (by simp [MemPlace.row])).2 u v (by simpa using World.var?_cell hg0 hv0 0)
    obtain ⟨a, s, rfl, _, _, _, rfl⟩ := errorString_of_trod Tryz.underlying27 errRow Tryz.underlying216 Tryz.underlying218 rfl rfl Tryz.underlying9 cellsErr cellsStr hd0 ok0
    have hnd1 := List.nodup_append.1 hnd
    obtain ⟨xs, h1, h2, h3, h4⟩ := ih q0 hl' hnd1.2.1 (fun b off hb => hrows b off (List.mem_append_right _ hb)) (fun y hy => hty y (List.mem_cons_of_mem _ hy))
    have hmem : MemPlace.cell a.block a.off ∈ MemPlace.row ⟨g0, 0, none⟩ (#[Value.iface 216 (.pointer (some a))] : Array Value).size ++ MemPlace.row a 1 := by simp [MemPlace.row]
    refine ⟨a :: xs, by simp [h1], List.nodup_cons.2 ⟨fun hin => ?_, h2⟩, fun b hb => ?_, fun i hi g hg => ?_⟩
    · exact (hnd1.2.2 _ hmem _ (h3 a hin).1) rfl
    · rcases List.mem_cons.1 hb with rfl | hb
      · exact ⟨List.mem_append_left _ hmem, (hrows _ _ (List.mem_append_left _ hmem)).1⟩
      · exact ⟨List.mem_append_right _ (h3 b hb).1, (h3 b hb).2⟩
    · cases i with
      | zero =>
        have e : g = g0 := Option.some.inj (hg.symm.trans hg0)
        subst e
        simpa using World.var?_cell hg0 hv0 0
      | succ i => exact h4 i (by simpa using hi) g hg
/-- The text of a listed refusal. -/
def sentText : DataW Unit → List UInt8
  | .iface _ (.ptr (.agg [.lit (.string s)])) => s
  | _ => []
def sentList : List (String × List UInt8) := [("caesura/api.ErrArg", sentText Rows.laid_caesura_api_ErrArg), ("caesura/api.ErrText", sentText Rows.laid_caesura_api_ErrText), ("caesura/api.ErrMany", sentText Rows.laid_caesura_api_ErrMany), ("caesura/api.ErrShort", sentText Rows.laid_caesura_api_ErrShort), ("caesura/api.ErrTwice", sentText Rows.laid_caesura_api_ErrTwice), ("caesura/api.ErrLost", sentText Rows.laid_caesura_api_ErrLost), ("caesura/api.ErrOrder", sentText Rows.laid_caesura_api_ErrOrder), ("caesura/api.ErrCycle", sentText Rows.laid_caesura_api_ErrCycle), ("caesura/api.ErrSum", sentText Rows.laid_caesura_api_ErrSum), ("caesura/api.ErrForm", sentText Rows.laid_caesura_api_ErrForm), ("caesura/api.ErrEnd", sentText Rows.laid_caesura_api_ErrEnd)]
theorem sentTypes : ∀ x ∈ sentList, ∀ g t, Tryz.prog.globalNamed x.1 = some g → (Tryz.prog.globals[g]?).map (·.type) = some t → t = 27 := by
  have h : (sentList.all fun x => match Tryz.prog.globalNamed x.1 with | some g => (Tryz.prog.globals[g]?).map (·.type) == some 27 | none => true) = true := by kernel_rfl
  intro x hx g t hg ht
  have := List.all_eq_true.1 h x hx
  rw [hg] at this
  simp only [ht] at this
  simpa using this
theorem g_ErrArg : Tryz.prog.globalNamed "caesura/api.ErrArg" = some 2 := by kernel_rfl
theorem g_ErrText : Tryz.prog.globalNamed "caesura/api.ErrText" = some 1 := by kernel_rfl
theorem g_ErrMany : Tryz.prog.globalNamed "caesura/api.ErrMany" = some 0 := by kernel_rfl
theorem g_ErrShort : Tryz.prog.globalNamed "caesura/api.ErrShort" = some 3 := by kernel_rfl
theorem g_ErrTwice : Tryz.prog.globalNamed "caesura/api.ErrTwice" = some 4 := by kernel_rfl
theorem g_ErrLost : Tryz.prog.globalNamed "caesura/api.ErrLost" = some 6 := by kernel_rfl
theorem g_ErrOrder : Tryz.prog.globalNamed "caesura/api.ErrOrder" = some 5 := by kernel_rfl
theorem g_ErrCycle : Tryz.prog.globalNamed "caesura/api.ErrCycle" = some 7 := by kernel_rfl
theorem g_ErrSum : Tryz.prog.globalNamed "caesura/api.ErrSum" = some 8 := by kernel_rfl
theorem g_ErrForm : Tryz.prog.globalNamed "caesura/api.ErrForm" = some 9 := by kernel_rfl
theorem g_ErrEnd : Tryz.prog.globalNamed "caesura/api.ErrEnd" = some 10 := by kernel_rfl
def sentList5 : List (String × List UInt8) := [("caesura/api.ErrArg", sentText Rows.laid_caesura_api_ErrArg), ("caesura/api.ErrText", sentText Rows.laid_caesura_api_ErrText), ("caesura/api.ErrMany", sentText Rows.laid_caesura_api_ErrMany), ("caesura/api.ErrTwice", sentText Rows.laid_caesura_api_ErrTwice), ("caesura/api.ErrOrder", sentText Rows.laid_caesura_api_ErrOrder)]
theorem sentIn5 : ∀ x ∈ sentList5, x ∈ sentList := by
  intro x hx
  simp only [sentList5, List.mem_cons, List.not_mem_nil, or_false] at hx
  simp only [sentList, List.mem_cons, List.not_mem_nil, or_false]
  rcases hx with rfl | rfl | rfl | rfl | rfl <;> simp
def idx5 (i : Nat) : Nat := [0, 1, 2, 0, 3, 0, 4].getD i 0
theorem sent_cases {i : Nat} (h : isSent i = true) : i = 0 ∨ i = 1 ∨ i = 2 ∨ i = 4 ∨ i = 6 := by
  simp only [isSent, Bool.or_eq_true, beq_iff_eq] at h
  omega
theorem sents5_of {W : World} {rest : List (String × DataW Unit)} (h : laidMet Tryz.prog (sentList5.map sentRow ++ rest) W) : ∃ A, Sents W A := by
  obtain ⟨ps, hl, hnd, hrows⟩ := h
  obtain ⟨xs, h1, h2, h3, h4⟩ := sents_list rest sentList5 ps hl hnd hrows (fun x hx => sentTypes x (sentIn5 x hx))
  have h5 : xs.length = 5 := h1
  have hlt : ∀ i, isSent i = true → idx5 i < xs.length := fun i hi => by rcases sent_cases hi with rfl | rfl | rfl | rfl | rfl <;> simp [idx5, h5]
  refine ⟨fun i => xs.getD (idx5 i) ⟨0, 0, none⟩, h4 0 (by decide) _ g_ErrArg, h4 1 (by decide) _ g_ErrText, h4 2 (by decide) _ g_ErrMany, h4 3 (by decide) _ g_ErrTwice, h4 4 (by decide) _ g_ErrOrder, fun i j hi hj hij e => ?_, fun i hi => ?_⟩
  · have hi' := hlt i hi
    have hj' := hlt j hj
    simp only [List.getD_eq_getElem?_getD, List.getElem?_eq_getElem hi', List.getElem?_eq_getElem hj', Option.getD_some] at e
    have e2 := (List.getElem_inj h2).1 e
    rcases sent_cases hi with rfl | rfl | rfl | rfl | rfl <;> rcases sent_cases hj with rfl | rfl | rfl | rfl | rfl <;> first | exact hij rfl | (revert e2; decide)
  · have hi' := hlt i hi
    simp only [List.getD_eq_getElem?_getD, List.getElem?_eq_getElem hi', Option.getD_some]
    exact (h3 _ (List.getElem_mem hi')).2
theorem g_Syn : Tryz.prog.globalNamed "strconv.ErrSyntax" = some 19 := by kernel_rfl
theorem synTypes : ∀ x ∈ [("strconv.ErrSyntax", sentText Rows.laid_strconv_ErrSyntax)], ∀ g t, Tryz.prog.globalNamed x.1 = some g → (Tryz.prog.globals[g]?).map (·.type) = some t → t = 27 := by
  have h : ((Tryz.prog.globals[19]?).map (·.type)) = some 27 := by kernel_rfl
  intro x hx g t hg ht
  rw [List.mem_singleton] at hx
  subst hx
  have e : g = 19 := Option.some.inj (hg.symm.trans g_Syn)
  subst e
  exact Option.some.inj (ht.symm.trans h)
theorem syn_of {W : World} {rest : List (String × DataW Unit)} (h : laidMet Tryz.prog (("strconv.ErrSyntax", Rows.laid_strconv_ErrSyntax) :: rest) W) : ∃ ev, W.cell? ⟨19, 0, none⟩ = some ev ∧ (ev = .nilIface ∨ ∃ te pe, ev = .iface te pe) := by
  obtain ⟨ps, hl, hnd, hrows⟩ := h
  obtain ⟨xs, _, _, _, h4⟩ := sents_list rest [("strconv.ErrSyntax", sentText Rows.laid_strconv_ErrSyntax)] ps hl hnd hrows synTypes
  exact ⟨_, h4 0 (by decide) _ g_Syn, .inr ⟨_, _, rfl⟩⟩
end Go.Proofs.YtlfeiadgahdgoaaGreatDoor
namespace Go.Proofs.YtlfeiadgahdgoaaGreatDoor
open Go.ChangeShapes Go.WideShapes Go.ChangeAt Go.RowKit Go.Joins
theorem array_of {H : Type} {enc : TypeId × Value → H} {P : Program} {w : World} {base : Nat} {sp : Nat → Bool} {held : Bool} {fuel : Nat} {t e : TypeId} {n m : Nat} {cs : List Value} {ds : List (DataW H)} {p : List MemPlace}
    (ht : P.underlying t = some (.array n e)) (hce : P.cellsOf e = m) (h : DataW.trod enc P w base sp held fuel t cs = some (.agg ds, p)) (i : Nat) (hi : i < n) :
    ∃ fuel' d q, ds[i]? = some d ∧ DataW.trod enc P w base sp held fuel' e ((cs.drop (i * m)).take m) = some (d, q) := by
  cases fuel with
  | zero => simp [DataW.trod] at h
  | succ fuel =>
    simp only [DataW.trod, ht, hce] at h
    split at h
    · obtain ⟨xs, hm, hx⟩ := Option.map_eq_some_iff.1 h
      obtain ⟨b, hb, hf⟩ := Lib.mapM_at hm i i (by simp [hi])
      have hxs : xs.map (·.1) = ds := by
        have := congrArg Prod.fst hx
        simpa using this
      refine ⟨fuel, b.1, b.2, ?_, hf⟩
      rw [← hxs]
      simp [hb]
    · cases h
theorem struct_of {H : Type} {enc : TypeId × Value → H} {P : Program} {w : World} {base : Nat} {sp : Nat → Bool} {held : Bool} {fuel : Nat} {e : TypeId} {fs : Array Field} {cs : List Value} {ds : List (DataW H)} {p : List MemPlace}
    (he : P.underlying e = some (.struct fs)) (h : DataW.trod enc P w base sp held fuel e cs = some (.agg ds, p)) (k : Nat) (f : Field) (hk : fs.toList[k]? = some f) :
    ∃ fuel' d q, ds[k]? = some d ∧ DataW.trod enc P w base sp held fuel' f.type ((cs.drop f.offset).take (P.cellsOf f.type)) = some (d, q) := by
  cases fuel with
  | zero => simp [DataW.trod] at h
  | succ fuel =>
    simp only [DataW.trod, he] at h
    split at h
    · obtain ⟨xs, hm, hx⟩ := Option.map_eq_some_iff.1 h
      obtain ⟨b, hb, hf⟩ := Lib.mapM_at hm k f hk
      have hxs : xs.map (·.1) = ds := by
        have := congrArg Prod.fst hx
        simpa using this
      refine ⟨fuel, b.1, b.2, ?_, hf⟩
      rw [← hxs]
      simp [hb]
    · cases h
theorem gSeq : Tryz.prog.globalNamed "caesura/units.sequences" = some 15 := by kernel_rfl
theorem gSeqType : (Tryz.prog.globals[15]?).map (·.type) = some 185 := by kernel_rfl
theorem cellsRow : Tryz.prog.cellsOf 141 = 6 := by kernel_rfl
def rowLits {H : Type} (i : Nat) : List (DataW H) := [.lit (.int .u8 (tLo i)), .lit (.int .u8 (tHi i)), .lit (.int .u8 (tLo2 i)), .lit (.int .u8 (tHi2 i)), .lit (.int .i64 (tSz i)), .lit (.int .u8 (tMk i))]
theorem laid_rows : (Rows.laid_caesura_units_sequences : DataW Unit) = .agg ((List.range 9).map fun i => .agg (rowLits i)) := by rfl
theorem one_int {H : Type} {enc : TypeId × Value → H} {P : Program} {w : World} {base : Nat} {sp : Nat → Bool} {held : Bool} {fuel : Nat} {t : TypeId} {k : IntKind} {cs : List Value} {z : Int} {d : DataW H} {q : List MemPlace} (o : Nat)
    (ht : P.underlying t = some (.int k)) (hc : P.cellsOf t = 1) (h : DataW.trod enc P w base sp held fuel t ((cs.drop o).take (P.cellsOf t)) = some (d, q)) (hd : some d = some (.lit (.int k z))) : cs[o]? = some (.int k z) := by
  rw [hc] at h
  obtain ⟨z', hcs, e, _⟩ := DataW.trod_int ht h
  obtain rfl : d = _ := congrArg Prod.fst e
  simp only [Option.some.injEq, DataW.lit.injEq, Lit.int.injEq, true_and] at hd
  subst hd
  have := congrArg (·[0]?) hcs
  simpa [List.getElem?_take, List.getElem?_drop] using this
theorem seqAt_of {W : World} {rest : List (String × DataW Unit)} (h : laidMet Tryz.prog (("caesura/units.sequences", Rows.laid_caesura_units_sequences) :: rest) W) : SeqAt W := by
  obtain ⟨ps, ⟨g', t', cs, fuel, p, q, hg', ht', hvar, hd, _, _⟩, _⟩ := h
  obtain rfl := Option.some.inj (gSeq.symm.trans hg')
  obtain rfl := Option.some.inj (gSeqType.symm.trans ht')
  rw [laid_rows] at hd
  intro i hi k hk
  obtain ⟨f1, d1, q1, hd1, h1⟩ := array_of (m := 6) Tryz.underlying185 cellsRow hd i hi
  have e1 : d1 = .agg (rowLits i) := by simpa [hi] using hd1.symm
  subst e1
  have hc := World.var?_cell gSeq hvar (i * 6 + k)
  rw [hc]
  have key : ((cs.toList.drop (i * 6)).take 6)[k]? = (rowCells i)[k]? := by
    obtain rfl | rfl | rfl | rfl | rfl | rfl : k = 0 ∨ k = 1 ∨ k = 2 ∨ k = 3 ∨ k = 4 ∨ k = 5 := by omega
    · obtain ⟨f2, d2, q2, hd2, h2⟩ := struct_of Tryz.underlying141 h1 0 _ rfl
      exact one_int 0 Tryz.underlying5 (by kernel_rfl) h2 hd2.symm
    · obtain ⟨f2, d2, q2, hd2, h2⟩ := struct_of Tryz.underlying141 h1 1 _ rfl
      exact one_int 1 Tryz.underlying5 (by kernel_rfl) h2 hd2.symm
    · obtain ⟨f2, d2, q2, hd2, h2⟩ := struct_of Tryz.underlying141 h1 2 _ rfl
      exact one_int 2 Tryz.underlying5 (by kernel_rfl) h2 hd2.symm
    · obtain ⟨f2, d2, q2, hd2, h2⟩ := struct_of Tryz.underlying141 h1 3 _ rfl
      exact one_int 3 Tryz.underlying5 (by kernel_rfl) h2 hd2.symm
    · obtain ⟨f2, d2, q2, hd2, h2⟩ := struct_of Tryz.underlying141 h1 4 _ rfl
      exact one_int 4 Tryz.underlying3 (by kernel_rfl) h2 hd2.symm
    · obtain ⟨f2, d2, q2, hd2, h2⟩ := struct_of Tryz.underlying141 h1 5 _ rfl
      exact one_int 5 Tryz.underlying5 (by kernel_rfl) h2 hd2.symm
  rw [← key, List.getElem?_take, if_pos hk, List.getElem?_drop]
  simp
end Go.Proofs.YtlfeiadgahdgoaaGreatDoor
