/-
  BwQW, OwPW, OwLW, Door, SentP, LaidQ, OwP.
-/
import Derived.Test.YtpkfcadihgbleaaGreatDoorMpe
import Derived.Test.YtpkfcadihgbleaaGreatDoorMpd
import Derived.Test.YtpkfcadihgbleaaGreatDoorCards
import Derived.Test.YtpkfcadihgbleaaGreatDoorTie
import Derived.WalkKit
import Derived.ProofKit
import Derived.OpenShut
import Derived.Deep.DeepHandedRow
import Derived.Lib.LaidTab
import Derived.Lib.SmallJoins
import Derived.Test.YtpkfcadihgbleaaGreatDoorMpa
import Derived.Stop.LaidErr
import Derived.Test.YtpkfcadihgbleaaGreatDoorMpb
import Derived.Lib.LaidU8
import Derived.Shelf.Vars
import Derived.Lay
import Derived.LaidMore
import Derived.ChangeSlices
import Derived.Deep.Slices
namespace Go.Proofs.YtpkfcadihgbleaaGreatDoor
open Go.RowKit Go.Shelf Go.Lib
theorem firstN_some (f : Nat → Option Nat) (x : Nat) : ∀ (m i : Nat), firstN f i m = some x → ∃ j, f j = some x
  | 0, _, h => by simp [firstN] at h
  | m + 1, i, h => by
    rw [firstN] at h
    cases hx : f i with
    | some y => rw [hx] at h; exact ⟨i, by rw [hx]; exact h⟩
    | none => rw [hx] at h; exact firstN_some f x m (i + 1) h
theorem chkE_lt {L : List Sec} {i : Nat} (h : chkE entE L = some i) : i < 11 := by
  unfold chkE at h
  split at h
  · cases h; decide
  · obtain ⟨j, hj⟩ := firstN_some _ _ _ _ h
    unfold fSec at hj
    split at hj
    · rw [secE_eq] at hj
      split at hj
      · rename_i hp
        cases hj
        exact secP_lt hp
      · obtain ⟨k, hk⟩ := firstN_some _ _ _ _ hj
        unfold fE at hk
        split at hk
        · exact entF_lt hk
        · cases hk
    · cases hj
theorem refNo_z {i : Nat} (h : i < 11) : (refNo i == 0) = false := by
  have : i = 0 ∨ i = 1 ∨ i = 2 ∨ i = 3 ∨ i = 4 ∨ i = 5 ∨ i = 6 ∨ i = 7 ∨ i = 8 ∨ i = 9 ∨ i = 10 := by omega
  rcases this with rfl | rfl | rfl | rfl | rfl | rfl | rfl | rfl | rfl | rfl | rfl <;> decide
theorem ownB_str {w1 : World} {B n : Nat} {v' : Value} {l : List UInt8} {s : ByteArray} {m : List UInt8} (hn : n = l.length + s.size) (h : w1.ownsRow B 5 1 v' n (cellsB l ++ Lib.strCells s)) (hm : l ++ s.data.toList = m) : OwnB w1 B v' m := by
  subst hm
  unfold OwnB
  rw [List.length_append, bsize, ← hn]
  have e : cellsB (l ++ s.data.toList) = cellsB l ++ Lib.strCells s := by simp [cellsB, Lib.strCells]
  rw [e]
  exact h
theorem app_data (a b : ByteArray) : (a ++ b).data.toList = a.data.toList ++ b.data.toList := by simp
/-- The bytes that are written, in a row of their own. -/
structure QS (w1 wr : World) (v : Value) (l : List UInt8) : Prop where
  own : OwnB wr w1.heap.size v l
  bel : Below w1.heap.size w1 wr
/-- .. and the section that is read. -/
structure QB (w1 wB wr : World) (x : Nat) (v : Value) (l : List UInt8) : Prop where
  own : OwnB wr w1.heap.size v l
  bel : Below w1.heap.size w1 wr
  box : wr.heap[x]? = wB.heap[x]?
theorem own_ne {W : World} {base x : Nat} {v : Value} {l : List UInt8} {c : Array Value} (h : OwnB W base v l) (hx : W.heap[x]? = some (.cells c 30 (0, 0))) : v.ownBlock ≠ some x := by
  intro e
  rcases h.2 with ⟨rfl, _⟩ | ⟨g, cap, cur, rfl, _, hr, _⟩
  · cases e
  · have : g = x := by simpa [Value.ownBlock] using e
    subst this
    rw [hr] at hx
    injection hx with hx
    injection hx with _ h2 _
    exact absurd h2 (by decide)
theorem QB.grow {w1 wB wr w2 : World} {x : Nat} {v v' : Value} {l m : List UInt8} {s : ByteArray} {c : Array Value} (h : QB w1 wB wr x v l) (hx : wB.heap[x]? = some (.cells c 30 (0, 0))) (hown : w2.ownsRow w1.heap.size 5 1 v' (l.length + s.size) (cellsB l ++ Lib.strCells s)) (hg : wr.grownBy w2 v.ownBlock) (hm : l ++ s.data.toList = m) : QB w1 wB w2 x v' m :=
  ⟨ownB_str rfl hown hm, h.bel.grown hg (by have := h.bel.size; omega) (fun k hk => (World.ownsRow.lt h.own k hk).1), (hg.block x (Array.getElem?_eq_some_iff.1 (h.box.trans hx)).1 (fun e => own_ne h.own (h.box.trans hx) e.symm)).trans h.box⟩
theorem QB.later {w1 wB wr w2 : World} {x : Nat} {v : Value} {l : List UInt8} {c : Array Value} (h : QB w1 wB wr x v l) (hx : wB.heap[x]? = some (.cells c 30 (0, 0))) (hb : Below wr.heap.size wr w2) : QB w1 wB w2 x v l := by
  refine ⟨?_, Below.later h.bel hb, (hb.block x (Array.getElem?_eq_some_iff.1 (h.box.trans hx)).1).trans h.box⟩
  have ho := h.own
  rcases ho.2 with h2 | ⟨g, cap, cur, hv, hg, hr, r⟩
  · exact ⟨ho.1, .inl h2⟩
  · exact ⟨ho.1, .inr ⟨g, cap, cur, hv, hg, (hb.block g (Array.getElem?_eq_some_iff.1 hr).1).trans hr, r⟩⟩
theorem wrX_bytes (g We : ByteArray) (e : Bool × ByteArray) (hg : g.data.toList = if e.1 = true then [43, 32] else [45, 32]) (hW : We = strOf (wrE e.2.data.toList)) : (g ++ We ++ ⟨#[10]⟩).data.toList = wrX e := by
  rw [app_data, app_data, hW, strOf_data, hg]
  rfl
set_option maxRecDepth 10000 in
set_option maxHeartbeats 6400000 in
theorem refPrint_any (L : List Sec) (a : Option Addr) (c : Nat) (w : World) (hl : L.length ≤ 1000000) (hb : ∀ s ∈ L, s.ed.length ≤ 1000000000) (hz : ∀ s ∈ L, ∀ e ∈ s.ed, e.2.size ≤ 4194400) (ha : XA w a L) :
    Calls Tryz.prog 26 #[.agg #[.slice a L.length c]] w fun e w' => e = .returned (.tuple #[.string (strOf (prtF L).2), .int .i64 (numO (prtF L).1)]) ∧ Below w.heap.size w w' := by
  obtain ⟨i0, hi, hz0, hz1, hz2⟩ := info_parts infoByte
  obtain ⟨w0, hw0⟩ : ∃ w0, w0 = w.alloc (.cells #[.slice a L.length c] 24) := ⟨_, rfl⟩
  have hB0 : Below w.heap.size w w0 := by rw [hw0]; exact (Below.refl _ _).alloc (Nat.le_refl _) _
  have hs0 : w0.heap.size = w.heap.size + 1 := by rw [hw0]; simp
  have hX0 : w0.heap[w.heap.size]? = some (.cells #[.slice a L.length c] 24 (0, 0)) := by rw [hw0]; exact heap_alloc_new w _
  have HX : Hid (∀ W, Below w0.heap.size w0 W → W.cell? ⟨w.heap.size, 0, none⟩ = some (.slice a L.length c)) := hid0 (fun W hW => by
    have hr := (hW.block w.heap.size (by omega)).trans hX0
    rw [cell_of_row _ _ _ _ _ _ hr]; rfl)
  have HCk := hid0 (refCheck_any L a c w0 hl hb hz (ha.later hB0))
  have HXA : Hid (∀ W, Below w0.heap.size w0 W → XA W a L) := hid0 (fun W hW => (ha.later hB0).later hW)
  have HZ := hid0 hz
  have HB0 := hid0 hB0
  have x0 := HX.out w0 (Below.refl _ _)
  obtain ⟨R, hR⟩ : ∃ R, R = prtF L := ⟨_, rfl⟩
  rw [← hR]
  unfold prtF at hR
  have hf0 := hw0.symm
  clear hw0 hs0 hB0 hX0 ha hb hz
  cases hk : chkE entE L with
  | some i =>
    have hne := refNo_z (chkE_lt hk)
    rw [hk] at HCk hR
    simp only [numO] at HCk
    simp only at hR
    subst hR
    have hse : strOf [] = (⟨#[]⟩ : ByteArray) := rfl
    simp only [numO, hse]
    generalize refNo i = r at *
    go_enter Tryz.func26, Tryz.ntmps26
    go_wp2_with (go_at_call 25; refine HCk.out.mono ?_; rintro e w1 ⟨rfl, hb1⟩; have HB1 := hid0 (Below.later HB0.out hb1); clear hb1)
    go_ret2
    exact ⟨rfl, HB1.out⟩
  | none =>
    rw [hk] at HCk hR
    simp only [numO] at HCk
    simp only at hR
    obtain ⟨h500, h20k, hok⟩ := chk_ok (fun x => rfl) hk
    have HOk := hid0 hok
    have HPl : Hid (∀ k, (prB (L.take k)).length ≤ 4000000) := hid0 (fun k => prB_take h500 h20k hok k)
    have HEd : Hid (∀ s ∈ L, s.ed.length ≤ 20000) := hid0 (fun s hs => Nat.le_trans (ed_le hs) h20k)
    have HR := hid0 hR
    clear hk hok hR
    go_enter Tryz.func26, Tryz.ntmps26
    go_wp2_with (go_at_call 25; refine HCk.out.mono ?_; rintro e w1 ⟨rfl, hb1⟩; have HB1 := hid0 hb1; clear hb1 x0 hf0)
    clear HCk
    go_loopw [5, 6] (fun o i wr => ∃ (k : Nat) (v : Value), k ≤ L.length ∧ i = .int .i64 (k : Int) ∧ v = o ∧ Hid (QS w1 wr v (prB (L.take k)))) (fun _ i _ => L.length - (intOf i).toNat)
    case atStart => exact ⟨0, _, Nat.zero_le _, rfl, rfl, hid0 ⟨World.ownsRow_nil _ _ _ _, Below.refl _ _⟩⟩
    case round =>
      obtain ⟨k, v, hkl, rfl, rfl, HQ⟩ := hrel
      have x0 := HX.out wr (Below.later HB1.out HQ.out.bel)
      by_cases hlt : k < L.length
      · have hkI : (k : Int) < (L.length : Int) := by omega
        have hkI0 : (0 : Int) ≤ (k : Int) := by omega
        obtain ⟨b, off, ae, ce, rfl, hbl, e0, e1, e2, hea⟩ := (HXA.out w1 HB1.out).at' k hlt
        have c0 := (HQ.out.bel.cell (p := ⟨b, off + k * 3, none⟩) hbl).trans e0
        have c1 := (HQ.out.bel.cell (p := ⟨b, off + k * 3 + 1, none⟩) hbl).trans e1
        have c2 := (HQ.out.bel.cell (p := ⟨b, off + k * 3 + 2, none⟩) hbl).trans e2
        have HEA := hid0 hea
        clear e0 e1 e2 hea hbl
        have HMo : Hid (prB (L.take k) ++ secB L[k] = prB (L.take (k + 1))) := hid0 (prB_more L k hlt).symm
        have HLk : Hid ((prB (L.take k)).length ≤ 4000000) := hid0 (HPl.out k)
        have HLm : Hid ((secB L[k]).length ≤ 4000000) := hid0 (by have h1 := HPl.out (k + 1); rw [prB_more L k hlt, List.length_append] at h1; omega)
        have HOk1 := hid0 (HOk.out L[k] (List.getElem_mem hlt))
        have hedk := HEd.out L[k] (List.getElem_mem hlt)
        have HZ1 := hid0 (HZ.out L[k] (List.getElem_mem hlt))
        generalize prB (L.take k) = P at *
        obtain ⟨P', hP'⟩ : ∃ P', P' = prB (L.take (k + 1)) := ⟨_, rfl⟩
        rw [← hP'] at HMo
        have HP' := hid0 hP'
        clear hP'
        generalize L[k] = s at *
        obtain ⟨wB, hwB⟩ : ∃ wB, wB = wr.alloc (.cells #[.string s.loc, .string s.par, .slice ae s.ed.length ce] 30) := ⟨_, rfl⟩
        have hbB : Below wr.heap.size wr wB := by rw [hwB]; exact (Below.refl _ _).alloc (Nat.le_refl _) _
        have hrB : wB.heap[wr.heap.size]? = some (.cells #[.string s.loc, .string s.par, .slice ae s.ed.length ce] 30 (0, 0)) := by rw [hwB]; exact heap_alloc_new wr _
        have hbw := HQ.out.bel.size
        have HQB : Hid (QB w1 wB wB wr.heap.size v P) := hid0 ⟨by have h := World.ownsRow.alloc HQ.out.own (.cells #[.string s.loc, .string s.par, .slice ae s.ed.length ce] 30); rw [← hwB] at h; exact h, HQ.out.bel.trans (hbB.mono hbw), rfl⟩
        have HRB := hid0 hrB
        have HKB : Hid (∀ W : World, W.heap[wr.heap.size]? = wB.heap[wr.heap.size]? → W.cell? ⟨wr.heap.size, 0, none⟩ = some (.string s.loc) ∧ W.cell? ⟨wr.heap.size, 1, none⟩ = some (.string s.par) ∧ W.cell? ⟨wr.heap.size, 2, none⟩ = some (.slice ae s.ed.length ce)) := hid0 (fun W hW => by
          have hr := hW.trans hrB
          exact ⟨by rw [cell_of_row _ _ _ _ _ _ hr]; rfl, by rw [cell_of_row _ _ _ _ _ _ hr]; rfl, by rw [cell_of_row _ _ _ _ _ _ hr]; rfl⟩)
        obtain ⟨d0, d1, d2⟩ := HKB.out wB rfl
        have hlo : s.loc.size ≤ 64 := by have := tag_len HOk1.out.loc; rw [bsize] at this; exact this
        have hy1 : ¬ 9223372036854775807 < 1 + s.loc.size := by omega
        have hy2 : ¬ 9223372036854775807 < 1 + s.loc.size + 2 := by omega
        have HS1 : Hid ((⟨#[91]⟩ ++ s.loc ++ ⟨#[93, 10]⟩ : ByteArray).size ≤ 67) := hid0 (by
          have z1 : (⟨#[91]⟩ : ByteArray).size = 1 := rfl
          have z2 : (⟨#[93, 10]⟩ : ByteArray).size = 2 := rfl
          rw [ByteArray.size_append, ByteArray.size_append, z1, z2]
          omega)
        have HX1d : Hid ((⟨#[91]⟩ ++ s.loc ++ ⟨#[93, 10]⟩ : ByteArray).data.toList = [91] ++ s.loc.data.toList ++ [93, 10]) := hid0 (by rw [app_data, app_data])
        obtain ⟨X1, hX1⟩ : ∃ X1 : ByteArray, (⟨#[91]⟩ ++ s.loc ++ ⟨#[93, 10]⟩ : ByteArray) = X1 := ⟨_, rfl⟩
        rw [hX1] at HS1 HX1d
        have hP := HLk.out
        have hx1 := HS1.out
        have hszB := hbB.size
        have hfB := hwB.symm
        clear hwB hbB hrB HQ
        cases hp : (s.par.toList == []) with
        | true =>
          have M1 : Hid True := trivial
          go_wp2_with (first
            | (at_builtin; clear M1; refine Go.Lib.wpList_append_own_string _ rfl _ _ 46 9 rfl w1.heap.size 5 i0 Tryz.underlying46 Tryz.underlying9 hi hz0 hz1 hz2 v P.length (cellsB P) rfl HQB.out.own X1 rfl (by unfold maxLen; omega) (by omega) (by omega) ?_; intro v3 w3 hown3 hgrow3 _; have HQ3 := hid0 (HQB.out.grow HRB.out hown3 hgrow3 rfl); have hs3w := HQ3.out.bel.size; obtain ⟨d0, d1, d2⟩ := HKB.out w3 HQ3.out.box; clear hown3 hgrow3)
            | fail)
          have HQZ : Hid (QB w1 wB w3 wr.heap.size v3 (P ++ sdT s 0)) := hid0 (by
            have h := HQ3.out
            have e : P ++ X1.data.toList = P ++ sdT s 0 := by
              rw [HX1d.out]
              unfold sdT hdB
              rw [if_pos (by rw [par_nil] at hp; exact of_decide_eq_true hp)]
              simp
            rw [e] at h
            exact h)
          clear HQ3 HQB
          have HSd : Hid (∀ j, j ≤ s.ed.length → (P ++ sdT s j).length ≤ 8000000) := hid0 (fun j hj => by rw [List.length_append]; have := sdT_len HOk1.out j (by omega); omega)
          go_loopw [5, 8] (fun o i wi => ∃ (j : Nat) (v' : Value), j ≤ s.ed.length ∧ i = .int .i64 (j : Int) ∧ v' = o ∧ Hid (QB w1 wB wi wr.heap.size v' (P ++ sdT s j))) (fun _ i _ => s.ed.length - (intOf i).toNat)
          case atStart => exact ⟨0, _, Nat.zero_le _, rfl, rfl, HQZ⟩
          case round =>
            clear HQZ
            obtain ⟨j, v', hj, rfl, rfl, HQi⟩ := hrel
            obtain ⟨d0, d1, d2⟩ := HKB.out _ HQi.out.box
            by_cases hjl : j < s.ed.length
            · have hjI : (j : Int) < (s.ed.length : Int) := by omega
              have hjI0 : (0 : Int) ≤ (j : Int) := by omega
              obtain ⟨b', off', rfl, hbl', q0, q1⟩ := (HEA.out.later HQi.out.bel).at' j hjl
              have HEn : Hid (entF s.ed[j].2.data.toList = none) := hid0 (HOk1.out.ent _ (List.getElem_mem hjl))
              have HEz : Hid (s.ed[j].2.size ≤ 4194400) := hid0 (HZ1.out _ (List.getElem_mem hjl))
              have HMj : Hid ((P ++ sdT s j) ++ wrX s.ed[j] = P ++ sdT s (j + 1)) := hid0 (by rw [sdT_more s j hjl, List.append_assoc])
              have hlj := HSd.out j (by omega)
              generalize P ++ sdT s j = Q at *
              generalize s.ed[j] = ed at *
              obtain ⟨x, e⟩ := ed
              simp only at q0 q1 HEn HEz HMj
              have HWr := hid0 (fun W => refWritten_any e HEz.out HEn.out W)
              have HWl : Hid ((strOf (wrE e.data.toList)).size ≤ 192) := hid0 (by rw [strOf_size]; exact wrE_len HEn.out)
              obtain ⟨We, hWe⟩ : ∃ We, We = strOf (wrE e.data.toList) := ⟨_, rfl⟩
              rw [← hWe] at HWr HWl
              have HWe := hid0 hWe
              have hwl := HWl.out
              have hz1' : ¬ 9223372036854775807 < 2 + We.size := by omega
              have hz2' : ¬ 9223372036854775807 < 2 + We.size + 1 := by omega
              have hbi := HQi.out.bel.size
              clear hWe HEn HEz
              cases x with
              | true =>
                have hs3 : (⟨#[43, 32]⟩ ++ We ++ ⟨#[10]⟩ : ByteArray).size = 2 + We.size + 1 := by
                  have z1 : (⟨#[43, 32]⟩ : ByteArray).size = 2 := rfl
                  have z2 : (⟨#[10]⟩ : ByteArray).size = 1 := rfl
                  rw [ByteArray.size_append, ByteArray.size_append, z1, z2]
                have HX3d : Hid (Q ++ (⟨#[43, 32]⟩ ++ We ++ ⟨#[10]⟩ : ByteArray).data.toList = P ++ sdT s (j + 1)) := hid0 (by rw [wrX_bytes _ We (true, e) rfl HWe.out]; exact HMj.out)
                obtain ⟨X3, hX3⟩ : ∃ X3 : ByteArray, (⟨#[43, 32]⟩ ++ We ++ ⟨#[10]⟩ : ByteArray) = X3 := ⟨_, rfl⟩
                rw [hX3] at hs3 HX3d
                clear HMj HWe
                go_wp2_with (first
                  | (go_at_call 47; refine (HWr.out _).mono ?_; rintro e2 w5 ⟨rfl, hb5⟩; have HQ5 := hid0 (HQi.out.later HRB.out hb5); have hb5s := hb5.size; clear hb5)
                  | (at_builtin; refine Go.Lib.wpList_append_own_string _ rfl _ _ 46 9 rfl w1.heap.size 5 i0 Tryz.underlying46 Tryz.underlying9 hi hz0 hz1 hz2 v' Q.length (cellsB Q) rfl HQ5.out.own X3 rfl (by unfold maxLen; omega) (by omega) (by omega) ?_; intro v6 w6 hown6 hgrow6 _; have HQ6 := hid0 (HQ5.out.grow HRB.out hown6 hgrow6 HX3d.out); clear hown6 hgrow6)
                  | fail)
                go_roundw
                case rel => exact ⟨j + 1, _, by omega, by go_num, rfl, HQ6⟩
                case measure => simp [intOf]; omega
              | false =>
                have hs3 : (⟨#[45, 32]⟩ ++ We ++ ⟨#[10]⟩ : ByteArray).size = 2 + We.size + 1 := by
                  have z1 : (⟨#[45, 32]⟩ : ByteArray).size = 2 := rfl
                  have z2 : (⟨#[10]⟩ : ByteArray).size = 1 := rfl
                  rw [ByteArray.size_append, ByteArray.size_append, z1, z2]
                have HX3d : Hid (Q ++ (⟨#[45, 32]⟩ ++ We ++ ⟨#[10]⟩ : ByteArray).data.toList = P ++ sdT s (j + 1)) := hid0 (by rw [wrX_bytes _ We (false, e) rfl HWe.out]; exact HMj.out)
                obtain ⟨X3, hX3⟩ : ∃ X3 : ByteArray, (⟨#[45, 32]⟩ ++ We ++ ⟨#[10]⟩ : ByteArray) = X3 := ⟨_, rfl⟩
                rw [hX3] at hs3 HX3d
                clear HMj HWe
                go_wp2_with (first
                  | (go_at_call 47; refine (HWr.out _).mono ?_; rintro e2 w5 ⟨rfl, hb5⟩; have HQ5 := hid0 (HQi.out.later HRB.out hb5); have hb5s := hb5.size; clear hb5)
                  | (at_builtin; refine Go.Lib.wpList_append_own_string _ rfl _ _ 46 9 rfl w1.heap.size 5 i0 Tryz.underlying46 Tryz.underlying9 hi hz0 hz1 hz2 v' Q.length (cellsB Q) rfl HQ5.out.own X3 rfl (by unfold maxLen; omega) (by omega) (by omega) ?_; intro v6 w6 hown6 hgrow6 _; have HQ6 := hid0 (HQ5.out.grow HRB.out hown6 hgrow6 HX3d.out); clear hown6 hgrow6)
                  | fail)
                go_roundw
                case rel => exact ⟨j + 1, _, by omega, by go_num, rfl, HQ6⟩
                case measure => simp [intOf]; omega
            · have hjI : ¬ (j : Int) < (s.ed.length : Int) := by omega
              have HQN : Hid (QS w1 wr v' P') := hid0 ⟨by have h := HQi.out.own; have e : P ++ sdT s j = P' := (by rw [← HMo.out, secB_hd]; unfold sdT; rw [List.take_of_length_le (by omega)]); rw [e] at h; exact h, HQi.out.bel⟩
              clear HQi
              go_wp2
              go_roundw
              case rel => exact ⟨k + 1, _, by omega, by go_num, rfl, by rw [← HP'.out]; exact HQN⟩
              case measure => simp [intOf]; omega
        | false =>
          have hpz : s.par.size ≤ 64 := by have := tag_len (HOk1.out.par hp); rw [bsize] at this; exact this
          have hy3 : ¬ 9223372036854775807 < 7 + s.par.size := by omega
          have hy4 : ¬ 9223372036854775807 < 7 + s.par.size + 1 := by omega
          have hs2 : (⟨#[112, 97, 114, 101, 110, 116, 32]⟩ ++ s.par ++ ⟨#[10]⟩ : ByteArray).size = 7 + s.par.size + 1 := by
            have z7 : (⟨#[112, 97, 114, 101, 110, 116, 32]⟩ : ByteArray).size = 7 := rfl
            have z1 : (⟨#[10]⟩ : ByteArray).size = 1 := rfl
            rw [ByteArray.size_append, ByteArray.size_append, z7, z1]
          have HX2d : Hid ((⟨#[112, 97, 114, 101, 110, 116, 32]⟩ ++ s.par ++ ⟨#[10]⟩ : ByteArray).data.toList = [112, 97, 114, 101, 110, 116, 32] ++ s.par.data.toList ++ [10]) := hid0 (by rw [app_data, app_data])
          obtain ⟨X2, hX2⟩ : ∃ X2 : ByteArray, (⟨#[112, 97, 114, 101, 110, 116, 32]⟩ ++ s.par ++ ⟨#[10]⟩ : ByteArray) = X2 := ⟨_, rfl⟩
          rw [hX2] at hs2 HX2d
          have HLX : Hid ((P ++ X1.data.toList).length ≤ 4000067) := hid0 (by rw [List.length_append, bsize]; omega)
          have hlx := HLX.out
          have M1 : Hid True := trivial
          go_wp2_with (first
            | (at_builtin; clear M1; refine Go.Lib.wpList_append_own_string _ rfl _ _ 46 9 rfl w1.heap.size 5 i0 Tryz.underlying46 Tryz.underlying9 hi hz0 hz1 hz2 v P.length (cellsB P) rfl HQB.out.own X1 rfl (by unfold maxLen; omega) (by omega) (by omega) ?_; intro v3 w3 hown3 hgrow3 _; have HQ3 := hid0 (HQB.out.grow HRB.out hown3 hgrow3 rfl); have hs3w := HQ3.out.bel.size; obtain ⟨d0, d1, d2⟩ := HKB.out w3 HQ3.out.box; clear hown3 hgrow3)
            | (at_builtin; refine Go.Lib.wpList_append_own_string _ rfl _ _ 46 9 rfl w1.heap.size 5 i0 Tryz.underlying46 Tryz.underlying9 hi hz0 hz1 hz2 v3 (P ++ X1.data.toList).length (cellsB (P ++ X1.data.toList)) rfl HQ3.out.own X2 rfl (by unfold maxLen; omega) (by omega) (by omega) ?_; intro v4 w4 hown4 hgrow4 _; have HQ4 := hid0 (HQ3.out.grow HRB.out hown4 hgrow4 rfl); obtain ⟨d0, d1, d2⟩ := HKB.out w4 HQ4.out.box; clear hown4 hgrow4)
            | fail)
          have HQZ : Hid (QB w1 wB w4 wr.heap.size v4 (P ++ sdT s 0)) := hid0 (by
            have h := HQ4.out
            have e : P ++ X1.data.toList ++ X2.data.toList = P ++ sdT s 0 := by
              rw [HX1d.out, HX2d.out]
              unfold sdT hdB
              rw [if_neg (by rw [par_nil] at hp; exact of_decide_eq_false hp)]
              simp
            rw [e] at h
            exact h)
          clear HQ3 HQ4 HQB
          have HSd : Hid (∀ j, j ≤ s.ed.length → (P ++ sdT s j).length ≤ 8000000) := hid0 (fun j hj => by rw [List.length_append]; have := sdT_len HOk1.out j (by omega); omega)
          go_loopw [5, 8] (fun o i wi => ∃ (j : Nat) (v' : Value), j ≤ s.ed.length ∧ i = .int .i64 (j : Int) ∧ v' = o ∧ Hid (QB w1 wB wi wr.heap.size v' (P ++ sdT s j))) (fun _ i _ => s.ed.length - (intOf i).toNat)
          case atStart => exact ⟨0, _, Nat.zero_le _, rfl, rfl, HQZ⟩
          case round =>
            clear HQZ
            obtain ⟨j, v', hj, rfl, rfl, HQi⟩ := hrel
            obtain ⟨d0, d1, d2⟩ := HKB.out _ HQi.out.box
            by_cases hjl : j < s.ed.length
            · have hjI : (j : Int) < (s.ed.length : Int) := by omega
              have hjI0 : (0 : Int) ≤ (j : Int) := by omega
              obtain ⟨b', off', rfl, hbl', q0, q1⟩ := (HEA.out.later HQi.out.bel).at' j hjl
              have HEn : Hid (entF s.ed[j].2.data.toList = none) := hid0 (HOk1.out.ent _ (List.getElem_mem hjl))
              have HEz : Hid (s.ed[j].2.size ≤ 4194400) := hid0 (HZ1.out _ (List.getElem_mem hjl))
              have HMj : Hid ((P ++ sdT s j) ++ wrX s.ed[j] = P ++ sdT s (j + 1)) := hid0 (by rw [sdT_more s j hjl, List.append_assoc])
              have hlj := HSd.out j (by omega)
              generalize P ++ sdT s j = Q at *
              generalize s.ed[j] = ed at *
              obtain ⟨x, e⟩ := ed
              simp only at q0 q1 HEn HEz HMj
              have HWr := hid0 (fun W => refWritten_any e HEz.out HEn.out W)
              have HWl : Hid ((strOf (wrE e.data.toList)).size ≤ 192) := hid0 (by rw [strOf_size]; exact wrE_len HEn.out)
              obtain ⟨We, hWe⟩ : ∃ We, We = strOf (wrE e.data.toList) := ⟨_, rfl⟩
              rw [← hWe] at HWr HWl
              have HWe := hid0 hWe
              have hwl := HWl.out
              have hz1' : ¬ 9223372036854775807 < 2 + We.size := by omega
              have hz2' : ¬ 9223372036854775807 < 2 + We.size + 1 := by omega
              have hbi := HQi.out.bel.size
              clear hWe HEn HEz
              cases x with
              | true =>
                have hs3 : (⟨#[43, 32]⟩ ++ We ++ ⟨#[10]⟩ : ByteArray).size = 2 + We.size + 1 := by
                  have z1 : (⟨#[43, 32]⟩ : ByteArray).size = 2 := rfl
                  have z2 : (⟨#[10]⟩ : ByteArray).size = 1 := rfl
                  rw [ByteArray.size_append, ByteArray.size_append, z1, z2]
                have HX3d : Hid (Q ++ (⟨#[43, 32]⟩ ++ We ++ ⟨#[10]⟩ : ByteArray).data.toList = P ++ sdT s (j + 1)) := hid0 (by rw [wrX_bytes _ We (true, e) rfl HWe.out]; exact HMj.out)
                obtain ⟨X3, hX3⟩ : ∃ X3 : ByteArray, (⟨#[43, 32]⟩ ++ We ++ ⟨#[10]⟩ : ByteArray) = X3 := ⟨_, rfl⟩
                rw [hX3] at hs3 HX3d
                clear HMj HWe
                go_wp2_with (first
                  | (go_at_call 47; refine (HWr.out _).mono ?_; rintro e2 w5 ⟨rfl, hb5⟩; have HQ5 := hid0 (HQi.out.later HRB.out hb5); have hb5s := hb5.size; clear hb5)
                  | (at_builtin; refine Go.Lib.wpList_append_own_string _ rfl _ _ 46 9 rfl w1.heap.size 5 i0 Tryz.underlying46 Tryz.underlying9 hi hz0 hz1 hz2 v' Q.length (cellsB Q) rfl HQ5.out.own X3 rfl (by unfold maxLen; omega) (by omega) (by omega) ?_; intro v6 w6 hown6 hgrow6 _; have HQ6 := hid0 (HQ5.out.grow HRB.out hown6 hgrow6 HX3d.out); clear hown6 hgrow6)
                  | fail)
                go_roundw
                case rel => exact ⟨j + 1, _, by omega, by go_num, rfl, HQ6⟩
                case measure => simp [intOf]; omega
              | false =>
                have hs3 : (⟨#[45, 32]⟩ ++ We ++ ⟨#[10]⟩ : ByteArray).size = 2 + We.size + 1 := by
                  have z1 : (⟨#[45, 32]⟩ : ByteArray).size = 2 := rfl
                  have z2 : (⟨#[10]⟩ : ByteArray).size = 1 := rfl
                  rw [ByteArray.size_append, ByteArray.size_append, z1, z2]
                have HX3d : Hid (Q ++ (⟨#[45, 32]⟩ ++ We ++ ⟨#[10]⟩ : ByteArray).data.toList = P ++ sdT s (j + 1)) := hid0 (by rw [wrX_bytes _ We (false, e) rfl HWe.out]; exact HMj.out)
                obtain ⟨X3, hX3⟩ : ∃ X3 : ByteArray, (⟨#[45, 32]⟩ ++ We ++ ⟨#[10]⟩ : ByteArray) = X3 := ⟨_, rfl⟩
                rw [hX3] at hs3 HX3d
                clear HMj HWe
                go_wp2_with (first
                  | (go_at_call 47; refine (HWr.out _).mono ?_; rintro e2 w5 ⟨rfl, hb5⟩; have HQ5 := hid0 (HQi.out.later HRB.out hb5); have hb5s := hb5.size; clear hb5)
                  | (at_builtin; refine Go.Lib.wpList_append_own_string _ rfl _ _ 46 9 rfl w1.heap.size 5 i0 Tryz.underlying46 Tryz.underlying9 hi hz0 hz1 hz2 v' Q.length (cellsB Q) rfl HQ5.out.own X3 rfl (by unfold maxLen; omega) (by omega) (by omega) ?_; intro v6 w6 hown6 hgrow6 _; have HQ6 := hid0 (HQ5.out.grow HRB.out hown6 hgrow6 HX3d.out); clear hown6 hgrow6)
                  | fail)
                go_roundw
                case rel => exact ⟨j + 1, _, by omega, by go_num, rfl, HQ6⟩
                case measure => simp [intOf]; omega
            · have hjI : ¬ (j : Int) < (s.ed.length : Int) := by omega
              have HQN : Hid (QS w1 wr v' P') := hid0 ⟨by have h := HQi.out.own; have e : P ++ sdT s j = P' := (by rw [← HMo.out, secB_hd]; unfold sdT; rw [List.take_of_length_le (by omega)]); rw [e] at h; exact h, HQi.out.bel⟩
              clear HQi
              go_wp2
              go_roundw
              case rel => exact ⟨k + 1, _, by omega, by go_num, rfl, by rw [← HP'.out]; exact HQN⟩
              case measure => simp [intOf]; omega
      · have hkI : ¬ (k : Int) < (L.length : Int) := by omega
        have HE : Hid (prB (L.take k) = prB L) := hid0 (by rw [List.take_of_length_le (by omega)])
        have ho := HQ.out.own
        rw [HE.out] at ho
        have hts := toStr ho
        obtain ⟨av, cv, rfl⟩ := row_form ho
        have HBF := hid0 (Below.later HB0.out (Below.later HB1.out HQ.out.bel))
        clear ho HQ
        by_cases hbig : 1048576 < (prB L).length
        · have hbI : (1048576 : Int) < ((prB L).length : Int) := by omega
          have hR2 : R = (some 2, []) := by rw [HR.out, if_pos hbig]
          subst hR2
          clear hbig hts
          generalize (prB L).length = np at *
          go_wp2
          go_ret2
          exact ⟨rfl, HBF.out⟩
        · have hbI : ¬ (1048576 : Int) < ((prB L).length : Int) := by omega
          have hR2 : R = (none, prB L) := by rw [HR.out, if_neg hbig]
          subst hR2
          clear hbig
          go_wp2
          go_ret2
          exact ⟨rfl, HBF.out⟩
end Go.Proofs.YtpkfcadihgbleaaGreatDoor
namespace Go.Proofs.YtpkfcadihgbleaaGreatDoor
open Go.RowKit Go.Shelf Go.Lib
theorem numE {w : World} {A : Nat → Addr} (h : Sents w A) (o : Option Nat) (ho : ∀ i, o = some i → i < 11) : Calls Tryz.prog 22 #[errO A o] w fun e w' => e = .returned (.int .i64 (numO o)) ∧ w' = w := by
  cases o with
  | none => exact kitNum_nil w
  | some i => exact kitNum_at w A h i (ho i rfl)
theorem prt_lt {L : List Sec} {i : Nat} (h : (prtF L).1 = some i) : i < 11 := by
  unfold prtF at h
  split at h
  · rename_i j hj
    simp only [Option.some.injEq] at h
    subst h
    exact chkE_lt hj
  · split at h
    · simp only [Option.some.injEq] at h
      omega
    · cases h
/-- What the world holds. -/
structure Env6 (A : Nat → Addr) (w : World) : Prop where
  mx : Mx w
  sq : SeqAt w
  dt : DT w
  se : Sents w A
theorem Env6.below {A : Nat → Addr} {w w' : World} (h : Env6 A w) (hb : Below w.heap.size w w') : Env6 A w' := ⟨h.mx.below hb, h.sq.later hb, dt_later h.dt hb, h.se.below hb⟩
set_option maxRecDepth 10000 in
set_option maxHeartbeats 1600000 in
theorem printed_any (A : Nat → Addr) (L : List Sec) (a : Option Addr) (c : Nat) (w : World) (hl : L.length ≤ 1000000) (hc : L.length ≤ c) (hb : ∀ s ∈ L, s.ed.length ≤ 1000000000) (hz : ∀ s ∈ L, ∀ e ∈ s.ed, e.2.size ≤ 4194400) (hE : Env6 A w) (ha : XA w a L) :
    Calls Tryz.prog 10 #[.agg #[.slice a L.length c]] w fun e w' => e = .returned (.bool true) ∧ Below w.heap.size w w' := by
  have hb2 : ∀ s ∈ L, s.ed.length ≤ 140737488355328 := fun s hs => Nat.le_trans (hb s hs) (by decide)
  have hz2 : ∀ s ∈ L, ∀ e ∈ s.ed, e.2.size ≤ 140737488355328 := fun s hs e he => Nat.le_trans (hz s hs e he) (by decide)
  obtain ⟨w0, hw0⟩ : ∃ w0, w0 = w.alloc (.cells #[.slice a L.length c] 24) := ⟨_, rfl⟩
  have hB0 : Below w.heap.size w w0 := by rw [hw0]; exact (Below.refl _ _).alloc (Nat.le_refl _) _
  have hs0 : w0.heap.size = w.heap.size + 1 := by rw [hw0]; simp
  have hX0 : w0.heap[w.heap.size]? = some (.cells #[.slice a L.length c] 24 (0, 0)) := by rw [hw0]; exact heap_alloc_new w _
  have HX : Hid (∀ W, Below w0.heap.size w0 W → W.cell? ⟨w.heap.size, 0, none⟩ = some (.slice a L.length c)) := hid0 (fun W hW => by
    have hr := (hW.block w.heap.size (by omega)).trans hX0
    rw [cell_of_row _ _ _ _ _ _ hr]; rfl)
  have x0 := HX.out w0 (Below.refl _ _)
  have HEv : Hid (∀ W, Below w0.heap.size w0 W → Env6 A W ∧ XA W a L) := hid0 (fun W hW => ⟨(hE.below hB0).below hW, (ha.later hB0).later hW⟩)
  have HC1 : Hid (∀ W, Below w0.heap.size w0 W → Calls Tryz.prog 25 #[.agg #[.slice a L.length c]] W fun e w' => e = .returned (.int .i64 (numO (chkE entE L))) ∧ Below W.heap.size W w') := hid0 (fun W hW => refCheck_any L a c W hl hb hz (HEv.out W hW).2)
  have HC2 : Hid (∀ W, Below w0.heap.size w0 W → Calls Tryz.prog 26 #[.agg #[.slice a L.length c]] W fun e w' => e = .returned (.tuple #[.string (strOf (prtF L).2), .int .i64 (numO (prtF L).1)]) ∧ Below W.heap.size W w') := hid0 (fun W hW => refPrint_any L a c W hl hb hz (HEv.out W hW).2)
  have HC3 : Hid (∀ W, Below w0.heap.size w0 W → Calls Tryz.prog 16 #[.agg #[.slice a L.length c]] W fun e w' => e = .returned (errO A (chkE entE L)) ∧ Below W.heap.size W w') := hid0 (fun W hW => check_any entE A L a c W hc hb2 (HEv.out W hW).1.mx (HEv.out W hW).1.se (HEv.out W hW).2 hz2 (fun x W' hx hW' => entry_any A x W' hx ((HEv.out W hW).1.below hW').sq ((HEv.out W hW).1.below hW').se))
  have HC4 : Hid (∀ W, Below w0.heap.size w0 W → Calls Tryz.prog 13 #[.agg #[.slice a L.length c]] W fun e w' => e = .returned (.tuple #[.string (strOf (prtF L).2), errO A (prtF L).1]) ∧ Below W.heap.size W w') := hid0 (fun W hW => print_any A L a c W hc hb2 hz (HEv.out W hW).1.mx (HEv.out W hW).1.sq (HEv.out W hW).1.dt (HEv.out W hW).1.se (HEv.out W hW).2)
  have HN1 : Hid (∀ W, Below w0.heap.size w0 W → Calls Tryz.prog 22 #[errO A (chkE entE L)] W fun e w' => e = .returned (.int .i64 (numO (chkE entE L))) ∧ w' = W) := hid0 (fun W hW => numE (HEv.out W hW).1.se _ (fun i h => chkE_lt h))
  have HN2 : Hid (∀ W, Below w0.heap.size w0 W → Calls Tryz.prog 22 #[errO A (prtF L).1] W fun e w' => e = .returned (.int .i64 (numO (prtF L).1)) ∧ w' = W) := hid0 (fun W hW => numE (HEv.out W hW).1.se _ (fun i h => prt_lt h))
  have HB0 := hid0 hB0
  have hf0 := hw0.symm
  generalize numO (chkE entE L) = n1 at *
  generalize numO (prtF L).1 = n2 at *
  generalize errO A (chkE entE L) = v1 at *
  generalize errO A (prtF L).1 = v2 at *
  generalize strOf (prtF L).2 = Y at *
  have q1 : (n1 == n1) = true := by simp
  have q2 : (n2 == n2) = true := by simp
  have q3 : (Y.toList == Y.toList) = true := by simp
  clear hw0 hs0 hB0 hX0 hE ha hb hz hb2 hz2 HEv
  have M1 : Hid True := trivial
  go_enter Tryz.func10, Tryz.ntmps10
  go_wp2_with (first
    | (go_at_call 25; refine (HC1.out w0 (Below.refl _ _)).mono ?_; rintro e w1 ⟨rfl, hb1⟩; have HB1 := hid0 hb1; have x1 := HX.out w1 hb1; clear hb1 x0 hf0)
    | (go_at_call 26; refine (HC2.out w1 HB1.out).mono ?_; rintro e w2 ⟨rfl, hb2⟩; have HB2 := hid0 (Below.later HB1.out hb2); have x2 := HX.out w2 HB2.out; clear hb2 x1)
    | (go_at_call 16; refine (HC3.out w2 HB2.out).mono ?_; rintro e w3 ⟨rfl, hb3⟩; have HB3 := hid0 (Below.later HB2.out hb3); have x3 := HX.out w3 HB3.out; clear hb3 x2)
    | (go_at_call 13; refine (HC4.out w3 HB3.out).mono ?_; rintro e w4 ⟨rfl, hb4⟩; have HB4 := hid0 (Below.later HB3.out hb4); clear hb4 x3)
    | (go_at_call 22; clear M1; refine (HN1.out w4 HB4.out).mono ?_; rintro e w5 ⟨rfl, hw5⟩; have hw5' := hw5.symm; subst hw5'; clear hw5)
    | (go_at_call 22; refine (HN2.out w4 HB4.out).mono ?_; rintro e w6 ⟨rfl, hw6⟩; have hw6' := hw6.symm; subst hw6'; clear hw6)
    | fail)
  go_ret
  exact ⟨by simp, Below.later HB0.out HB4.out⟩
end Go.Proofs.YtpkfcadihgbleaaGreatDoor
namespace Go.Proofs.YtpkfcadihgbleaaGreatDoor
open Go.RowKit Go.Shelf Go.Lib
theorem bun_cell {W : World} {B : Nat} {x : Value} (h : W.heap[B]? = some (.cells #[x] 24 (0, 0))) : W.cell? ⟨B, 0, none⟩ = some x := by rw [cell_of_row _ _ _ _ _ _ h]; rfl
/-- What the law's loops keep. -/
structure PL (w0 wk wr : World) (g cap n B : Nat) (S0 S : List SecAt) : Prop where
  giv : Giv wr w0.heap.size (.slice (some ⟨g, 0, none⟩) (n + 1) cap) S 1
  blk : S.map SecAt.blk = S0.map SecAt.blk
  bel : Below w0.heap.size w0 wr
  box : wr.heap[B]? = wk.heap[B]?
theorem PL.drew {w0 wk wr : World} {g cap n B : Nat} {S0 S : List SecAt} (h : PL w0 wk wr g cap n B S0 S) : PL w0 wk wr.drew g cap n B S0 S := ⟨h.giv.keep (fun _ _ _ => rfl), h.blk, h.bel.drew, h.box⟩
theorem PL.later {w0 wk wr w2 : World} {g cap n B : Nat} {S0 S : List SecAt} (h : PL w0 wk wr g cap n B S0 S) (hB : B < wr.heap.size) (hb : Below wr.heap.size wr w2) : PL w0 wk w2 g cap n B S0 S := ⟨h.giv.keep (fun q _ hq => hb.block q hq), h.blk, h.bel.trans (hb.mono h.bel.size), (hb.block B hB).trans h.box⟩
set_option maxRecDepth 10000 in
set_option maxHeartbeats 3200000 in
theorem bundlePrints_any (A : Nat → Addr) (L : List Sec) (a : Option Addr) (c : Nat) (w : World) (hl : L.length ≤ 1000000) (hb : ∀ s ∈ L, s.ed.length ≤ 1000000000) (hz : ∀ s ∈ L, ∀ e ∈ s.ed, e.2.size ≤ 4194300) (hE : Env6 A w) (ha : XB w a L) :
    Calls Tryz.prog 3 #[.agg #[.slice a L.length c]] w fun e w' => e = .returned (.bool true) ∧ Below w.heap.size w w' := by
  obtain ⟨w0, hw0⟩ : ∃ w0, w0 = w.alloc (.cells #[.slice a L.length c] 24) := ⟨_, rfl⟩
  have hs0 : w0.heap.size = w.heap.size + 1 := by rw [hw0]; simp
  have hB0 : Below w.heap.size w w0 := by rw [hw0]; exact (Below.refl _ _).alloc (Nat.le_refl _) _
  have hX0 : w0.heap[w.heap.size]? = some (.cells #[.slice a L.length c] 24 (0, 0)) := by rw [hw0]; exact heap_alloc_new w _
  have HX : Hid (∀ W, Below w0.heap.size w0 W → W.cell? ⟨w.heap.size, 0, none⟩ = some (.slice a L.length c)) := hid0 (fun W hW => bun_cell ((hW.block w.heap.size (by omega)).trans hX0))
  have x0 := HX.out w0 (Below.refl _ _)
  have HE : Hid (∀ W, Below w0.heap.size w0 W → Env6 A W) := hid0 (fun W hW => (hE.below hB0).below hW)
  have HXA : Hid (∀ W, Below w0.heap.size w0 W → XA W a L) := hid0 (fun W hW => ((ha.later hB0).later hW).xa)
  have HO := hid0 (own6_any L a c w0 hl hb (ha.later hB0))
  have HBD := hid0 hb
  have HZD := hid0 hz
  have HZL : Hid (∀ s ∈ L, ∀ e ∈ s.ed, e.2.size ≤ 4194400) := hid0 (fun s hs e he => Nat.le_trans (hz s hs e he) (by decide))
  have HB0 := hid0 hB0
  have hfold := hw0.symm
  clear hw0 hs0 hB0 hX0 hE ha hb hz
  have M0 : Hid True := trivial
  go_enter Tryz.func3, Tryz.ntmps3
  go_wp2_with (first
    | (go_at_call 9; clear M0
       refine HO.out.mono ?_
       rintro e w1 ⟨g, cap, S, rfl, hcap, hS, hG, hb1⟩
       have y0 := HX.out w1 hb1
       obtain ⟨wk, hwk⟩ : ∃ wk, wk = w1.alloc (.cells #[.slice (some ⟨g, 0, none⟩) L.length cap] 24) := ⟨_, rfl⟩
       have hbk : Below w0.heap.size w0 wk := by rw [hwk]; exact hb1.alloc hb1.size _
       have hsk : wk.heap.size = w1.heap.size + 1 := by rw [hwk]; simp
       have hXk : wk.heap[w1.heap.size]? = some (.cells #[.slice (some ⟨g, 0, none⟩) L.length cap] 24 (0, 0)) := by rw [hwk]; exact heap_alloc_new w1 _
       have HT : Hid (∀ W : World, W.heap[w1.heap.size]? = wk.heap[w1.heap.size]? → W.cell? ⟨w1.heap.size, 0, none⟩ = some (.slice (some ⟨g, 0, none⟩) L.length cap)) := hid0 (fun W hW => bun_cell (hW.trans hXk))
       have t0 := HT.out wk rfl
       have z0 := HX.out wk hbk
       have HG : Hid (Giv wk w0.heap.size (.slice (some ⟨g, 0, none⟩) (L.length + 1) cap) S 1) := hid0 (hG.keep (fun q _ hq => by rw [hwk]; exact Below.heap_alloc w1 _ q hq))
       have HLT : Hid (∀ x ∈ S, x.blk < w1.heap.size) := hid0 (fun x hx => (World.ownsRow.lt (hG.ed x hx) x.blk rfl).2)
       have HGl : Hid (w0.heap.size ≤ g ∧ g < w1.heap.size) := hid0 ⟨(World.ownsRow.lt hG.row g rfl).1, (World.ownsRow.lt hG.row g rfl).2⟩
       have HS := hid0 hS
       have HSl : Hid (S.length = L.length) := hid0 (by have h := congrArg List.length hS; rw [List.length_map] at h; exact h)
       have HBK := hid0 hbk
       have HSK := hid0 hsk
       have hfk := hwk.symm
       have M1 : Hid True := trivial
       clear hG hS hb1 hwk hbk hsk hXk hfold x0)
    | (go_at_call 10; clear M1
       have hxa := HG.out.xa (by have := HSl.out; omega)
       rw [HS.out] at hxa
       refine (printed_any A L (some ⟨g, 0, none⟩) cap wk hl (by omega) HBD.out HZL.out (HE.out wk HBK.out) hxa).mono ?_
       rintro e w2 ⟨rfl, hb2⟩
       have HB2 := hid0 hb2
       have t2 := HT.out w2 (hb2.block _ (by have := HSK.out; omega))
       have z2 := HX.out w2 (Below.later HBK.out hb2)
       have M2 : Hid True := trivial
       clear hxa hb2 t0 z0 y0 hfk)
    | (go_at_call 11; clear M2
       refine (kept6_any L S a c g cap w0.heap.size w2 hl HBD.out hcap HS.out (HG.out.keep (fun q _ hq => HB2.out.block q hq)) (HXA.out w2 (Below.later HBK.out HB2.out))).mono ?_
       rintro e w3 ⟨rfl, hb3⟩
       have HB3 := hid0 (Below.later HB2.out hb3)
       have t3 := HT.out w3 (HB3.out.block _ (by have := HSK.out; omega))
       clear hb3 t2 z2)
    | fail)
  have HSt : Hid (S.map (·.s) = flS L 0 0) := hid0 (by rw [HS.out, flS_zero]; simp)
  have HP3 : Hid (PL w0 wk w3 g cap L.length w1.heap.size S S) := hid0 ⟨HG.out.keep (fun q _ hq => HB3.out.block q hq), rfl, Below.later HBK.out HB3.out, HB3.out.block _ (by have := HSK.out; omega)⟩
  clear t3
  go_loopw [4] (fun i wr => ∃ (k : Nat) (S' : List SecAt), k ≤ L.length ∧ i = .int .i64 (k : Int) ∧ Hid (S'.map (·.s) = flS L k 0) ∧ Hid (PL w0 wk wr g cap L.length w1.heap.size S S')) (fun i _ => L.length - (intOf i).toNat)
  case atStart => exact ⟨0, S, Nat.zero_le _, rfl, HSt, HP3⟩
  case round =>
    clear HSt HP3
    obtain ⟨k, S', hk, rfl, HSt, HP⟩ := hrel
    have hSl : S'.length = L.length := by
      have h := congrArg List.length HSt.out
      rw [flS_zero] at h
      simp only [List.length_map, List.length_append, List.length_take, List.length_drop] at h
      omega
    have t0 := HT.out wr HP.out.box
    by_cases hlt : k < L.length
    · have hkI : (k : Int) < (L.length : Int) := by omega
      have hkI0 : (0 : Int) ≤ (k : Int) := by omega
      have hkT : k < S.length := by have := HSl.out; omega
      have hed2 := HBD.out L[k] (List.getElem_mem hlt)
      obtain ⟨ne, hne⟩ : ∃ ne, ne = L[k].ed.length := ⟨_, rfl⟩
      obtain ⟨bk, hbk2⟩ : ∃ bk, bk = S[k].blk := ⟨_, rfl⟩
      have HLk : Hid (bk < w1.heap.size) := hid0 (by rw [hbk2]; exact HLT.out S[k] (List.getElem_mem hkT))
      have HNE := hid0 hne
      have HBQ := hid0 hbk2
      rw [← hne] at hed2
      clear hne hbk2
      go_wp2
      clear t0
      go_loopw [5] (fun i wi => ∃ (j : Nat) (S2 : List SecAt), j ≤ ne ∧ i = .int .i64 (j : Int) ∧ Hid (S2.map (·.s) = flS L k j) ∧ Hid (PL w0 wk wi g cap L.length w1.heap.size S S2)) (fun i _ => ne - (intOf i).toNat)
      case atStart => exact ⟨0, S', Nat.zero_le _, rfl, HSt, HP⟩
      case round =>
        clear HSt HP hSl
        obtain ⟨j, S2, hj, rfl, HSt, HP⟩ := hrel
        have hkS : k < S2.length := by
          have h := congrArg List.length HSt.out
          rw [flS_length L k j hlt, List.length_map] at h
          omega
        have hS2l : S2.length = L.length := by
          have h := congrArg List.length HSt.out
          rw [flS_length L k j hlt, List.length_map] at h
          exact h
        have t0 := HT.out wr HP.out.box
        have p0 := HP.out.giv.secCell (by omega) k hkS
        have hbk : S2[k].blk = bk := (blk_of HP.out.blk k hkS hkT).trans HBQ.out.symm
        have hedl : S2[k].s.ed.length = ne := by rw [flS_ed hlt HSt.out hkS, HNE.out]; simp only [flN_length]
        obtain ⟨ck, hck⟩ : ∃ ck, ck = S2[k].cap := ⟨_, rfl⟩
        rw [hedl, hbk, ← hck] at p0
        by_cases hjl : j < ne
        · have hjI : (j : Int) < (ne : Int) := by omega
          have hjI0 : (0 : Int) ≤ (j : Int) := by omega
          have hne := HNE.out
          have hj1 : j < L[k].ed.length := by omega
          have hj2 : j < S2[k].s.ed.length := by omega
          obtain ⟨u0, u1, u2, u3⟩ := HP.out.giv.edCell k hkS j hj2
          have hzj : S2[k].s.ed[j].2.size ≤ 4194300 := by
            have h1 := flS_ed hlt HSt.out hkS
            have h2 : S2[k].s.ed[j] = L[k].ed[j] := by
              have := flN_at L[k].ed j hj1
              rw [← this]
              congr 1
              rw [h1]
            rw [h2]
            exact HZD.out L[k] (List.getElem_mem hlt) _ (List.getElem_mem hj1)
          have hgN := HP.out.giv.edSet k hkS j hj2 (!S2[k].s.ed[j].1) (S2[k].s.ed[j].2 ++ ⟨#[122]⟩)
          have HSN := hid0 (flS_step hlt hj1 HSt.out hkS hj2)
          have hlo := World.ownsRow.lt (HP.out.giv.ed S2[k] (List.getElem_mem hkS)) S2[k].blk rfl
          have hblN := (blk_set k hkS (edA S2[k] (S2[k].s.ed.set j (!S2[k].s.ed[j].1, S2[k].s.ed[j].2 ++ ⟨#[122]⟩))) rfl).trans HP.out.blk
          rw [hbk] at u0 u1 u2 u3 hlo
          have HGB : Hid (∀ (W : World) (o : Obj), W.heap = (wr.alloc o).heap → W.os = wr.os → W.tape = wr.tape → W.output = wr.output → PL w0 wk ((W.setCell ⟨bk, j * 2, none⟩ (.bool !S2[k].s.ed[j].1)).setCell ⟨bk, j * 2 + 1, none⟩ (.string (S2[k].s.ed[j].2 ++ ⟨#[122]⟩))) g cap L.length w1.heap.size S (S2.set k (edA S2[k] (S2[k].s.ed.set j (!S2[k].s.ed[j].1, S2[k].s.ed[j].2 ++ ⟨#[122]⟩))))) := hid0 (fun W o hW h1 h2 h3 => by
            have hBW : Below wr.heap.size wr W := ⟨h1, h2, h3, by rw [hW]; simp, fun q hq => by rw [hW]; exact Below.heap_alloc wr o q hq⟩
            have hgW : Giv W w0.heap.size (.slice (some ⟨g, 0, none⟩) (L.length + 1) cap) S2 1 := HP.out.giv.keep (fun q _ hq => hBW.block q hq)
            have hg2 := hgW.edSet k hkS j hj2 (!S2[k].s.ed[j].1) (S2[k].s.ed[j].2 ++ ⟨#[122]⟩)
            rw [hbk] at hg2
            have hbx : W.heap[w1.heap.size]? = wk.heap[w1.heap.size]? := (hBW.block _ (World.block_lt_of_cell? wr _ t0)).trans HP.out.box
            have hlk := HLk.out
            exact ⟨hg2, hblN, ((HP.out.bel.trans (hBW.mono HP.out.bel.size)).setCell (p := ⟨bk, j * 2, none⟩) hlo.1 _).setCell (p := ⟨bk, j * 2 + 1, none⟩) hlo.1 _, ((Below.heap_setCell _ _ _ w1.heap.size (by simp; omega)).trans (Below.heap_setCell W _ _ w1.heap.size (by simp; omega))).trans hbx⟩)
          generalize S2[k].s.ed[j].1 = x at *
          generalize S2[k].s.ed[j].2 = e at *
          have hz1 : ¬ 9223372036854775807 < e.size + 1 := by omega
          obtain ⟨wB, hwB⟩ : ∃ wB, wB = wr.alloc (.cells #[.bool x, .string e] 32) := ⟨_, rfl⟩
          have hbB : Below wr.heap.size wr wB := by rw [hwB]; exact (Below.refl _ _).alloc (Nat.le_refl _) _
          have hrB : wB.heap[wr.heap.size]? = some (.cells #[.bool x, .string e] 32 (0, 0)) := by rw [hwB]; exact heap_alloc_new wr _
          have d0 : wB.cell? ⟨wr.heap.size, 0, none⟩ = some (.bool x) := by rw [cell_of_row _ _ _ _ _ _ hrB]; rfl
          have d1 : wB.cell? ⟨wr.heap.size, 1, none⟩ = some (.string e) := by rw [cell_of_row _ _ _ _ _ _ hrB]; rfl
          have t1 := (hbB.cell (World.block_lt_of_cell? wr _ t0)).trans t0
          have p1 := (hbB.cell (World.block_lt_of_cell? wr _ p0)).trans p0
          have v0 := (hbB.cell (World.block_lt_of_cell? wr _ u0)).trans u0
          have v1 := (hbB.cell (World.block_lt_of_cell? wr _ u1)).trans u1
          have v2 : wB.frozen? ⟨bk, j * 2, none⟩ = false := by rw [World.frozen?] at u2 ⊢; rw [hbB.block bk (World.block_lt_of_cell? wr _ u0)]; exact u2
          have v3 : wB.frozen? ⟨bk, j * 2 + 1, none⟩ = false := by rw [World.frozen?] at u3 ⊢; rw [hbB.block bk (World.block_lt_of_cell? wr _ u1)]; exact u3
          have HWB := hid0 hwB
          have hfB := hwB.symm
          clear hgN hlo hblN hbk hne hbB hrB hwB HSt HP
          have HPn := hid0 (HGB.out wB (.cells #[.bool x, .string e] 32) (by rw [HWB.out]) (by rw [HWB.out]; rfl) (by rw [HWB.out]; rfl) (by rw [HWB.out]; rfl))
          clear HGB HWB
          go_wp2
          go_region
          go_wp2
          go_roundw
          case rel => exact ⟨j + 1, _, by omega, by go_num, HSN, hid0 HPn.out.drew⟩
          case measure => simp [intOf]; omega
        · have hjI : ¬ (j : Int) < (ne : Int) := by omega
          obtain rfl : j = ne := by omega
          have HSN : Hid (S2.map (·.s) = flS L (k + 1) 0) := hid0 (by rw [HSt.out, HNE.out]; exact flS_full L k hlt)
          clear HSt
          go_wp2
          go_roundw
          case rel => exact ⟨k + 1, _, by omega, by go_num, HSN, HP⟩
          case measure => simp [intOf]; omega
    · have hkI : ¬ (k : Int) < (L.length : Int) := by omega
      have hS' : S'.map (·.s) = L.map flp := by
        have h := HSt.out
        rw [flS_zero, List.take_of_length_le (by omega), List.drop_eq_nil_of_le (by omega), List.append_nil] at h
        exact h
      have hxa := HP.out.giv.xa (by omega)
      rw [hS'] at hxa
      obtain ⟨L2, hL2⟩ : ∃ L2, L2 = L.map flp := ⟨_, rfl⟩
      rw [← hL2] at hxa hS'
      have hl2 : L2.length = L.length := by rw [hL2]; simp
      have HBD2 : Hid (∀ s ∈ L2, s.ed.length ≤ 1000000000) := hid0 (fun s hs => by rw [hL2] at hs; obtain ⟨y, hy, rfl⟩ := List.mem_map.1 hs; simp only [flp, List.length_map]; exact HBD.out y hy)
      have HZL2 : Hid (∀ s ∈ L2, ∀ e ∈ s.ed, e.2.size ≤ 4194400) := hid0 (fun s hs e he => by
        rw [hL2] at hs
        obtain ⟨y, hy, rfl⟩ := List.mem_map.1 hs
        simp only [flp] at he
        obtain ⟨z, hz, rfl⟩ := List.mem_map.1 he
        have h1 := HZD.out y hy z hz
        have h2 : (⟨#[122]⟩ : ByteArray).size = 1 := rfl
        simp only [flE]
        rw [ByteArray.size_append, h2]
        omega)
      have HC2 : Hid (Calls Tryz.prog 10 #[.agg #[.slice (some ⟨g, 0, none⟩) L.length cap]] wr fun e w' => e = .returned (.bool true) ∧ Below wr.heap.size wr w') := hid0 (by
        have h := printed_any A L2 (some ⟨g, 0, none⟩) cap wr (by omega) (by omega) HBD2.out HZL2.out (HE.out wr HP.out.bel) hxa
        rw [hl2] at h
        exact h)
      have HKl : Hid (w1.heap.size < wr.heap.size) := hid0 (World.block_lt_of_cell? wr _ t0)
      have HS2 := hid0 hS'
      clear hxa hS' hSl HSt hL2
      go_wp2_with (go_at_call 10; refine HC2.out.mono ?_; rintro e w4 ⟨rfl, hb4⟩; have HP4 := hid0 (HP.out.later HKl.out hb4); clear hb4)
      have HSt : Hid (S'.map (·.s) = (L2.take 0).map clr ++ L2.drop 0) := hid0 (by rw [HS2.out]; simp)
      clear t0 HP HC2
      go_loopw [7] (fun i wr => ∃ (k : Nat) (S3 : List SecAt), k ≤ L.length ∧ i = .int .i64 (k : Int) ∧ Hid (S3.map (·.s) = (L2.take k).map clr ++ L2.drop k) ∧ Hid (PL w0 wk wr g cap L.length w1.heap.size S S3)) (fun i _ => L.length - (intOf i).toNat)
      case atStart => exact ⟨0, S', Nat.zero_le _, rfl, HSt, HP4⟩
      case round =>
        clear HSt HP4 hkI hk hlt
        obtain ⟨k, S3, hk, rfl, HSt, HP⟩ := hrel
        have hSl : S3.length = L.length := by
          have h := congrArg List.length HSt.out
          simp only [List.length_map, List.length_append, List.length_take, List.length_drop] at h
          omega
        have t0 := HT.out wr HP.out.box
        by_cases hlt : k < L.length
        · have hkI : (k : Int) < (L.length : Int) := by omega
          have hkI0 : (0 : Int) ≤ (k : Int) := by omega
          have hkS : k < S3.length := by omega
          obtain ⟨p0, p1⟩ := HP.out.giv.parCell (by omega) k hkS
          have HSN := hid0 (clr_step L2 k (by omega) S3 HSt.out hkS)
          have hgl := HGl.out
          have HPN : Hid (PL w0 wk (wr.setCell ⟨g, k * 3 + 1, none⟩ (.string ⟨#[100, 101]⟩)) g cap L.length w1.heap.size S (S3.set k (clrA S3[k]))) := hid0 ⟨HP.out.giv.par (by omega) k hkS, (blk_set k hkS (clrA S3[k]) rfl).trans HP.out.blk, HP.out.bel.setCell (p := ⟨g, k * 3 + 1, none⟩) hgl.1 _, (Below.heap_setCell wr _ _ w1.heap.size (by simp; omega)).trans HP.out.box⟩
          clear hSl hgl HSt HP
          go_wp2
          go_roundw
          case rel => exact ⟨k + 1, _, by omega, by go_num, HSN, HPN⟩
          case measure => simp [intOf]; omega
        · have hkI : ¬ (k : Int) < (L.length : Int) := by omega
          have hS3 : S3.map (·.s) = L2.map clr := by
            have h := HSt.out
            rw [List.take_of_length_le (by omega), List.drop_eq_nil_of_le (by omega), List.append_nil] at h
            exact h
          have hxa := HP.out.giv.xa (by omega)
          rw [hS3] at hxa
          have hl3 : (L2.map clr).length = L.length := by rw [List.length_map]; exact hl2
          have HC3 : Hid (Calls Tryz.prog 10 #[.agg #[.slice (some ⟨g, 0, none⟩) L.length cap]] wr fun e w' => e = .returned (.bool true) ∧ Below wr.heap.size wr w') := hid0 (by
            have h := printed_any A (L2.map clr) (some ⟨g, 0, none⟩) cap wr (by omega) (by omega) (fun s hs => by obtain ⟨y, hy, rfl⟩ := List.mem_map.1 hs; exact HBD2.out y hy) (fun s hs e he => by obtain ⟨y, hy, rfl⟩ := List.mem_map.1 hs; exact HZL2.out y hy e he) (HE.out wr HP.out.bel) hxa
            rw [hl3] at h
            exact h)
          have HBF := hid0 (Below.later HB0.out HP.out.bel)
          clear hxa hS3 hSl HSt HP
          go_wp2_with (go_at_call 10; refine HC3.out.mono ?_; rintro e w5 ⟨rfl, hb5⟩; have HB5 := hid0 (Below.later HBF.out hb5); clear hb5)
          go_ret
          exact ⟨rfl, HB5.out⟩
end Go.Proofs.YtpkfcadihgbleaaGreatDoor
namespace Go.Proofs.YtpkfcadihgbleaaGreatDoor
open Go.ChangeShapes Go.WideShapes Go.ChangeAt Go.RowKit
theorem own : ownKnob Tryz.prog.godebug = none := by kernel_rfl
/-- The settled world, the listed variables holding what their initialisers lay. -/
def laidWorld (hold : World) : World := { hold with heap := ((((((((((((((((((((((((((((((((hold.heap.modify 0 fun | .cells _ t frozen => .cells #[.iface 223 (.pointer (some ⟨hold.heap.size + 0, 0, none⟩))] t frozen | o => o).modify 1 fun | .cells _ t frozen => .cells #[.iface 223 (.pointer (some ⟨hold.heap.size + 1, 0, none⟩))] t frozen | o => o).modify 2 fun | .cells _ t frozen => .cells #[.iface 223 (.pointer (some ⟨hold.heap.size + 2, 0, none⟩))] t frozen | o => o).modify 3 fun | .cells _ t frozen => .cells #[.iface 223 (.pointer (some ⟨hold.heap.size + 3, 0, none⟩))] t frozen | o => o).modify 4 fun | .cells _ t frozen => .cells #[.iface 223 (.pointer (some ⟨hold.heap.size + 4, 0, none⟩))] t frozen | o => o).modify 5 fun | .cells _ t frozen => .cells #[.iface 223 (.pointer (some ⟨hold.heap.size + 5, 0, none⟩))] t frozen | o => o).modify 6 fun | .cells _ t frozen => .cells #[.iface 223 (.pointer (some ⟨hold.heap.size + 6, 0, none⟩))] t frozen | o => o).modify 7 fun | .cells _ t frozen => .cells #[.iface 223 (.pointer (some ⟨hold.heap.size + 7, 0, none⟩))] t frozen | o => o).modify 8 fun | .cells _ t frozen => .cells #[.iface 223 (.pointer (some ⟨hold.heap.size + 8, 0, none⟩))] t frozen | o => o).modify 9 fun | .cells _ t frozen => .cells #[.iface 223 (.pointer (some ⟨hold.heap.size + 9, 0, none⟩))] t frozen | o => o).modify 10 fun | .cells _ t frozen => .cells #[.iface 223 (.pointer (some ⟨hold.heap.size + 10, 0, none⟩))] t frozen | o => o).modify 12 fun | .cells _ t frozen => .cells #[.int .u64 1, .int .u64 10, .int .u64 100, .int .u64 1000, .int .u64 10000, .int .u64 100000, .int .u64 1000000, .int .u64 10000000, .int .u64 100000000, .int .u64 1000000000, .int .u64 10000000000, .int .u64 100000000000, .int .u64 1000000000000, .int .u64 10000000000000, .int .u64 100000000000000, .int .u64 1000000000000000, .int .u64 10000000000000000, .int .u64 100000000000000000, .int .u64 1000000000000000000, .int .u64 10000000000000000000] t frozen | o => o).modify 13 fun | .cells _ t frozen => .cells (Go.Pinned.utf8FirstZ.map fun n => Value.int .u8 (Int.ofNat n)).toArray t frozen | o => o).modify 14 fun | .cells _ t frozen => .cells #[.int .u8 128, .int .u8 191, .int .u8 160, .int .u8 191, .int .u8 128, .int .u8 159, .int .u8 144, .int .u8 191, .int .u8 128, .int .u8 143, .int .u8 0, .int .u8 0, .int .u8 0, .int .u8 0, .int .u8 0, .int .u8 0, .int .u8 0, .int .u8 0, .int .u8 0, .int .u8 0, .int .u8 0, .int .u8 0, .int .u8 0, .int .u8 0, .int .u8 0, .int .u8 0, .int .u8 0, .int .u8 0, .int .u8 0, .int .u8 0, .int .u8 0, .int .u8 0] t frozen | o => o).modify 15 fun | .cells _ t frozen => .cells #[.int .u8 0, .int .u8 127, .int .u8 0, .int .u8 0, .int .i64 1, .int .u8 0, .int .u8 194, .int .u8 223, .int .u8 128, .int .u8 191, .int .i64 2, .int .u8 192, .int .u8 224, .int .u8 224, .int .u8 160, .int .u8 191, .int .i64 3, .int .u8 224, .int .u8 225, .int .u8 236, .int .u8 128, .int .u8 191, .int .i64 3, .int .u8 224, .int .u8 237, .int .u8 237, .int .u8 128, .int .u8 159, .int .i64 3, .int .u8 224, .int .u8 238, .int .u8 239, .int .u8 128, .int .u8 191, .int .i64 3, .int .u8 224, .int .u8 240, .int .u8 240, .int .u8 144, .int .u8 191, .int .i64 4, .int .u8 240, .int .u8 241, .int .u8 243, .int .u8 128, .int .u8 191, .int .i64 4, .int .u8 240, .int .u8 244, .int .u8 244, .int .u8 128, .int .u8 143, .int .i64 4, .int .u8 240] t frozen | o => o).modify 16 fun | .cells _ t frozen => .cells #[.int .u8 0, .int .u8 1, .int .u8 28, .int .u8 2, .int .u8 29, .int .u8 14, .int .u8 24, .int .u8 3, .int .u8 30, .int .u8 22, .int .u8 20, .int .u8 15, .int .u8 25, .int .u8 17, .int .u8 4, .int .u8 8, .int .u8 31, .int .u8 27, .int .u8 13, .int .u8 23, .int .u8 21, .int .u8 19, .int .u8 16, .int .u8 7, .int .u8 26, .int .u8 12, .int .u8 18, .int .u8 6, .int .u8 11, .int .u8 5, .int .u8 10, .int .u8 9] t frozen | o => o).modify 17 fun | .cells _ t frozen => .cells #[.int .u8 0, .int .u8 1, .int .u8 56, .int .u8 2, .int .u8 57, .int .u8 49, .int .u8 28, .int .u8 3, .int .u8 61, .int .u8 58, .int .u8 42, .int .u8 50, .int .u8 38, .int .u8 29, .int .u8 17, .int .u8 4, .int .u8 62, .int .u8 47, .int .u8 59, .int .u8 36, .int .u8 45, .int .u8 43, .int .u8 51, .int .u8 22, .int .u8 53, .int .u8 39, .int .u8 33, .int .u8 30, .int .u8 24, .int .u8 18, .int .u8 12, .int .u8 5, .int .u8 63, .int .u8 55, .int .u8 48, .int .u8 27, .int .u8 60, .int .u8 41, .int .u8 37, .int .u8 16, .int .u8 46, .int .u8 35, .int .u8 44, .int .u8 21, .int .u8 52, .int .u8 32, .int .u8 23, .int .u8 11, .int .u8 54, .int .u8 26, .int .u8 40, .int .u8 15, .int .u8 34, .int .u8 20, .int .u8 31, .int .u8 10, .int .u8 25, .int .u8 14, .int .u8 19, .int .u8 9, .int .u8 13, .int .u8 8, .int .u8 7, .int .u8 6] t frozen | o => o).modify 19 fun | .cells _ t frozen => .cells #[.iface 223 (.pointer (some ⟨hold.heap.size + 11, 0, none⟩))] t frozen | o => o).modify 20 fun | .cells _ t frozen => .cells #[.iface 223 (.pointer (some ⟨hold.heap.size + 12, 0, none⟩))] t frozen | o => o).push (.cells #[.string ⟨#[97, 98, 111, 118, 101, 32, 97, 32, 108, 105, 109, 105, 116]⟩] 225)).push (.cells #[.string ⟨#[97, 32, 116, 101, 120, 116, 32, 111, 114, 32, 98, 121, 116, 101, 115, 32, 116, 104, 97, 116, 32, 99, 97, 110, 110, 111, 116, 32, 98, 101, 32, 114, 101, 97, 100]⟩] 225)).push (.cells #[.string ⟨#[97, 32, 110, 117, 109, 98, 101, 114, 32, 111, 114, 32, 97, 110, 32, 97, 114, 103, 117, 109, 101, 110, 116, 32, 105, 115, 32, 111, 117, 116, 32, 111, 102, 32, 105, 116, 115, 32, 112, 108, 97, 99, 101]⟩] 225)).push (.cells #[.string ⟨#[115, 111, 109, 101, 116, 104, 105, 110, 103, 32, 105, 115, 32, 109, 105, 115, 115, 105, 110, 103]⟩] 225)).push (.cells #[.string ⟨#[116, 104, 101, 114, 101, 32, 116, 119, 105, 99, 101]⟩] 225)).push (.cells #[.string ⟨#[110, 111, 116, 32, 105, 110, 32, 111, 114, 100, 101, 114]⟩] 225)).push (.cells #[.string ⟨#[110, 111, 116, 32, 116, 104, 101, 114, 101]⟩] 225)).push (.cells #[.string ⟨#[103, 111, 101, 115, 32, 114, 111, 117, 110, 100, 32, 105, 110, 32, 97, 32, 99, 105, 114, 99, 108, 101]⟩] 225)).push (.cells #[.string ⟨#[116, 104, 101, 32, 115, 117, 109, 32, 100, 111, 101, 115, 32, 110, 111, 116, 32, 102, 105, 116]⟩] 225)).push (.cells #[.string ⟨#[110, 111, 116, 32, 116, 104, 101, 32, 111, 110, 101, 32, 102, 111, 114, 109, 32, 116, 104, 97, 116, 32, 105, 115, 32, 119, 114, 105, 116, 116, 101, 110]⟩] 225)).push (.cells #[.string ⟨#[105, 116, 32, 104, 97, 115, 32, 101, 110, 100, 101, 100]⟩] 225)).push (.cells #[.string ⟨#[105, 110, 118, 97, 108, 105, 100, 32, 115, 121, 110, 116, 97, 120]⟩] 225)).push (.cells #[.string ⟨#[118, 97, 108, 117, 101, 32, 111, 117, 116, 32, 111, 102, 32, 114, 97, 110, 103, 101]⟩] 225)) }
set_option maxRecDepth 100000 in
theorem door_shaped (os : Os) (args : Array Value) : ((laidWorld (World.holding Tryz.prog os ⟨#[], #[], []⟩)).forCall (fun _ _ => 0) ⟨#[], args, []⟩).Shaped Tryz.prog :=
  World.shaped_of_RefB (by kernel_rfl) (by kernel_rfl)
/-- An input that fits, at a world that is written out. -/
theorem witness_row_shaped {H : Type} {enc : TypeId × Value → H} {C : Checked} {os : Os} {f : FuncId} {fn : Func} {s : OpenSpec} {conds : List PathCond} {apart : Bool} {laid : List (String × DataW Unit)} (w0 : World) (args : Array Value) (hos : w0.os = os)
    (hsh : (w0.forCall (fun _ _ => 0) ⟨#[], args, []⟩).Shaped C.prog)
    (hok : Input.okWideB C.prog (w0.forCall (fun _ _ => 0) ⟨#[], args, []⟩) f ⟨#[], args, []⟩ = true)
    (hrow : s.preRow enc C.prog fn conds apart laid (w0.forCall (fun _ _ => 0) ⟨#[], args, []⟩).memory args) :
    ∃ (w : World) (tape : Tape) (i : Input), w.os = os ∧ (w.forCall tape i).Shaped C.prog ∧ i.vars = [] ∧ Input.okWide C.prog (w.forCall tape i) .any w.heap.size f i ∧
      s.preRow enc C.prog fn conds apart laid (w.forCall tape i).memory i.args ∧ ({} : Assume).holds C.prog (lone (Frame.enter C.prog f i.args .normal) [] (w.forCall tape i)) :=
  ⟨w0, fun _ _ => 0, ⟨#[], args, []⟩, hos, hsh, (Input.okWide_of_okWideB (base := 0) hok).1, (Input.okWide_of_okWideB hok).2, hrow, by
    simp only [Assume.holds]
    exact ⟨by simp, by simp, by simp, by simp, by simp⟩⟩
theorem laidOut : laidOutB Tryz.prog = true := by kernel_rfl
set_option maxRecDepth 10000 in
/-- The frame of a law of one parameter that answers true, writes nothing that was there, and lists no variable among its readings. -/
theorem law_contract {H : Type} {enc : TypeId × Value → H} {f : FuncId} {fn : Func} {s : ChangeSpec} {t : TypeId} (hp : fn.params = #[t]) (hrt : fn.resultTypes = #[4]) (hvars : s.vars = [])
    (hfn : ∀ (K : Type) (d : DataW K), s.fn K [d] = { results := [.lit (.bool true)], args := [d] }) (hread : Tryz.prog.readableRec t = true) (hrow : t < Tryz.prog.types.size)
    (W : World) (base : Nat) (args : Array Value) (ds gs : List (DataW H)) (before : List MemPlace)
    (hval : ∀ (j : Nat) t v, fn.params[j]? = some t → args[j]? = some v → Value.okWide Tryz.prog W .any base t v)
    (hW : DataW.Whole enc Tryz.prog fn.params.toList s.vars false W args.toList ds gs before)
    (hsz : (DataW.weightsEach Tryz.prog (fn.params.toList ++ s.plain.varTypes Tryz.prog) (ds ++ gs)).all (· ≤ reachBytes) = true)
    (walk : ∀ (v : Value) (d : DataW H) (p : List MemPlace), Value.okWide Tryz.prog W .any base t v → DataW.Trod enc Tryz.prog W 0 (fun _ => true) true t v d p → (∀ x ∈ p, x.block < W.heap.size) → (∀ x ∈ d.weights Tryz.prog t, x ≤ reachBytes) → ds = [d] → gs = [] →
      Calls Tryz.prog f #[v] W fun e W' => e = .returned (.bool true) ∧ Below W.heap.size W W') :
    Calls Tryz.prog f args W fun e W' => ∃ v, e = .returned v ∧ s.post enc Tryz.prog fn false true false false W args v W' := by
  have hW' := hW
  obtain ⟨p, q, hA0, hV, rfl, hfz, hnd⟩ := hW
  have hA : DataW.TrodAll enc Tryz.prog W 0 (fun _ => true) true fn.params.toList args.toList ds p := hA0
  rw [hp] at hA hval hsz
  obtain ⟨v0, vs0, d0, ds0, p0, q0, hargs, rfl, rfl, h0, r0⟩ := trodAll_cons hA
  obtain ⟨rfl, rfl, rfl⟩ := trodAll_nil r0
  obtain rfl : args = #[v0] := by cases args; simp_all
  rw [hvars] at hV
  obtain ⟨rfl, rfl⟩ := trodVars_none hV
  have hlt : ∀ x ∈ p0, x.block < W.heap.size := fun x hx => by have := hW'.lt x (by simpa using hx); simpa using this
  have hw : ∀ x ∈ d0.weights Tryz.prog t, x ≤ reachBytes := fun x hx => by
    have := List.all_eq_true.1 hsz x (DataW.weights_mem_each (j := 0) (by simp) (by simp) x hx)
    simpa using this
  refine (walk v0 d0 p0 (hval 0 t v0 rfl rfl) h0 hlt hw rfl rfl).mono fun e W' ⟨he, hb⟩ => ?_
  subst he
  refine ⟨_, rfl, [d0], [], _, [], p0 ++ [], [], hW', ?_, ?_, ?_, hb.frame _, fun h => by cases h⟩
  · rw [hrt, show ([d0] ++ ([] : List (DataW H))) = [d0] from rfl, hfn]
    exact trodAll_cons_mk (shut_bool Tryz.underlying4 true) trodAll_mk0
  · rw [hp, show ([d0] ++ ([] : List (DataW H))) = [d0] from rfl, hfn]
    exact trodAll_cons_mk (Below.trod laidOut hread hrow h0 hb hlt) trodAll_mk0
  · rw [hvars, show ([d0] ++ ([] : List (DataW H))) = [d0] from rfl, hfn]
    rfl
set_option maxRecDepth 10000 in
/-- The same frame for a law without parameters. -/
theorem law_contract0 {H : Type} {enc : TypeId × Value → H} {f : FuncId} {fn : Func} {s : ChangeSpec} (hp : fn.params = #[]) (hrt : fn.resultTypes = #[4]) (hvars : s.vars = [])
    (hfn : ∀ (K : Type), s.fn K [] = { results := [.lit (.bool true)], args := [] })
    (W : World) (args : Array Value) (ds gs : List (DataW H)) (before : List MemPlace)
    (hW : DataW.Whole enc Tryz.prog fn.params.toList s.vars false W args.toList ds gs before)
    (walk : Calls Tryz.prog f #[] W fun e W' => e = .returned (.bool true) ∧ Below W.heap.size W W') :
    Calls Tryz.prog f args W fun e W' => ∃ v, e = .returned v ∧ s.post enc Tryz.prog fn false true false false W args v W' := by
  have hW' := hW
  obtain ⟨p, q, hA0, hV, rfl, hfz, hnd⟩ := hW
  have hA : DataW.TrodAll enc Tryz.prog W 0 (fun _ => true) true fn.params.toList args.toList ds p := hA0
  rw [hp] at hA
  obtain ⟨hargs, rfl, rfl⟩ := trodAll_nil hA
  obtain rfl : args = #[] := by cases args; simp_all
  rw [hvars] at hV
  obtain ⟨rfl, rfl⟩ := trodVars_none hV
  refine walk.mono fun e W' ⟨he, hb⟩ => ?_
  subst he
  refine ⟨_, rfl, [], [], _, [], [], [], hW', ?_, ?_, ?_, hb.frame _, fun h => by cases h⟩
  · rw [hrt, show (([] : List (DataW H)) ++ []) = [] from rfl, hfn]
    exact trodAll_cons_mk (shut_bool Tryz.underlying4 true) trodAll_mk0
  · rw [hp, show (([] : List (DataW H)) ++ []) = [] from rfl, hfn]
    exact trodAll_mk0
  · rw [hvars, show (([] : List (DataW H)) ++ []) = [] from rfl, hfn]
    rfl
end Go.Proofs.YtpkfcadihgbleaaGreatDoor
namespace Go.Proofs.YtpkfcadihgbleaaGreatDoor
open Go.ChangeShapes Go.WideShapes Go.ChangeAt Go.RowKit
theorem star : ("*" ++ "errors.errorString" : String) = "*errors.errorString" := by decide
theorem errRow (u : TypeId) (h : Tryz.prog.typeName? 3 u = some "*errors.errorString") : u = 223 :=
  typeName_ptr_named (nm := "errors.errorString") (by rw [star]; kernel_rfl) (by kernel_rfl) (by decide) u (by rw [star]; exact h)
theorem cellsErr : Tryz.prog.cellsOf 225 = 1 := by kernel_rfl
theorem cellsStr : Tryz.prog.cellsOf 9 = 1 := by kernel_rfl
/-- A listed refusal. -/
def sentRow (x : String × List UInt8) : String × DataW Unit := (x.1, .iface "*errors.errorString" (.ptr (.agg [.lit (.string x.2)])))
set_option maxRecDepth 10000 in
theorem sents_list {W : World} (rest : List (String × DataW Unit)) : ∀ (L : List (String × List UInt8)) (ps : List MemPlace),
    DataW.LaidVars Tryz.prog W (L.map sentRow ++ rest) ps → ps.Nodup →
    (∀ b off, MemPlace.cell b off ∈ ps → (∃ c t, W.heap[b]? = some (.cells c t (0, 0))) ∧ ∀ u v, W.cell? ⟨b, off, none⟩ = some (.iface u v) → Value.okWide Tryz.prog W .any 0 u v) →
    (∀ x ∈ L, ∀ g t, Tryz.prog.globalNamed x.1 = some g → (Tryz.prog.globals[g]?).map (·.type) = some t → t = 35) →
    ∃ xs : List Addr, xs.length = L.length ∧ xs.Nodup ∧ (∀ a ∈ xs, MemPlace.cell a.block a.off ∈ ps ∧ ∃ c t, W.heap[a.block]? = some (.cells c t (0, 0))) ∧
      ∀ i (h : i < L.length) g, Tryz.prog.globalNamed (L[i]).1 = some g → W.cell? ⟨g, 0, none⟩ = some (.iface 223 (.pointer (some (xs.getD i ⟨0, 0, none⟩)))) := by
  intro L
  induction L with
  | nil => intro ps _ _ _ _; exact ⟨[], rfl, List.nodup_nil, (fun a h => by cases h), fun i h => absurd h (Nat.not_lt_zero _)⟩
  | cons x L ih =>
    intro ps hl hnd hrows hty
    obtain ⟨g0, t0, cs0, f0, p0, q0, hg0, ht0, hv0, hd0, hl', rfl⟩ := hl
    obtain rfl := hty x List.mem_cons_self g0 t0 hg0 ht0
    obtain ⟨l0⟩ := cs0
    have ok0 : ∀ u v, l0 = [.iface u v] → Value.okWide Tryz.prog W .any 0 u v := fun u v e => by
      subst e
      exact (hrows g0 0 (by simp [MemPlace.row])).2 u v (by simpa using World.var?_cell hg0 hv0 0)
    obtain ⟨a, s, rfl, _, _, _, rfl⟩ := errorString_of_trod Tryz.underlying35 errRow Tryz.underlying223 Tryz.underlying225 rfl rfl Tryz.underlying9 cellsErr cellsStr hd0 ok0
    have hnd1 := List.nodup_append.1 hnd
    obtain ⟨xs, h1, h2, h3, h4⟩ := ih q0 hl' hnd1.2.1 (fun b off hb => hrows b off (List.mem_append_right _ hb)) (fun y hy => hty y (List.mem_cons_of_mem _ hy))
    have hmem : MemPlace.cell a.block a.off ∈ MemPlace.row ⟨g0, 0, none⟩ (#[Value.iface 223 (.pointer (some a))] : Array Value).size ++ MemPlace.row a 1 := by simp [MemPlace.row]
    refine ⟨a :: xs, by simp [h1], List.nodup_cons.2 ⟨fun hin => ?_, h2⟩, fun b hb => ?_, fun i hi g hg => ?_⟩
    · exact (hnd1.2.2 _ hmem _ (h3 a hin).1) rfl
    · rcases List.mem_cons.1 hb with rfl | hb
      · exact ⟨List.mem_append_left _ hmem, (hrows _ _ (List.mem_append_left _ hmem)).1⟩
      · exact ⟨List.mem_append_right _ (h3 b hb).1, (h3 b hb).2⟩
    · cases i with
      | zero =>
        have e : g = g0 := Option.some.inj (hg.symm.trans hg0)
        subst e
        simpa using World.var?_cell hg0 hv0 0
      | succ i => exact h4 i (by simpa using hi) g hg
/-- The text of a listed refusal. -/
def sentText : DataW Unit → List UInt8
  | .iface _ (.ptr (.agg [.lit (.string s)])) => s
  | _ => []
def sentList : List (String × List UInt8) := [("caesura/api.ErrArg", sentText Rows.laid_caesura_api_ErrArg), ("caesura/api.ErrText", sentText Rows.laid_caesura_api_ErrText), ("caesura/api.ErrMany", sentText Rows.laid_caesura_api_ErrMany), ("caesura/api.ErrShort", sentText Rows.laid_caesura_api_ErrShort), ("caesura/api.ErrTwice", sentText Rows.laid_caesura_api_ErrTwice), ("caesura/api.ErrLost", sentText Rows.laid_caesura_api_ErrLost), ("caesura/api.ErrOrder", sentText Rows.laid_caesura_api_ErrOrder), ("caesura/api.ErrCycle", sentText Rows.laid_caesura_api_ErrCycle), ("caesura/api.ErrSum", sentText Rows.laid_caesura_api_ErrSum), ("caesura/api.ErrForm", sentText Rows.laid_caesura_api_ErrForm), ("caesura/api.ErrEnd", sentText Rows.laid_caesura_api_ErrEnd)]
theorem sentTypes : ∀ x ∈ sentList, ∀ g t, Tryz.prog.globalNamed x.1 = some g → (Tryz.prog.globals[g]?).map (·.type) = some t → t = 35 := by
  have h : (sentList.all fun x => match Tryz.prog.globalNamed x.1 with | some g => (Tryz.prog.globals[g]?).map (·.type) == some 35 | none => true) = true := by kernel_rfl
  intro x hx g t hg ht
  have := List.all_eq_true.1 h x hx
  rw [hg] at this
  simp only [ht] at this
  simpa using this
theorem g_ErrArg : Tryz.prog.globalNamed "caesura/api.ErrArg" = some 2 := by kernel_rfl
theorem g_ErrText : Tryz.prog.globalNamed "caesura/api.ErrText" = some 1 := by kernel_rfl
theorem g_ErrMany : Tryz.prog.globalNamed "caesura/api.ErrMany" = some 0 := by kernel_rfl
theorem g_ErrShort : Tryz.prog.globalNamed "caesura/api.ErrShort" = some 3 := by kernel_rfl
theorem g_ErrTwice : Tryz.prog.globalNamed "caesura/api.ErrTwice" = some 4 := by kernel_rfl
theorem g_ErrLost : Tryz.prog.globalNamed "caesura/api.ErrLost" = some 6 := by kernel_rfl
theorem g_ErrOrder : Tryz.prog.globalNamed "caesura/api.ErrOrder" = some 5 := by kernel_rfl
theorem g_ErrCycle : Tryz.prog.globalNamed "caesura/api.ErrCycle" = some 7 := by kernel_rfl
theorem g_ErrSum : Tryz.prog.globalNamed "caesura/api.ErrSum" = some 8 := by kernel_rfl
theorem g_ErrForm : Tryz.prog.globalNamed "caesura/api.ErrForm" = some 9 := by kernel_rfl
theorem g_ErrEnd : Tryz.prog.globalNamed "caesura/api.ErrEnd" = some 10 := by kernel_rfl
theorem sents_of {W : World} {rest : List (String × DataW Unit)} (h : laidMet Tryz.prog (sentList.map sentRow ++ rest) W) : ∃ A, Sents W A := by
  obtain ⟨ps, hl, hnd, hrows⟩ := h
  obtain ⟨xs, h1, h2, h3, h4⟩ := sents_list rest sentList ps hl hnd hrows sentTypes
  have h11 : xs.length = 11 := h1
  refine ⟨fun i => xs.getD i ⟨0, 0, none⟩, h4 0 (by decide) _ g_ErrArg, h4 1 (by decide) _ g_ErrText, h4 2 (by decide) _ g_ErrMany, h4 3 (by decide) _ g_ErrShort, h4 4 (by decide) _ g_ErrTwice, h4 5 (by decide) _ g_ErrLost, h4 6 (by decide) _ g_ErrOrder, h4 7 (by decide) _ g_ErrCycle, h4 8 (by decide) _ g_ErrSum, h4 9 (by decide) _ g_ErrForm, h4 10 (by decide) _ g_ErrEnd, fun i j hi hj hij e => ?_, fun i hi => ?_⟩
  · have hi' : i < xs.length := by omega
    have hj' : j < xs.length := by omega
    simp only [List.getD_eq_getElem?_getD, List.getElem?_eq_getElem hi', List.getElem?_eq_getElem hj', Option.getD_some] at e
    exact hij ((List.getElem_inj h2).1 e)
  · have hi' : i < xs.length := by omega
    simp only [List.getD_eq_getElem?_getD, List.getElem?_eq_getElem hi', Option.getD_some]
    exact (h3 _ (List.getElem_mem hi')).2
end Go.Proofs.YtpkfcadihgbleaaGreatDoor
namespace Go.Proofs.YtpkfcadihgbleaaGreatDoor
open Go.ChangeShapes Go.WideShapes Go.ChangeAt Go.RowKit Go.Joins
theorem array_of {H : Type} {enc : TypeId × Value → H} {P : Program} {w : World} {base : Nat} {sp : Nat → Bool} {held : Bool} {fuel : Nat} {t e : TypeId} {n m : Nat} {cs : List Value} {ds : List (DataW H)} {p : List MemPlace}
    (ht : P.underlying t = some (.array n e)) (hce : P.cellsOf e = m) (h : DataW.trod enc P w base sp held fuel t cs = some (.agg ds, p)) (i : Nat) (hi : i < n) :
    ∃ fuel' d q, ds[i]? = some d ∧ DataW.trod enc P w base sp held fuel' e ((cs.drop (i * m)).take m) = some (d, q) := by
  cases fuel with
  | zero => simp [DataW.trod] at h
  | succ fuel =>
    simp only [DataW.trod, ht, hce] at h
    split at h
    · obtain ⟨xs, hm, hx⟩ := Option.map_eq_some_iff.1 h
      obtain ⟨b, hb, hf⟩ := Lib.mapM_at hm i i (by simp [hi])
      have hxs : xs.map (·.1) = ds := by
        have := congrArg Prod.fst hx
        simpa using this
      refine ⟨fuel, b.1, b.2, ?_, hf⟩
      rw [← hxs]
      simp [hb]
    · cases h
theorem struct_of {H : Type} {enc : TypeId × Value → H} {P : Program} {w : World} {base : Nat} {sp : Nat → Bool} {held : Bool} {fuel : Nat} {e : TypeId} {fs : Array Field} {cs : List Value} {ds : List (DataW H)} {p : List MemPlace}
    (he : P.underlying e = some (.struct fs)) (h : DataW.trod enc P w base sp held fuel e cs = some (.agg ds, p)) (k : Nat) (f : Field) (hk : fs.toList[k]? = some f) :
    ∃ fuel' d q, ds[k]? = some d ∧ DataW.trod enc P w base sp held fuel' f.type ((cs.drop f.offset).take (P.cellsOf f.type)) = some (d, q) := by
  cases fuel with
  | zero => simp [DataW.trod] at h
  | succ fuel =>
    simp only [DataW.trod, he] at h
    split at h
    · obtain ⟨xs, hm, hx⟩ := Option.map_eq_some_iff.1 h
      obtain ⟨b, hb, hf⟩ := Lib.mapM_at hm k f hk
      have hxs : xs.map (·.1) = ds := by
        have := congrArg Prod.fst hx
        simpa using this
      refine ⟨fuel, b.1, b.2, ?_, hf⟩
      rw [← hxs]
      simp [hb]
    · cases h
theorem gSeq : Tryz.prog.globalNamed "caesura/units.sequences" = some 15 := by kernel_rfl
theorem gSeqType : (Tryz.prog.globals[15]?).map (·.type) = some 192 := by kernel_rfl
theorem cellsRow : Tryz.prog.cellsOf 149 = 6 := by kernel_rfl
def rowLits {H : Type} (i : Nat) : List (DataW H) := [.lit (.int .u8 (tLo i)), .lit (.int .u8 (tHi i)), .lit (.int .u8 (tLo2 i)), .lit (.int .u8 (tHi2 i)), .lit (.int .i64 (tSz i)), .lit (.int .u8 (tMk i))]
theorem laid_rows : (Rows.laid_caesura_units_sequences : DataW Unit) = .agg ((List.range 9).map fun i => .agg (rowLits i)) := by rfl
theorem one_int {H : Type} {enc : TypeId × Value → H} {P : Program} {w : World} {base : Nat} {sp : Nat → Bool} {held : Bool} {fuel : Nat} {t : TypeId} {k : IntKind} {cs : List Value} {z : Int} {d : DataW H} {q : List MemPlace} (o : Nat)
    (ht : P.underlying t = some (.int k)) (hc : P.cellsOf t = 1) (h : DataW.trod enc P w base sp held fuel t ((cs.drop o).take (P.cellsOf t)) = some (d, q)) (hd : some d = some (.lit (.int k z))) : cs[o]? = some (.int k z) := by
  rw [hc] at h
  obtain ⟨z', hcs, e, _⟩ := DataW.trod_int ht h
  obtain rfl : d = _ := congrArg Prod.fst e
  simp only [Option.some.injEq, DataW.lit.injEq, Lit.int.injEq, true_and] at hd
  subst hd
  have := congrArg (·[0]?) hcs
  simpa [List.getElem?_take, List.getElem?_drop] using this
theorem seqAt_of {W : World} {rest : List (String × DataW Unit)} (h : laidMet Tryz.prog (("caesura/units.sequences", Rows.laid_caesura_units_sequences) :: rest) W) : SeqAt W := by
  obtain ⟨ps, ⟨g', t', cs, fuel, p, q, hg', ht', hvar, hd, _, _⟩, _⟩ := h
  obtain rfl := Option.some.inj (gSeq.symm.trans hg')
  obtain rfl := Option.some.inj (gSeqType.symm.trans ht')
  rw [laid_rows] at hd
  intro i hi k hk
  obtain ⟨f1, d1, q1, hd1, h1⟩ := array_of (m := 6) Tryz.underlying192 cellsRow hd i hi
  have e1 : d1 = .agg (rowLits i) := by simpa [hi] using hd1.symm
  subst e1
  have hc := World.var?_cell gSeq hvar (i * 6 + k)
  rw [hc]
  have key : ((cs.toList.drop (i * 6)).take 6)[k]? = (rowCells i)[k]? := by
    obtain rfl | rfl | rfl | rfl | rfl | rfl : k = 0 ∨ k = 1 ∨ k = 2 ∨ k = 3 ∨ k = 4 ∨ k = 5 := by omega
    · obtain ⟨f2, d2, q2, hd2, h2⟩ := struct_of Tryz.underlying149 h1 0 _ rfl
      exact one_int 0 Tryz.underlying5 (by kernel_rfl) h2 hd2.symm
    · obtain ⟨f2, d2, q2, hd2, h2⟩ := struct_of Tryz.underlying149 h1 1 _ rfl
      exact one_int 1 Tryz.underlying5 (by kernel_rfl) h2 hd2.symm
    · obtain ⟨f2, d2, q2, hd2, h2⟩ := struct_of Tryz.underlying149 h1 2 _ rfl
      exact one_int 2 Tryz.underlying5 (by kernel_rfl) h2 hd2.symm
    · obtain ⟨f2, d2, q2, hd2, h2⟩ := struct_of Tryz.underlying149 h1 3 _ rfl
      exact one_int 3 Tryz.underlying5 (by kernel_rfl) h2 hd2.symm
    · obtain ⟨f2, d2, q2, hd2, h2⟩ := struct_of Tryz.underlying149 h1 4 _ rfl
      exact one_int 4 Tryz.underlying3 (by kernel_rfl) h2 hd2.symm
    · obtain ⟨f2, d2, q2, hd2, h2⟩ := struct_of Tryz.underlying149 h1 5 _ rfl
      exact one_int 5 Tryz.underlying5 (by kernel_rfl) h2 hd2.symm
  rw [← key, List.getElem?_take, if_pos hk, List.getElem?_drop]
  simp
end Go.Proofs.YtpkfcadihgbleaaGreatDoor
namespace Go.Proofs.YtpkfcadihgbleaaGreatDoor
open Go.ChangeShapes Go.WideShapes Go.ChangeAt Go.RowKit Go.Joins
theorem laid_tail {P : Program} {w : World} {x : String × DataW Unit} {l : List (String × DataW Unit)} (h : laidMet P (x :: l) w) : laidMet P l w := by
  obtain ⟨ps, hl, hnd, hrows⟩ := h
  obtain ⟨g0, t0, cs0, f0, p0, q0, hg0, ht0, hv0, hd0, hl', rfl⟩ := hl
  exact ⟨q0, hl', (List.nodup_append.1 hnd).2.1, fun b off hb => hrows b off (List.mem_append_right _ hb)⟩
theorem mx_of {W : World} (h : W.ShapedOpen Tryz.prog) : Mx W :=
  cell_of_shapedOpen_int (g := 11) (t := 3) (zero := #[.int .i64 0]) (k := .i64) h (of_decide_eq_true (by kernel_rfl)) (by kernel_rfl) rfl (by kernel_rfl) (by kernel_rfl) Tryz.underlying3
theorem cellsBool : Tryz.prog.cellsOf 4 = 1 := by kernel_rfl
theorem cellsEdit : Tryz.prog.cellsOf 32 = 2 := by kernel_rfl
theorem cellsEdits : Tryz.prog.cellsOf 28 = 1 := by kernel_rfl
theorem cellsSec : Tryz.prog.cellsOf 30 = 3 := by kernel_rfl
theorem cellsSecs : Tryz.prog.cellsOf 22 = 1 := by kernel_rfl
theorem cellsBundle : Tryz.prog.cellsOf 24 = 1 := by kernel_rfl
theorem lt_of_cell {W : World} {b o : Nat} {u : Value} (h : W.cell? ⟨b, o, none⟩ = some u) : b < W.heap.size := World.block_lt_of_cell? W _ h
theorem bulk_one {H : Type} (D : Nat → DataW H) (l : List Nat) (h : ∀ i ∈ l, 1 ≤ Rows.uptoBulk (D i)) : l.length ≤ Rows.uptoBulkAll (l.map D) := by
  induction l with
  | nil => simp
  | cons x r ih => rw [List.map_cons, Rows.uptoBulkAll, List.length_cons]; have h1 := h x (.head _); have := ih (fun i hi => h i (.tail _ hi)); omega
theorem bulk_mem {H : Type} (D : Nat → DataW H) (l : List Nat) (i : Nat) (h : i ∈ l) : Rows.uptoBulk (D i) ≤ Rows.uptoBulkAll (l.map D) := by
  induction l with
  | nil => cases h
  | cons x r ih =>
    rw [List.map_cons, Rows.uptoBulkAll]
    rcases List.mem_cons.1 h with rfl | h
    · omega
    · have := ih h; omega
theorem bulk_pos {H : Type} (d : DataW H) : 1 ≤ Rows.uptoBulk d := by
  cases d with
  | lit l => cases l <;> simp [Rows.uptoBulk]
  | _ => simp [Rows.uptoBulk]
theorem bulk_four {H : Type} (D : Nat → DataW H) (l : List Nat) (h : ∀ i ∈ l, 4 ≤ Rows.uptoBulk (D i)) : l.length * 4 ≤ Rows.uptoBulkAll (l.map D) := by
  induction l with
  | nil => simp
  | cons x r ih => rw [List.map_cons, Rows.uptoBulkAll, List.length_cons]; have h1 := h x (.head _); have := ih (fun i hi => h i (.tail _ hi)); omega
set_option maxRecDepth 100000 in
theorem open_edit {H : Type} {enc : TypeId × Value → H} {w : World} {base : Nat} {spare : Nat → Bool} {held : Bool} {n : Nat} {a : Addr} {i : Nat} {cs : List Value} {x : DataW H × List MemPlace}
    (h1 : w.cells? base (a.add (i * 2)) 2 = some cs) (h2 : DataW.trod enc Tryz.prog w base spare held n 32 cs = some x) :
    ∃ t : Bool × ByteArray, (i = 0 → a.spot = none) ∧ (a.spot = none → w.cell? ⟨a.block, a.off + i * 2, none⟩ = some (.bool t.1) ∧ w.cell? ⟨a.block, a.off + i * 2 + 1, none⟩ = some (.string t.2)) ∧ 1 ≤ Rows.uptoBulk x.1 ∧ t.2.size ≤ Rows.uptoBulk x.1 := by
  obtain ⟨_, hlen, hcell⟩ := World.cells?_some h1
  obtain ⟨xs, k, _, hx, _, hxl, hfs⟩ := DataW.trod_struct Tryz.underlying32 h2
  match cs, hlen with
  | [v0, v1], _ =>
    obtain ⟨y0, y1, rfl⟩ : ∃ y0 y1, xs = [y0, y1] := by
      match xs, hxl with
      | [y0, y1], _ => exact ⟨y0, y1, rfl⟩
    have f0 := hfs 0 _ rfl
    have f1 := hfs 1 _ rfl
    simp [cellsBool] at f0
    simp [cellsStr] at f1
    obtain ⟨m0, e0, _⟩ := DataW.trod_bool Tryz.underlying4 f0
    obtain ⟨m1, e1, rfl, _⟩ := DataW.trod_string Tryz.underlying9 f1
    simp only [List.cons.injEq, and_true] at e0 e1
    subst e0 e1
    have q0 := hcell 0 (by omega)
    have q1 := hcell 1 (by omega)
    rw [Deep.add_add] at q0 q1
    refine ⟨(m0, m1), fun hi => ?_, fun hsp => ?_, ?_, ?_⟩
    · subst hi
      exact World.cell?_spot q0
    · obtain ⟨ab, ao, asp⟩ := a
      simp only at hsp
      subst hsp
      rw [WideShapes.add_plain] at q0 q1
      exact ⟨by simpa using q0, by simpa [Nat.add_assoc] using q1⟩
    · rw [hx]; simp [Rows.uptoBulk]
    · rw [hx]; simp [Rows.uptoBulk, Rows.uptoBulkAll]; omega
/-- Edits that are read. -/
theorem open_edits {H : Type} {enc : TypeId × Value → H} {W : World} {n : Nat} {c : Value} {x : DataW H × List MemPlace} (h : DataW.trod enc Tryz.prog W 0 (fun _ => true) true n 28 [c] = some x) :
    ∃ (a : Option Addr) (S : List (Bool × ByteArray)) (cap : Nat), c = .slice a S.length cap ∧ EA W a S ∧ (a = none → cap = 0) ∧ S.length ≤ Rows.uptoBulk x.1 ∧ ∀ e ∈ S, e.2.size ≤ Rows.uptoBulk x.1 := by
  rcases Deep.open_slice Tryz.underlying28 h with ⟨h0, rfl⟩ | ⟨a, len, cap, m, n', D, Pl, hc, hb, hl, hm, hmm, rfl, hx⟩
  · simp only [List.cons.injEq, and_true] at h0
    exact ⟨none, [], 0, h0, ⟨fun k h => absurd h (Nat.not_lt_zero _)⟩, fun _ => rfl, by simp, fun e he => by cases he⟩
  · simp only [List.cons.injEq, and_true] at hc
    have hlm : len ≤ m := by rw [hmm]; split <;> omega
    rw [cellsEdit] at hx
    obtain ⟨T, hT⟩ := Deep.choose_lt (n := len) (fun i hi => by obtain ⟨cs, q1, q2⟩ := hx i (by omega); exact open_edit q1 q2)
    have hlen : ((List.range len).map T).length = len := by simp
    refine ⟨some a, (List.range len).map T, cap, by rw [hlen]; exact hc, ⟨fun k hk => ?_⟩, (fun e => nomatch e), ?_, fun e he => ?_⟩
    · rw [hlen] at hk
      have et : ((List.range len).map T)[k]'(by rw [hlen]; exact hk) = T k := by simp
      obtain ⟨_, p2, _⟩ := hT k hk
      have hsp := (hT 0 (by omega)).1 rfl
      obtain ⟨ab, ao, asp⟩ := a
      simp only at hsp
      subst hsp
      have p3 := p2 rfl
      refine ⟨ab, ao, rfl, lt_of_cell p3.1, ?_⟩
      rw [et]
      exact p3
    · have := bulk_one D (List.range len) (fun i hi => (hT i (by simpa using hi)).2.2.1)
      rw [hlen]
      simp only [Rows.uptoBulk]
      simp only [List.length_range] at this
      omega
    · obtain ⟨i, hi, rfl⟩ := List.mem_map.1 he
      have h1 : (T i).2.size ≤ Rows.uptoBulk (D i) := (hT i (by simpa using hi)).2.2.2
      have h2 := bulk_mem D (List.range len) i hi
      simp only [Rows.uptoBulk]
      omega
/-- A section that is read. -/
structure SecR where
  s : Sec
  a : Option Addr
  c : Nat
instance : Inhabited SecR := ⟨⟨⟨⟨#[]⟩, ⟨#[]⟩, []⟩, none, 0⟩⟩
set_option maxRecDepth 100000 in
theorem open_sec {H : Type} {enc : TypeId × Value → H} {w : World} {n : Nat} {a : Addr} {i : Nat} {cs : List Value} {x : DataW H × List MemPlace}
    (h1 : w.cells? 0 (a.add (i * 3)) 3 = some cs) (h2 : DataW.trod enc Tryz.prog w 0 (fun _ => true) true n 30 cs = some x) :
    ∃ t : SecR, (i = 0 → a.spot = none) ∧ (a.spot = none → w.cell? ⟨a.block, a.off + i * 3, none⟩ = some (.string t.s.loc) ∧ w.cell? ⟨a.block, a.off + i * 3 + 1, none⟩ = some (.string t.s.par) ∧ w.cell? ⟨a.block, a.off + i * 3 + 2, none⟩ = some (.slice t.a t.s.ed.length t.c)) ∧
      EA w t.a t.s.ed ∧ (t.a = none → t.c = 0) ∧ 4 ≤ Rows.uptoBulk x.1 ∧ t.s.ed.length ≤ Rows.uptoBulk x.1 ∧ ∀ e ∈ t.s.ed, e.2.size ≤ Rows.uptoBulk x.1 := by
  obtain ⟨_, hlen, hcell⟩ := World.cells?_some h1
  obtain ⟨xs, k, _, hx, _, hxl, hfs⟩ := DataW.trod_struct Tryz.underlying30 h2
  match cs, hlen with
  | [v0, v1, v2], _ =>
    obtain ⟨y0, y1, y2, rfl⟩ : ∃ y0 y1 y2, xs = [y0, y1, y2] := by
      match xs, hxl with
      | [y0, y1, y2], _ => exact ⟨y0, y1, y2, rfl⟩
    have f0 := hfs 0 _ rfl
    have f1 := hfs 1 _ rfl
    have f2 := hfs 2 _ rfl
    simp [cellsStr] at f0 f1
    simp [cellsEdits] at f2
    obtain ⟨m0, e0, _⟩ := DataW.trod_string Tryz.underlying9 f0
    obtain ⟨m1, e1, _⟩ := DataW.trod_string Tryz.underlying9 f1
    obtain ⟨ae, ed, ce, e2, hea, hnil, hb1, hb2⟩ := open_edits f2
    simp only [List.cons.injEq, and_true] at e0 e1
    subst e0 e1 e2
    have q0 := hcell 0 (by omega)
    have q1 := hcell 1 (by omega)
    have q2 := hcell 2 (by omega)
    rw [Deep.add_add] at q0 q1 q2
    have hbx : Rows.uptoBulk y2.1 ≤ Rows.uptoBulk x.1 := by rw [hx]; simp [Rows.uptoBulk, Rows.uptoBulkAll]; omega
    refine ⟨⟨⟨m0, m1, ed⟩, ae, ce⟩, fun hi => ?_, fun hsp => ?_, hea, hnil, ?_, Nat.le_trans hb1 hbx, fun e he => Nat.le_trans (hb2 e he) hbx⟩
    · subst hi
      exact World.cell?_spot q0
    · obtain ⟨ab, ao, asp⟩ := a
      simp only at hsp
      subst hsp
      rw [WideShapes.add_plain] at q0 q1 q2
      exact ⟨by simpa using q0, by simpa [Nat.add_assoc] using q1, by simpa [Nat.add_assoc] using q2⟩
    · have b0 := bulk_pos y0.1
      have b1 := bulk_pos y1.1
      have b2 := bulk_pos y2.1
      rw [hx]; simp [Rows.uptoBulk, Rows.uptoBulkAll]; omega
/-- Sections that are read. -/
theorem open_secs {H : Type} {enc : TypeId × Value → H} {W : World} {n : Nat} {c : Value} {x : DataW H × List MemPlace} (h : DataW.trod enc Tryz.prog W 0 (fun _ => true) true n 22 [c] = some x) :
    ∃ (a : Option Addr) (S : List Sec) (cap : Nat), c = .slice a S.length cap ∧ S.length ≤ cap ∧ XB W a S ∧ S.length * 4 ≤ Rows.uptoBulk x.1 ∧ (∀ s ∈ S, s.ed.length ≤ Rows.uptoBulk x.1) ∧ ∀ s ∈ S, ∀ e ∈ s.ed, e.2.size ≤ Rows.uptoBulk x.1 := by
  rcases Deep.open_slice Tryz.underlying22 h with ⟨h0, rfl⟩ | ⟨a, len, cap, m, n', D, Pl, hc, hb, hl, hm, hmm, rfl, hx⟩
  · simp only [List.cons.injEq, and_true] at h0
    exact ⟨none, [], 0, h0, Nat.le_refl _, ⟨fun k h => absurd h (Nat.not_lt_zero _)⟩, by simp, (fun s hs => by cases hs), (fun s hs => by cases hs)⟩
  · simp only [List.cons.injEq, and_true] at hc
    have hlm : len ≤ m := by rw [hmm]; split <;> omega
    rw [cellsSec] at hx
    obtain ⟨T, hT⟩ := Deep.choose_lt (n := len) (fun i hi => by obtain ⟨cs, q1, q2⟩ := hx i (by omega); exact open_sec q1 q2)
    have hlen : ((List.range len).map fun i => (T i).s).length = len := by simp
    refine ⟨some a, (List.range len).map fun i => (T i).s, cap, by rw [hlen]; exact hc, by rw [hlen]; omega, ⟨fun k hk => ?_⟩, ?_, fun s hs => ?_, fun s hs e he => ?_⟩
    · rw [hlen] at hk
      have et : ((List.range len).map fun i => (T i).s)[k]'(by rw [hlen]; exact hk) = (T k).s := by simp
      obtain ⟨_, p2, p4, p5, _⟩ := hT k hk
      have hsp := (hT 0 (by omega)).1 rfl
      obtain ⟨ab, ao, asp⟩ := a
      simp only at hsp
      subst hsp
      have p3 := p2 rfl
      refine ⟨ab, ao, (T k).a, (T k).c, rfl, lt_of_cell p3.1, ?_⟩
      rw [et]
      exact ⟨p3.1, p3.2.1, p3.2.2, p4, p5⟩
    · have := bulk_four D (List.range len) (fun i hi => (hT i (by simpa using hi)).2.2.2.2.1)
      rw [hlen]
      simp only [Rows.uptoBulk]
      simp only [List.length_range] at this
      omega
    · obtain ⟨i, hi, rfl⟩ := List.mem_map.1 hs
      have h1 : (T i).s.ed.length ≤ Rows.uptoBulk (D i) := (hT i (by simpa using hi)).2.2.2.2.2.1
      have h2 := bulk_mem D (List.range len) i hi
      simp only [Rows.uptoBulk]
      omega
    · obtain ⟨i, hi, rfl⟩ := List.mem_map.1 hs
      have h1 : e.2.size ≤ Rows.uptoBulk (D i) := (hT i (by simpa using hi)).2.2.2.2.2.2 e he
      have h2 := bulk_mem D (List.range len) i hi
      simp only [Rows.uptoBulk]
      omega
theorem g64 : Tryz.prog.globalNamed "math/bits.deBruijn64tab" = some 17 := by kernel_rfl
theorem g64Type : (Tryz.prog.globals[17]?).map (·.type) = some 202 := by kernel_rfl
theorem cells64 : Tryz.prog.cellsOf 202 = 64 := by kernel_rfl
theorem cellsU8 : Tryz.prog.cellsOf 5 = 1 := by kernel_rfl
def tab64 : List Int := [0, 1, 56, 2, 57, 49, 28, 3, 61, 58, 42, 50, 38, 29, 17, 4, 62, 47, 59, 36, 45, 43, 51, 22, 53, 39, 33, 30, 24, 18, 12, 5, 63, 55, 48, 27, 60, 41, 37, 16, 46, 35, 44, 21, 52, 32, 23, 11, 54, 26, 40, 15, 34, 20, 31, 10, 25, 14, 19, 9, 13, 8, 7, 6]
theorem tab64_at : ∀ j, j < Lib.deBruijn64tab.length → tab64.getD j 0 = ((Lib.deBruijn64tab.getD j 0 : Nat) : Int) := by decide
theorem tab_of {W : World} {rest : List (String × DataW Unit)} (h : laidMet Tryz.prog (("math/bits.deBruijn64tab", Rows.laid_math_bits_deBruijn64tab) :: rest) W) : TabAt 17 Lib.deBruijn64tab W := by
  have ht : Lib.TabIs Tryz.prog W "math/bits.deBruijn64tab" .u8 tab64 :=
    Lib.tabIs_of_head (rest := rest) g64 g64Type Tryz.underlying202 Tryz.underlying5 cellsU8 cells64 h
  intro j hj
  have hc := ht.cell g64 j (by have e : tab64.length = Lib.deBruijn64tab.length := rfl; omega)
  rw [hc, tab64_at j hj]
set_option maxRecDepth 100000 in
theorem open_bundle {H : Type} {enc : TypeId × Value → H} {W : World} {base : Nat} {v : Value} {d : DataW H} {p : List MemPlace} (hv : Value.okWide Tryz.prog W .any base 24 v)
    (h0 : DataW.Trod enc Tryz.prog W 0 (fun _ => true) true 24 v d p) (hk : Rows.uptoSmall H ([d] ++ []) = true) :
    ∃ (a : Option Addr) (S : List Sec) (cap : Nat), v = .agg #[.slice a S.length cap] ∧ XB W a S ∧ S.length ≤ 1000000 ∧ (∀ s ∈ S, s.ed.length ≤ 1048576) ∧ (∀ s ∈ S, ∀ e ∈ s.ed, e.2.size ≤ 1048576) := by
  obtain ⟨fuel, hf⟩ := h0
  have hcs : ∃ cs, v = .agg cs := by
    simp only [Value.okWide, Tryz.underlying24] at hv
    obtain ⟨cs, h1, _⟩ := hv
    exact ⟨cs, h1⟩
  obtain ⟨cs, rfl⟩ := hcs
  obtain ⟨xs, n, _, hx, hlen, hxl, hfs⟩ := DataW.trod_struct Tryz.underlying24 hf
  rw [cellsBundle] at hlen
  obtain ⟨l⟩ := cs
  match l, hlen with
  | [c0], _ =>
    obtain ⟨z0, rfl⟩ : ∃ z0, xs = [z0] := by
      match xs, hxl with
      | [z0], _ => exact ⟨z0, rfl⟩
    have g0 := hfs 0 _ rfl
    simp [Value.cells, cellsSecs] at g0
    obtain ⟨a, S, cap, e0, _, hxb, hb1, hb2, hb3⟩ := open_secs g0
    subst e0
    have hd : d = .agg [z0.1] := by have := congrArg Prod.fst hx; simpa using this
    have hs := of_decide_eq_true hk
    rw [hd] at hs
    simp only [List.append_nil, Rows.uptoBulkAll, Rows.uptoBulk] at hs
    exact ⟨a, S, cap, rfl, hxb, by omega, fun s h => by have := hb2 s h; omega, fun s h e he => by have := hb3 s h e he; omega⟩
set_option maxRecDepth 100000 in
theorem bundlePrints_walk {H : Type} (enc : TypeId × Value → H) (W : World) (base : Nat) (hL : laidMetH Tryz.prog Rows.bundlePrintsUptoRow.laid W) (hSh : W.ShapedOpen Tryz.prog) (v : Value) (d : DataW H) (p : List MemPlace) (hv : Value.okWide Tryz.prog W .any base 24 v)
    (h0 : DataW.Trod enc Tryz.prog W 0 (fun _ => true) true 24 v d p) (_hlt : ∀ x ∈ p, x.block < W.heap.size) (_hw : ∀ x ∈ d.weights Tryz.prog 24, x ≤ reachBytes) (hk : Rows.uptoSmall H ([d] ++ []) = true) :
    Calls Tryz.prog 3 #[v] W fun e W' => e = .returned (.bool true) ∧ Below W.heap.size W W' := by
  obtain ⟨a, S, cap, rfl, hxb, hb1, hb2, hb3⟩ := open_bundle hv h0 hk
  have hL0 : laidMet Tryz.prog Rows.bundlePrintsUptoRow.laid W := hL
  have hD := tab_of (laid_tail hL0)
  have hL4 := laid_tail (laid_tail (laid_tail (laid_tail hL0)))
  obtain ⟨A, hA⟩ := sents_of (rest := [("caesura/units.sequences", Rows.laid_caesura_units_sequences), ("unicode.CaseRanges", Rows.laid_unicode_CaseRanges), ("unicode/utf8.first", Rows.laid_unicode_utf8_first)]) hL4
  have hQ : SeqAt W := seqAt_of (laid_tail (laid_tail (laid_tail (laid_tail (laid_tail (laid_tail (laid_tail (laid_tail (laid_tail (laid_tail (laid_tail hL4)))))))))))
  exact bundlePrints_any A S a cap W hb1 (fun s h => Nat.le_trans (hb2 s h) (by decide)) (fun s h e he => Nat.le_trans (hb3 s h e he) (by decide)) ⟨mx_of hSh, hQ, hD, hA⟩ hxb
set_option maxRecDepth 100000 in
theorem bundlePrints_lifted (os : Os) (started : os.Started) (H : Type) (enc : TypeId × Value → H) (F : Stop.Interp) :
    ReturnsInHanded {} Tryz.checked os 3 .any ((Rows.OpenSpec.upto Rows.bundlePrintsSpec).preRow enc Tryz.prog Tryz.f3 Rows.bundlePrintsUptoRow.domain false Rows.bundlePrintsUptoRow.laid) (((Rows.OpenSpec.upto Rows.bundlePrintsSpec).at F).post enc Tryz.prog Tryz.f3 false true false false) := by
  refine returnsInHanded_of_row (C := Tryz.checked) (s := Rows.OpenSpec.upto Rows.bundlePrintsSpec) own started (by kernel_rfl) Tryz.func3
    (witness_row_shaped (enc := enc) (C := Tryz.checked) (World.laidAll Tryz.prog os Rows.bundlePrintsUptoRow.laid) #[.agg #[.slice none 0 0]] (World.laidAll_os _ _ _) (World.shaped_of_ZipB (by kernel_rfl) (by kernel_rfl)) (by kernel_rfl)
      (OpenSpec.preRow_of_cond 8 (x := ([.agg [.nil]], [], [])) (by kernel_rfl) (by kernel_rfl) (fun k hk => by cases hk; kernel_rfl) (by kernel_rfl) (laidMet_laidAll _ (by kernel_rfl) (by kernel_rfl)))) ?_
  intro W base args ds gs before hval hW _ hcond hsz hL hSh _
  exact law_contract rfl rfl rfl (fun _ _ => rfl) (by kernel_rfl) (of_decide_eq_true (by kernel_rfl)) W base args ds gs before hval hW hsz (fun v d p hv h0 hlt hw e1 e2 => bundlePrints_walk enc W base hL hSh v d p hv h0 hlt hw (by have := hcond _ rfl; rw [e1, e2] at this; exact this))
theorem bundlePrints_said : Rows.BundlePrintsUptoSaid :=
  OpenClaim.holds_of_cond 3 Tryz.f3 rfl rfl rfl rfl rfl rfl rfl ⟨rfl, rfl, rfl, rfl, rfl⟩ rfl rfl rfl rfl rfl (by kernel_rfl) Tryz.func3 (by kernel_rfl)
    (of_decide_eq_true (by kernel_rfl)) (by unfold Func.isWrapper; first | (rw [if_pos (by decide +kernel)]; kernel_rfl) | (rw [if_neg (by decide +kernel)]; exact ⟨rfl, rfl⟩))
    (fun os started H enc _ F => by rw [OpenClaim.pre_eq_preRow]; exact bundlePrints_lifted os started H enc F)
theorem bundlePrints_plain (f : FuncId) (fn : Func) (hf : Tryz.pinned.checked.prog.funcNamed "caesura/caesuralaw6.BundlePrints" = some f) (hfn : Tryz.pinned.checked.prog.funcs[f]? = some fn) :
    true = Tryz.pinned.checked.prog.looks [] ∧ ∀ (j : Nat) t, fn.params[j]? = some t → Tryz.pinned.checked.prog.wantsStandIn t = false := by
  obtain rfl : f = 3 := Option.some.inj ((show Tryz.prog.funcNamed "caesura/caesuralaw6.BundlePrints" = some 3 by kernel_rfl).symm.trans hf) |>.symm
  obtain rfl : fn = Tryz.f3 := (Option.some.inj (Tryz.func3.symm.trans hfn)).symm
  refine ⟨by kernel_rfl, fun j t ht => ?_⟩
  rw [Tryz.params3] at ht
  obtain rfl : t = 24 := by simpa using Array.mem_of_getElem? ht
  exact (show Tryz.prog.wantsStandIn 24 = false by kernel_rfl)
theorem bundlePrints_card : Rows.BundlePrintsUptoCardSaid :=
  Claim7.holds_tied_plain_at .later [] _ _ _ _ bundlePrints_said (fun _ h => by cases h) (by kernel_rfl) (fun _ h => by cases h) bundlePrintsUpto_row_tie rfl ⟨rfl, rfl⟩ (by kernel_rfl) rfl bundlePrints_plain (by kernel_rfl)
end Go.Proofs.YtpkfcadihgbleaaGreatDoor
