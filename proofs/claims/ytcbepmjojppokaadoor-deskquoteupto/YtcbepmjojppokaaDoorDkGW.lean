/-
  The walk of desk.Words (stage 25).
-/
import Derived.Test.YtcbepmjojppokaaDoorDkFW
import Derived.Lib.TrimAscii
namespace Go.Proofs.YtcbepmjojppokaaDoor
open Go.RowKit Go.Shelf
abbrev isSp (c : UInt8) : Bool := c == 32
theorem sp_contains (c : UInt8) : ([32] : Dy).contains c = isSp c := by rw [Bool.eq_iff_iff]; simp [isSp]
theorem trimL_same (l : Dy) : Lib.trimLeftS l [32] = l.dropWhile isSp := by
  have e : (fun c => ([32] : Dy).contains c) = isSp := funext sp_contains
  unfold Lib.trimLeftS
  rw [e]
theorem trimLeft_any (l : Dy) (w : World) : Calls Tryd.prog 17 #[.string (rd l), .string ⟨#[32]⟩] w fun e w' => e = .returned (.string (rd (l.dropWhile isSp))) ∧ Below w.heap.size w w' := by
  have h := Any.strings_TrimLeft_laid Tryd.lays161 (by kernel_rfl) (rd l) ⟨#[32]⟩ w (by decide) (ascii_of_all (by decide))
  rw [show (⟨#[32]⟩ : ByteArray).data.toList = [32] from rfl, trimL_same] at h
  exact h
/-- The refusal. -/
abbrev errT (A1 : Addr) : Value := .iface 79 (.pointer (some A1))
/-- What Words answers. -/
def WdsO (A1 : Addr) (base : Nat) (w : World) (l : Dy) (e : Ending) (w' : World) : Prop :=
  match wdS 0 l with
  | none => e = .returned (.tuple #[.slice none 0 0, errT A1]) ∧ Below base w w'
  | some L => ∃ v, e = .returned (.tuple #[v, .nilIface]) ∧ OwnS w' base v L ∧ Below base w w'
/-- Where the reading stands. -/
structure WI (w wr : World) (l q : Dy) (v : Value) (L : List Dy) : Prop where
  eq : wdS 0 l = (wdS 0 q).map fun M => L ++ M
  own : OwnS wr w.heap.size v L
  bel : Below w.heap.size w wr
  len : L.length + q.length ≤ l.length
  head : ∀ c r, q = c :: r → ¬ c = 32
theorem dw_head (l : Dy) : ∀ c r, l.dropWhile isSp = c :: r → ¬ c = 32 := by
  induction l with
  | nil => intro c r h; cases h
  | cons a m ih =>
    intro c r h
    rw [List.dropWhile_cons] at h
    by_cases ha : isSp a = true
    · rw [if_pos ha] at h; exact ih c r h
    · rw [if_neg ha] at h
      cases h
      intro e
      subst e
      exact ha rfl
theorem dw_le (l : Dy) : (l.dropWhile isSp).length ≤ l.length := (List.dropWhile_sublist isSp).length_le
set_option maxRecDepth 10000 in
set_option maxHeartbeats 1600000 in
theorem words_any (l : Dy) (A1 : Addr) (w : World) (hl : l.length ≤ 4000000000000) (ht : w.cell? ⟨1, 0, none⟩ = some (errT A1)) :
    Calls Tryd.prog 6 #[.string (rd l)] w fun e w' => Hid (WdsO A1 w.heap.size w l e w') := by
  obtain ⟨i0, hi, hz0, hz1, hz2⟩ := info_parts infoStr
  have HT : Hid (∀ W, Below w.heap.size w W → W.cell? ⟨1, 0, none⟩ = some (errT A1)) := hid0 (fun W hW => (hW.cell (p := ⟨1, 0, none⟩) (World.block_lt_of_cell? w _ ht)).trans ht)
  have HR := hid0 (trimLeft_any l w)
  have HI0 : Hid (∀ w', Below w.heap.size w w' → WI w w' l (l.dropWhile isSp) (.slice none 0 0) []) := hid0 (fun w' h => ⟨by rw [wdS_trim l]; simp, World.ownsRow_nil _ _ _ _, h, by have := dw_le l; simp; omega, dw_head l⟩)
  have HL := hid0 hl
  clear ht hl
  go_enter Tryd.func6, Tryd.ntmps6
  go_wp2_with (go_at_call 17; refine HR.out.mono ?_; rintro e w1 ⟨rfl, h1⟩; have HI1 := hid0 (HI0.out w1 h1); clear h1)
  go_loopw [4, 5, 6, 7] (fun v s _ _ wr => ∃ (q : Dy) (L : List Dy), s = .string (rd q) ∧ (∃ a n c, v = .slice a n c) ∧ Hid (WI w wr l q v L)) (fun _ s _ _ _ => match s with | .string b => b.size | _ => 0)
  case atStart => exact ⟨_, [], rfl, ⟨_, _, _, rfl⟩, HI1⟩
  case round =>
    obtain ⟨q, L, rfl, ⟨a, n, cap, rfl⟩, HI⟩ := hrel
    cases q with
    | nil =>
      have hE2 : (rd []).toList.isEmpty = true := empty_rd []
      have HO : Hid (WdsO A1 w.heap.size w l (.returned (.tuple #[.slice a n cap, .nilIface])) wr) := hid0 (by
        unfold WdsO
        rw [HI.out.eq, wdS_nil]
        exact ⟨_, rfl, by simpa using HI.out.own, HI.out.bel⟩)
      generalize rd [] = s at *
      clear HI HT HR HI0 HI1
      go_wp2
      go_ret2
      exact HO
    | cons c r =>
      have hE2 : (rd (c :: r)).toList.isEmpty = false := empty_rd (c :: r)
      have hc := HI.out.head c r rfl
      have hlen := HI.out.len
      have hlL := HL.out
      have hT0 := HT.out wr HI.out.bel
      have HF := hid0 (firstWord_any c r (errT A1) wr (by simp at hlen; omega) hc hT0)
      have HB0 := hid0 HI.out.bel
      have HQ : Hid (wdS 0 (c :: r) = match fstW (c :: r) with | none => none | some (w, n) => (wdS 0 ((c :: r).drop n)).map fun L => w :: L) := hid0 (wdS_word hc)
      cases hf : fstW (c :: r) with
      | none =>
        have hv : fstV (errT A1) (c :: r) = .tuple #[.string ⟨#[]⟩, .string ⟨#[]⟩, errT A1] := by unfold fstV; rw [hf]
        rw [hv] at HF
        have HO : Hid (∀ w', Below wr.heap.size wr w' → WdsO A1 w.heap.size w l (.returned (.tuple #[.slice none 0 0, errT A1])) w') := hid0 (fun w' hw => by
          unfold WdsO
          rw [HI.out.eq, HQ.out, hf]
          exact ⟨rfl, HB0.out.trans (hw.mono HB0.out.size)⟩)
        generalize rd (c :: r) = s at *
        clear HI HT HR HI0 HI1 HQ hf hv hc hlen hlL HL hT0
        go_wp2_with (go_at_call 18; refine HF.out.mono ?_; rintro e w1 ⟨rfl, h1⟩; have HO1 := hid0 (HO.out w1 h1.out); clear h1)
        go_ret2
        exact HO1
      | some p =>
        obtain ⟨wd, m⟩ := p
        have hv : fstV (errT A1) (c :: r) = .tuple #[.string (rd wd), .string (rd ((c :: r).drop m)), .nilIface] := by unfold fstV; rw [hf]
        rw [hv] at HF
        obtain ⟨m1, m2, m3⟩ := fstW_len hf (fun d s e => by cases e; exact hc)
        have hnL : n = L.length := by
          have h := HI.out.own.2
          rcases h with ⟨h1, h2⟩ | ⟨g, cp, cur, h1, _⟩
          · cases h1; omega
          · cases h1; rfl
        have HTr : Hid (∀ W, Calls Tryd.prog 17 #[.string (rd ((c :: r).drop m)), .string ⟨#[32]⟩] W fun e w' => e = .returned (.string (rd (((c :: r).drop m).dropWhile isSp))) ∧ Below W.heap.size W w') := hid0 (fun W => trimLeft_any _ W)
        have HN : Hid (∀ w' v, OwnS w' w.heap.size v (L ++ [wd]) → Below w.heap.size w w' → WI w w' l (((c :: r).drop m).dropWhile isSp) v (L ++ [wd])) := hid0 (fun w' v h1 h2 => ⟨by
          rw [HI.out.eq, HQ.out, hf]
          show Option.map _ (Option.map _ (wdS 0 ((c :: r).drop m))) = _
          rw [← wdS_trim, Option.map_map]
          congr 1
          funext M
          simp, h1, h2, by
          have h3 := dw_le ((c :: r).drop m)
          rw [List.length_drop] at h3
          rw [List.length_append, List.length_singleton]
          omega, dw_head _⟩)
        have hms : (rd (((c :: r).drop m).dropWhile isSp)).size < (rd (c :: r)).size := by
          rw [rd_size, rd_size]
          have h3 := dw_le ((c :: r).drop m)
          rw [List.length_drop] at h3
          omega
        have HMs := hid0 hms
        have hnb : n ≤ 4000000000000 := by omega
        have HO0 := hid0 HI.out.own
        have HNL := hid0 hnL
        have HOn : Hid (∀ W, OwnS W w.heap.size (.slice a n cap) L → W.ownsRow w.heap.size 9 1 (.slice a n cap) n (cellsS L)) := hid0 (fun W h => by unfold OwnS at h; rw [← hnL] at h; exact h)
        generalize hq2 : ((c :: r).drop m).dropWhile isSp = q2 at *
        generalize rd ((c :: r).drop m) = R1 at *
        generalize rd (c :: r) = s at *
        clear HI HT HR HI0 HI1 HQ hf hv hc hlen hlL HL hT0 hnL m1 m2 m3 hms hq2
        go_wp2_with (first
          | (go_at_call 18; refine HF.out.mono ?_; rintro e w1 ⟨rfl, h1⟩; have HB1 := hid0 (HB0.out.trans (h1.out.mono HB0.out.size)); have HO1 : Hid (OwnS w1 w.heap.size (.slice a n cap) L) := hid0 (HO0.out.later h1.out); clear h1)
          | (at_builtin; (refine wpList_append_own _ rfl _ _ 23 rfl w.heap.size 9 i0 (.string ⟨#[]⟩) 1 16 Tryd.underlying23 hi hz0 hz1 hz2 rfl (by decide) _ n (cellsS L) rfl ((HOn.out _ HO1.out).alloc _) ⟨w1.heap.size, 0, none⟩ 1 1 [.string (rd wd)] rfl rfl (cell_one_new _ _ _) (by intro u hu; simp at hu; subst hu; rfl) (by unfold maxLen; omega) (by omega) (by have := HB1.out.size; first | omega | (simp; omega)) ?_; intro v' w2 hown' hgrow _; have R := owns_snoc HNL.out HO1.out hown' hgrow HB1.out (Nat.le_refl _); have HR2 := hid0 R; obtain ⟨a2, c2, e2⟩ := slice_of R.1; subst e2; clear hown' hgrow R))
          | (go_at_call 17; refine (HTr.out _).mono ?_; rintro e w3 ⟨rfl, h3⟩; have HW3 := hid0 (HN.out w3 _ (HR2.out.1.later h3) (HR2.out.2.trans (h3.mono HR2.out.2.size))); clear h3)
          | fail)
        go_roundw
        case rel => exact ⟨q2, L ++ [wd], rfl, ⟨_, _, _, rfl⟩, by have h := HW3.out; rw [List.length_append, List.length_singleton] at h; exact hid0 h⟩
        case measure => exact HMs.out
end Go.Proofs.YtcbepmjojppokaaDoor
