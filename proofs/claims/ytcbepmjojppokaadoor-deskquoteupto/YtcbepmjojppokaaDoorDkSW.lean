/-
  The walk of caesuralaw25.DeskQuote.
-/
import Derived.Test.YtcbepmjojppokaaDoorDkRW
namespace Go.Proofs.YtcbepmjojppokaaDoor
open Go.RowKit Go.Shelf
theorem words_of (l : Dy) (L : List Dy) (A1 : Addr) (w : World) (hl : l.length ≤ 4000000000000) (ht : w.cell? ⟨1, 0, none⟩ = some (errT A1)) (hw : wdS 0 l = some L) :
    Calls Tryd.prog 6 #[.string (rd l)] w fun e w' => ∃ a c, e = .returned (.tuple #[.slice a L.length c, .nilIface]) ∧ Hid (SA w' a L ∧ Below w.heap.size w w') :=
  (words_any l A1 w hl ht).mono (fun e w' h => by
    have h2 := h.out
    unfold WdsO at h2
    rw [hw] at h2
    obtain ⟨v, h3, h4, h5⟩ := h2
    obtain ⟨a, c, rfl, h6⟩ := h4.sa
    exact ⟨a, c, h3, hid0 ⟨h6, h5⟩⟩)
set_option maxRecDepth 10000 in
set_option maxHeartbeats 1600000 in
theorem deskQuote_any (l : Dy) (A1 : Addr) (w : World) (hl : l.length ≤ 400000000000) (ht : w.cell? ⟨1, 0, none⟩ = some (errT A1)) :
    Calls Tryd.prog 3 #[.string (rd l)] w fun e w' => e = .returned (.bool true) ∧ Below w.heap.size w w' := by
  have hq := quo_len l
  have HT : Hid (∀ W, Below w.heap.size w W → W.cell? ⟨1, 0, none⟩ = some (errT A1)) := hid0 (fun W hW => (hW.cell (p := ⟨1, 0, none⟩) (World.block_lt_of_cell? w _ ht)).trans ht)
  have HQ := hid0 (quote_any l w (by omega))
  have HR : Hid (∀ W, Calls Tryd.prog 7 #[.string (rd l)] W fun e w' => e = .returned (.string (rd (quoQ l))) ∧ Hid (Below W.heap.size W w')) := hid0 (fun W => refQuote_any l W (by omega))
  have HW1 : Hid (∀ W, Below w.heap.size w W → Calls Tryd.prog 6 #[.string (rd (quoQ l))] W fun e w' => ∃ a c, e = .returned (.tuple #[.slice a 1 c, .nilIface]) ∧ Hid (SA w' a [l] ∧ Below W.heap.size W w')) := hid0 (fun W hW => words_of (quoQ l) [l] A1 W (by omega) (HT.out W hW) (wdS_one l))
  have HW2 : Hid (∀ W, Below w.heap.size w W → Calls Tryd.prog 6 #[.string (rd (32 :: 32 :: 97 :: 32 :: (quoQ l ++ 32 :: 32 :: quoQ l)))] W fun e w' => ∃ a c, e = .returned (.tuple #[.slice a 3 c, .nilIface]) ∧ Hid (SA w' a [[97], l, l] ∧ Below W.heap.size W w')) := hid0 (fun W hW => words_of _ [[97], l, l] A1 W (by simp; omega) (HT.out W hW) (wdS_two l))
  have e2 : rd (32 :: 32 :: 97 :: 32 :: (quoQ l ++ 32 :: 32 :: quoQ l)) = (((⟨#[32, 32, 97, 32]⟩ : ByteArray) ++ rd (quoQ l)) ++ ⟨#[32, 32]⟩) ++ rd (quoQ l) := by
    rw [show (⟨#[32, 32, 97, 32]⟩ : ByteArray) = rd [32, 32, 97, 32] from rfl, show (⟨#[32, 32]⟩ : ByteArray) = rd [32, 32] from rfl, rd_app, rd_app, rd_app]
    simp
  rw [e2] at HW2
  have hqs : (rd (quoQ l)).size ≤ 1600000000002 := by rw [rd_size]; omega
  have HS1 : Hid (∀ W a, SA W a [l] → ∃ b o, a = some ⟨b, o, none⟩ ∧ b < W.heap.size ∧ W.cell? ⟨b, o, none⟩ = some (.string (rd l))) := hid0 (fun W a h => h.at' 0 (by simp))
  have HS2 : Hid (∀ W a, SA W a [[97], l, l] → ∃ b o, a = some ⟨b, o, none⟩ ∧ W.cell? ⟨b, o, none⟩ = some (.string ⟨#[97]⟩) ∧ W.cell? ⟨b, o + 1, none⟩ = some (.string (rd l)) ∧ W.cell? ⟨b, o + 2, none⟩ = some (.string (rd l))) := hid0 (fun W a h => by
    obtain ⟨b, o, rfl, h1, h2⟩ := h.at' 0 (by simp)
    obtain ⟨b', o', e', h3, h4⟩ := h.at' 1 (by simp)
    cases e'
    obtain ⟨b', o', e', h5, h6⟩ := h.at' 2 (by simp)
    cases e'
    exact ⟨b, o, rfl, h2, h4, h6⟩)
  generalize rd (quoQ l) = q at *
  generalize rd l = s at *
  have z1 : (((⟨#[32, 32, 97, 32]⟩ : ByteArray) ++ q)).size = 4 + q.size := by rw [size_app]; rfl
  have z2 : ((((⟨#[32, 32, 97, 32]⟩ : ByteArray) ++ q) ++ ⟨#[32, 32]⟩)).size = 6 + q.size := by rw [size_app, z1]; show 4 + _ + 2 = _; omega
  have s1 : ¬ 9223372036854775807 < 4 + q.size := by omega
  have s2 : ¬ 9223372036854775807 < (((⟨#[32, 32, 97, 32]⟩ : ByteArray) ++ q)).size + 2 := by omega
  have s3 : ¬ 9223372036854775807 < ((((⟨#[32, 32, 97, 32]⟩ : ByteArray) ++ q) ++ ⟨#[32, 32]⟩)).size + q.size := by omega
  have M1 : Hid True := hid0 trivial
  clear ht hq hl e2 HT z1 z2
  go_enter Tryd.func3, Tryd.ntmps3
  go_wp2_with (first
    | (go_at_call 5; refine HQ.out.mono ?_; rintro e w1 ⟨rfl, h1⟩)
    | (go_at_call 6; clear M1; refine (HW1.out w1 h1.out).mono ?_; rintro e w2 ⟨a1, c1, rfl, h2⟩; have HB2 := hid0 (h1.out.trans (h2.out.2.mono h1.out.size)))
    | (go_at_call 6; refine (HW2.out w2 HB2.out).mono ?_; rintro e w3 ⟨a2, c2, rfl, h3⟩; have HB3 := hid0 (HB2.out.trans (h3.out.2.mono HB2.out.size)); obtain ⟨b1, o1, rfl, _, d1⟩ := HS1.out w3 _ (h2.out.1.past h3.out.2); obtain ⟨b2, o2, rfl, d2, d3, d4⟩ := HS2.out w3 _ h3.out.1; clear h2 h3)
    | (go_at_call 7; refine (HR.out _).mono ?_; rintro e w4 ⟨rfl, h4⟩; have HB4 := hid0 (HB3.out.trans (h4.out.mono HB3.out.size)); clear h4)
    | fail)
  go_ret
  exact ⟨rfl, HB4.out⟩
end Go.Proofs.YtcbepmjojppokaaDoor
