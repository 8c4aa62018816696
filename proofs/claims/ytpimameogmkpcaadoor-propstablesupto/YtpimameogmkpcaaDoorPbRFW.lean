/-
  The walk of caesuraref5's Size.
-/
import Derived.Test.YtpimameogmkpcaaDoorPbREW
namespace Go.Proofs.YtpimameogmkpcaaDoor
open Go.RowKit Go.Shelf
theorem infoPcs : (Tryd.prog.info? 77).map (fun i => (i.zero, i.size, i.bytes)) = some (some (.slice none 0 0), 1, 24) := by kernel_rfl
theorem Kinds.form {w : World} {base : Nat} {vK : Value} {K : List (List Pc)} {vals : List Value} (h : Kinds w base vK K vals) :
    ∃ a cap, vK = .slice a vals.length cap ∧ ∀ j (hj : j < vals.length), ∃ g, a = some ⟨g, 0, none⟩ ∧ g < w.heap.size ∧ w.cell? ⟨g, j, none⟩ = some vals[j] := by
  have h0 := h.row
  rcases h.row.2 with ⟨rfl, hn⟩ | ⟨g, cap, cur, rfl, hg, hr, hc, _⟩
  · exact ⟨none, 0, by rw [hn], fun j hj => by omega⟩
  · exact ⟨_, cap, rfl, fun j hj => ⟨g, rfl, (World.ownsRow.lt h0 g rfl).2, by rw [World.ownsRow.cellAt h0 j (by omega), List.getElem?_eq_getElem hj]⟩⟩
theorem OwnQ.keep {w w' : World} {base : Nat} {v : Value} {l : List Pc} (h : OwnQ w base v l) (hb : Below w.heap.size w w') : OwnQ w' base v l :=
  World.ownsRow.kept h (row := none) ⟨hb.os, hb.tape, hb.output, hb.size, fun k hk _ => hb.block k hk⟩ (by cases hv : v.ownBlock <;> simp)
theorem take_next {ss : List Sp} {B : Int} {k : Nat} (hk : k < ss.length) (h : ∀ s ∈ ss.take k, s.2.1 < B) (h2 : ss[k].2.1 < B) : ∀ s ∈ ss.take (k + 1), s.2.1 < B := by
  intro s hs
  rw [List.take_add_one, List.getElem?_eq_getElem hk] at hs
  rcases List.mem_append.1 hs with h3 | h3
  · exact h s h3
  · simp at h3; subst h3; exact h2
set_option maxRecDepth 10000 in
set_option maxHeartbeats 3200000 in
theorem refSize_any (N : Int) (w : World) (lo U : Nat) (L : List ByteArray) (ss : List Sp) (vN vS : Value) (hs : ss.length ≤ 65536) (hR : Rise N ss) (hN : N ≤ 254) (h : RTab w lo U L ss vN vS) :
    Calls Tryd.prog 27 #[.pointer (some ⟨U, 0, none⟩)] w fun e w' => e = .returned (.int .i64 ((ord (pcs ss) 8704).length : Int)) ∧ Below w.heap.size w w' := by
  obtain ⟨i0, hi, hz0, hz1, hz2⟩ := info_parts infoPcs
  obtain ⟨aS, cS, rfl, hpa, hpb, _⟩ := h.spans.pa
  have HR := hid0 hR
  have HT := hid0 h
  have HP := hid0 hpa
  clear hR h hpa hpb
  go_enter Tryd.func27, Tryd.ntmps27
  go_wp2
  go_loopw [3, 4, 5] (fun vK iv bv wr => ∃ (b it : Nat) (vals : List Value), b ≤ 8704 ∧ it ≤ ss.length ∧ iv = .int .i64 (it : Int) ∧ bv = .int .i64 (b : Int) ∧ Hid (∀ s ∈ ss.take it, s.2.1 < 128 * (b : Int)) ∧ Hid (Kinds wr w.heap.size vK (ord (pcs ss) b) vals) ∧ Hid (Below w.heap.size w wr)) (fun _ _ bv _ => 8704 - (intOf bv).toNat)
  case atStart => exact ⟨0, 0, [], by omega, by omega, rfl, rfl, hid0 (fun s hs => by simp at hs), hid0 ⟨rfl, World.ownsRow_nil _ _ _ _, fun j h1 => by simp at h1⟩, hid0 (Below.refl _ _)⟩
  case round =>
    obtain ⟨b, it, vals, hb, hit, rfl, rfl, HI, HK, HB⟩ := hrel
    have hbs := HB.out.size
    obtain ⟨aK, cK, rfl, hcells⟩ := HK.out.form
    have HKC := hid0 hcells
    clear hcells
    by_cases hlt : b < 8704
    · have hbI : (b : Int) < 8704 := by omega
      have y1 : wr.cell? ⟨U, 1, none⟩ = some (.slice aS ss.length cS) := by rw [cell_of_row _ _ _ _ _ _ (HT.out.below HB.out).row]; rfl
      obtain ⟨B, hB⟩ : ∃ B : Int, 128 * (b : Int) = B := ⟨_, rfl⟩
      have hBw : IntKind.i64.wrap B = B := by simp [IntKind.wrap, IntKind.bits, IntKind.signed]; omega
      go_wp2
      go_loopw [4] (fun iv W => ∃ k : Nat, k ≤ ss.length ∧ iv = .int .i64 (k : Int) ∧ Hid (∀ s ∈ ss.take k, s.2.1 < 128 * (b : Int)) ∧ W = wr) (fun iv _ => ss.length - (intOf iv).toNat)
      case atStart => exact ⟨it, hit, rfl, HI, rfl⟩
      case round =>
        obtain ⟨k, hk, rfl, HI2, rfl⟩ := hrel
        by_cases hk1 : k < ss.length
        · obtain ⟨g0, off, rfl, hbw, c0, c1, c2⟩ := HP.out.at' k hk1
          have d1 := (HB.out.cell (p := ⟨g0, off + k * 3 + 1, none⟩) hbw).trans c1
          have hkI : (k : Int) < (ss.length : Int) := by omega
          have hkI0 : (0 : Int) ≤ (k : Int) := by omega
          by_cases t : ss[k].2.1 < B
          · have HI4 := hid0 (take_next hk1 HI2.out (by omega))
            go_wp2
            go_roundw
            case rel => exact ⟨k + 1, by omega, by go_num, HI4, trivial⟩
            case measure => simp [intOf]; omega
          · have H2 : Hid (∀ (q : k < ss.length), 128 * (b : Int) ≤ ss[k].2.1) := hid0 (fun q => by omega)
            have HBL := hid0 (block_any N wr lo U L ss vN _ b k hs HR.out hN hlt hk HI2.out H2.out (HT.out.below HB.out))
            have HI3 : Hid (∀ s ∈ ss.take k, s.2.1 < 128 * ((b + 1 : Nat) : Int)) := hid0 (fun s hs' => by have := HI2.out s hs'; omega)
            have HLN : Hid (vals.length = (ord (pcs ss) b).length) := hid0 HK.out.len
            have hvl : vals.length ≤ 8704 := by have h1 := HK.out.len; have h2 := ord_len (pcs ss) b; omega
            clear H2 HI2
            go_wp2_with (go_at_call 38; refine HBL.out.mono ?_; rintro e w2 ⟨v, rfl, ho, hb2⟩; obtain ⟨aQ, cQ, rfl, hqa⟩ := ho.qa; have HQA := hid0 hqa; have HOQ := hid0 ho; have HKS := hid0 (HK.out.below hb2); have HB2w := hid0 (Below.later HB.out hb2); have HKC2 : Hid (∀ j (hj : j < vals.length), ∃ g, aK = some ⟨g, 0, none⟩ ∧ g < w2.heap.size ∧ w2.cell? ⟨g, j, none⟩ = some vals[j]) := hid0 (fun j hj => by obtain ⟨g, h1, h2, h3⟩ := HKC.out j hj; exact ⟨g, h1, Nat.lt_of_lt_of_le h2 hb2.size, (hb2.cell (p := ⟨g, j, none⟩) h2).trans h3⟩); have HSL : Hid (w.heap.size ≤ wr.heap.size) := hid0 hbs; clear ho hqa hb2 HBL HK HKC)
            go_loopw [7, 8] (fun fv kv W => ∃ (f : Bool) (k2 : Nat), k2 ≤ vals.length ∧ fv = .bool f ∧ kv = .int .i64 (k2 : Int) ∧ Hid (f = true → pcs ss b ∈ ord (pcs ss) b) ∧ Hid (f = false → ∀ j (h : j < (ord (pcs ss) b).length), j < k2 → (ord (pcs ss) b)[j] ≠ pcs ss b) ∧ Hid (Below w2.heap.size w2 W)) (fun _ kv _ => vals.length - (intOf kv).toNat)
            case atStart => exact ⟨false, 0, Nat.zero_le _, rfl, rfl, hid0 (fun e => by cases e), hid0 (fun _ j _ hj => absurd hj (Nat.not_lt_zero _)), hid0 (Below.refl _ _)⟩
            case round =>
              obtain ⟨f, k2, hk2l, rfl, rfl, HTr, HF, HW⟩ := hrel
              by_cases hv : k2 < vals.length
              · cases f with
                | false =>
                  obtain ⟨gK, rfl, hgK, cj⟩ := HKC2.out k2 hv
                  have cj' := (HW.out.cell (p := ⟨gK, k2, none⟩) hgK).trans cj
                  have hk2 : k2 < (ord (pcs ss) b).length := by have h := HLN.out; omega
                  have hkI : (k2 : Int) < (vals.length : Int) := by omega
                  have hkI0 : (0 : Int) ≤ (k2 : Int) := by omega
                  have hoj := HKS.out.each k2 hv hk2
                  obtain ⟨aJ, cJ, hej, hqj⟩ := hoj.qa
                  rw [hej] at cj'
                  have hbnd : (ord (pcs ss) b)[k2].length ≤ 1000000 := by
                    obtain ⟨z, _, ez⟩ := ord_sub (pcs ss) b _ (List.getElem_mem hk2)
                    rw [ez]; have := encN_len (clsB ss z) 128; unfold pcs; omega
                  have HSM := hid0 (sameQ_any wr (ord (pcs ss) b)[k2] (pcs ss b) aJ aQ cJ cQ hbnd (hqj.below HW.out) (HQA.out.below HW.out))
                  have HT2 : Hid (decide ((ord (pcs ss) b)[k2] = pcs ss b) = true → pcs ss b ∈ ord (pcs ss) b) := hid0 (fun e => by rw [decide_eq_true_eq] at e; rw [← e]; exact List.getElem_mem hk2)
                  have HF2 : Hid (decide ((ord (pcs ss) b)[k2] = pcs ss b) = false → ∀ j (h : j < (ord (pcs ss) b).length), j < k2 + 1 → (ord (pcs ss) b)[j] ≠ pcs ss b) := hid0 (fun e j h hj => by
                    rw [decide_eq_false_iff_not] at e
                    by_cases ej : j = k2
                    · subst ej; exact e
                    · exact HF.out rfl j h (by omega))
                  clear hqj hoj hej cj hbnd
                  generalize decide ((ord (pcs ss) b)[k2] = pcs ss b) = r at *
                  generalize (ord (pcs ss) b)[k2].length = rl at *
                  go_wp2_with (go_at_call 39; refine HSM.out.mono ?_; rintro e w5 ⟨rfl, hb5⟩; have HB5 := hid0 hb5; clear hb5)
                  go_roundw
                  case rel => exact ⟨r, k2 + 1, by omega, rfl, by go_num, HT2, HF2, hid0 (Below.later HW.out HB5.out)⟩
                  case measure => simp [intOf]; omega
                | true =>
                  have HIN := hid0 (HTr.out rfl)
                  have hkI : (k2 : Int) < (vals.length : Int) := by omega
                  have HEQ : Hid (ord (pcs ss) (b + 1) = ord (pcs ss) b) := hid0 (by rw [ord, if_pos (by rw [List.contains_iff_mem]; exact HIN.out)])
                  go_wp2
                  go_roundw
                  case rel => exact ⟨b + 1, k, vals, by omega, hk, rfl, by go_num, HI3, hid0 (by rw [HEQ.out]; exact HKS.out.below HW.out), hid0 (Below.later HB2w.out HW.out)⟩
                  case measure => simp [intOf]; omega
              · have hkI : ¬ (k2 : Int) < (vals.length : Int) := by omega
                cases f with
                | true =>
                  have HIN := hid0 (HTr.out rfl)
                  have HEQ : Hid (ord (pcs ss) (b + 1) = ord (pcs ss) b) := hid0 (by rw [ord, if_pos (by rw [List.contains_iff_mem]; exact HIN.out)])
                  go_wp2
                  go_roundw
                  case rel => exact ⟨b + 1, k, vals, by omega, hk, rfl, by go_num, HI3, hid0 (by rw [HEQ.out]; exact HKS.out.below HW.out), hid0 (Below.later HB2w.out HW.out)⟩
                  case measure => simp [intOf]; omega
                | false =>
                  have HNI : Hid (ord (pcs ss) (b + 1) = ord (pcs ss) b ++ [pcs ss b]) := hid0 (by
                    rw [ord, if_neg]
                    rw [Bool.not_eq_true, Bool.eq_false_iff]
                    intro hc
                    rw [List.contains_iff_mem] at hc
                    obtain ⟨j, hj, e⟩ := List.getElem_of_mem hc
                    exact HF.out rfl j hj (by have h := HLN.out; omega) e)
                  have HKN := hid0 (HKS.out.below HW.out)
                  have HON : Hid (OwnQ wr w.heap.size (.slice aQ (pcs ss b).length cQ) (pcs ss b)) := hid0 (owns_lower (OwnQ.keep HOQ.out HW.out) HSL.out)
                  have HOM : Hid (wr.ownsRow w.heap.size 77 1 (.slice aK vals.length cK) vals.length vals) := hid0 HKN.out.row
                  have HSZ2 : Hid (w.heap.size ≤ wr.heap.size + 1) := hid0 (by have h1 := HSL.out; have h2 := HB2w.out.size; have h3 := HW.out.size; omega)
                  go_wp2_with (at_builtin; refine wpList_append_own _ rfl _ _ 76 rfl w.heap.size 77 i0 (.slice none 0 0) 1 24 Tryd.underlying76 hi hz0 hz1 hz2 rfl (by decide) _ _ _ rfl (World.ownsRow.alloc HOM.out _) ⟨wr.heap.size, 0, none⟩ 1 1 [.slice aQ (pcs ss b).length cQ] rfl rfl (cell_one_new _ _ _) ?c2b ?c3b ?c4b ?c5b ?_)
                  case c2b => simp [Value.oneCell']
                  case c3b => unfold maxLen; omega
                  case c4b => omega
                  case c5b => have h1 := HSZ2.out; simp; omega
                  intro v' w6 hown' hgrow _
                  obtain ⟨g1, g2⟩ := HKN.out.snoc (w := w) rfl HON.out hown' hgrow (Below.later HB2w.out HW.out) (Nat.le_refl _)
                  have HK6 := hid0 g1
                  have HB6 := hid0 g2
                  clear hown' hgrow g1 g2
                  go_wp2
                  go_roundw
                  case rel => exact ⟨b + 1, k, vals ++ [.slice aQ (pcs ss b).length cQ], by omega, hk, rfl, by go_num, HI3, hid0 (by rw [HNI.out]; exact HK6.out), HB6⟩
                  case measure => simp [intOf]; omega
        · have hkI : ¬ (k : Int) < (ss.length : Int) := by omega
          have H2 : Hid (∀ (q : k < ss.length), 128 * (b : Int) ≤ ss[k].2.1) := hid0 (fun q => absurd q hk1)
          have HBL := hid0 (block_any N wr lo U L ss vN _ b k hs HR.out hN hlt hk HI2.out H2.out (HT.out.below HB.out))
          have HI3 : Hid (∀ s ∈ ss.take k, s.2.1 < 128 * ((b + 1 : Nat) : Int)) := hid0 (fun s hs' => by have := HI2.out s hs'; omega)
          have HLN : Hid (vals.length = (ord (pcs ss) b).length) := hid0 HK.out.len
          have hvl : vals.length ≤ 8704 := by have h1 := HK.out.len; have h2 := ord_len (pcs ss) b; omega
          clear H2 HI2
          go_wp2_with (go_at_call 38; refine HBL.out.mono ?_; rintro e w2 ⟨v, rfl, ho, hb2⟩; obtain ⟨aQ, cQ, rfl, hqa⟩ := ho.qa; have HQA := hid0 hqa; have HOQ := hid0 ho; have HKS := hid0 (HK.out.below hb2); have HB2w := hid0 (Below.later HB.out hb2); have HKC2 : Hid (∀ j (hj : j < vals.length), ∃ g, aK = some ⟨g, 0, none⟩ ∧ g < w2.heap.size ∧ w2.cell? ⟨g, j, none⟩ = some vals[j]) := hid0 (fun j hj => by obtain ⟨g, h1, h2, h3⟩ := HKC.out j hj; exact ⟨g, h1, Nat.lt_of_lt_of_le h2 hb2.size, (hb2.cell (p := ⟨g, j, none⟩) h2).trans h3⟩); have HSL : Hid (w.heap.size ≤ wr.heap.size) := hid0 hbs; clear ho hqa hb2 HBL HK HKC)
          go_loopw [7, 8] (fun fv kv W => ∃ (f : Bool) (k2 : Nat), k2 ≤ vals.length ∧ fv = .bool f ∧ kv = .int .i64 (k2 : Int) ∧ Hid (f = true → pcs ss b ∈ ord (pcs ss) b) ∧ Hid (f = false → ∀ j (h : j < (ord (pcs ss) b).length), j < k2 → (ord (pcs ss) b)[j] ≠ pcs ss b) ∧ Hid (Below w2.heap.size w2 W)) (fun _ kv _ => vals.length - (intOf kv).toNat)
          case atStart => exact ⟨false, 0, Nat.zero_le _, rfl, rfl, hid0 (fun e => by cases e), hid0 (fun _ j _ hj => absurd hj (Nat.not_lt_zero _)), hid0 (Below.refl _ _)⟩
          case round =>
            obtain ⟨f, k2, hk2l, rfl, rfl, HTr, HF, HW⟩ := hrel
            by_cases hv : k2 < vals.length
            · cases f with
              | false =>
                obtain ⟨gK, rfl, hgK, cj⟩ := HKC2.out k2 hv
                have cj' := (HW.out.cell (p := ⟨gK, k2, none⟩) hgK).trans cj
                have hk2 : k2 < (ord (pcs ss) b).length := by have h := HLN.out; omega
                have hkI : (k2 : Int) < (vals.length : Int) := by omega
                have hkI0 : (0 : Int) ≤ (k2 : Int) := by omega
                have hoj := HKS.out.each k2 hv hk2
                obtain ⟨aJ, cJ, hej, hqj⟩ := hoj.qa
                rw [hej] at cj'
                have hbnd : (ord (pcs ss) b)[k2].length ≤ 1000000 := by
                  obtain ⟨z, _, ez⟩ := ord_sub (pcs ss) b _ (List.getElem_mem hk2)
                  rw [ez]; have := encN_len (clsB ss z) 128; unfold pcs; omega
                have HSM := hid0 (sameQ_any wr (ord (pcs ss) b)[k2] (pcs ss b) aJ aQ cJ cQ hbnd (hqj.below HW.out) (HQA.out.below HW.out))
                have HT2 : Hid (decide ((ord (pcs ss) b)[k2] = pcs ss b) = true → pcs ss b ∈ ord (pcs ss) b) := hid0 (fun e => by rw [decide_eq_true_eq] at e; rw [← e]; exact List.getElem_mem hk2)
                have HF2 : Hid (decide ((ord (pcs ss) b)[k2] = pcs ss b) = false → ∀ j (h : j < (ord (pcs ss) b).length), j < k2 + 1 → (ord (pcs ss) b)[j] ≠ pcs ss b) := hid0 (fun e j h hj => by
                  rw [decide_eq_false_iff_not] at e
                  by_cases ej : j = k2
                  · subst ej; exact e
                  · exact HF.out rfl j h (by omega))
                clear hqj hoj hej cj hbnd
                generalize decide ((ord (pcs ss) b)[k2] = pcs ss b) = r at *
                generalize (ord (pcs ss) b)[k2].length = rl at *
                go_wp2_with (go_at_call 39; refine HSM.out.mono ?_; rintro e w5 ⟨rfl, hb5⟩; have HB5 := hid0 hb5; clear hb5)
                go_roundw
                case rel => exact ⟨r, k2 + 1, by omega, rfl, by go_num, HT2, HF2, hid0 (Below.later HW.out HB5.out)⟩
                case measure => simp [intOf]; omega
              | true =>
                have HIN := hid0 (HTr.out rfl)
                have hkI : (k2 : Int) < (vals.length : Int) := by omega
                have HEQ : Hid (ord (pcs ss) (b + 1) = ord (pcs ss) b) := hid0 (by rw [ord, if_pos (by rw [List.contains_iff_mem]; exact HIN.out)])
                go_wp2
                go_roundw
                case rel => exact ⟨b + 1, k, vals, by omega, hk, rfl, by go_num, HI3, hid0 (by rw [HEQ.out]; exact HKS.out.below HW.out), hid0 (Below.later HB2w.out HW.out)⟩
                case measure => simp [intOf]; omega
            · have hkI : ¬ (k2 : Int) < (vals.length : Int) := by omega
              cases f with
              | true =>
                have HIN := hid0 (HTr.out rfl)
                have HEQ : Hid (ord (pcs ss) (b + 1) = ord (pcs ss) b) := hid0 (by rw [ord, if_pos (by rw [List.contains_iff_mem]; exact HIN.out)])
                go_wp2
                go_roundw
                case rel => exact ⟨b + 1, k, vals, by omega, hk, rfl, by go_num, HI3, hid0 (by rw [HEQ.out]; exact HKS.out.below HW.out), hid0 (Below.later HB2w.out HW.out)⟩
                case measure => simp [intOf]; omega
              | false =>
                have HNI : Hid (ord (pcs ss) (b + 1) = ord (pcs ss) b ++ [pcs ss b]) := hid0 (by
                  rw [ord, if_neg]
                  rw [Bool.not_eq_true, Bool.eq_false_iff]
                  intro hc
                  rw [List.contains_iff_mem] at hc
                  obtain ⟨j, hj, e⟩ := List.getElem_of_mem hc
                  exact HF.out rfl j hj (by have h := HLN.out; omega) e)
                have HKN := hid0 (HKS.out.below HW.out)
                have HON : Hid (OwnQ wr w.heap.size (.slice aQ (pcs ss b).length cQ) (pcs ss b)) := hid0 (owns_lower (OwnQ.keep HOQ.out HW.out) HSL.out)
                have HOM : Hid (wr.ownsRow w.heap.size 77 1 (.slice aK vals.length cK) vals.length vals) := hid0 HKN.out.row
                have HSZ2 : Hid (w.heap.size ≤ wr.heap.size + 1) := hid0 (by have h1 := HSL.out; have h2 := HB2w.out.size; have h3 := HW.out.size; omega)
                go_wp2_with (at_builtin; refine wpList_append_own _ rfl _ _ 76 rfl w.heap.size 77 i0 (.slice none 0 0) 1 24 Tryd.underlying76 hi hz0 hz1 hz2 rfl (by decide) _ _ _ rfl (World.ownsRow.alloc HOM.out _) ⟨wr.heap.size, 0, none⟩ 1 1 [.slice aQ (pcs ss b).length cQ] rfl rfl (cell_one_new _ _ _) ?c2b ?c3b ?c4b ?c5b ?_)
                case c2b => simp [Value.oneCell']
                case c3b => unfold maxLen; omega
                case c4b => omega
                case c5b => have h1 := HSZ2.out; simp; omega
                intro v' w6 hown' hgrow _
                obtain ⟨g1, g2⟩ := HKN.out.snoc (w := w) rfl HON.out hown' hgrow (Below.later HB2w.out HW.out) (Nat.le_refl _)
                have HK6 := hid0 g1
                have HB6 := hid0 g2
                clear hown' hgrow g1 g2
                go_wp2
                go_roundw
                case rel => exact ⟨b + 1, k, vals ++ [.slice aQ (pcs ss b).length cQ], by omega, hk, rfl, by go_num, HI3, hid0 (by rw [HNI.out]; exact HK6.out), HB6⟩
                case measure => simp [intOf]; omega
    · have hbI : ¬ (b : Int) < 8704 := by omega
      have HV : Hid (vals.length = (ord (pcs ss) 8704).length) := hid0 (by have h := HK.out.len; rw [show b = 8704 by omega] at h; exact h)
      go_wp2
      go_ret
      exact ⟨by rw [← HV.out]; rfl, HB.out⟩
end Go.Proofs.YtpimameogmkpcaaDoor
