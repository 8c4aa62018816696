/-
  The walk of props.checkSpans.
-/
import Derived.Test.YtpimameogmkpcaaDoorPbCnW
import Derived.Test.YtpimameogmkpcaaDoorPbNbW
import Derived.Deep.RegionHeld3
namespace Go.Proofs.YtpimameogmkpcaaDoor
open Go.RowKit
/-- Is a span no span of a property of so many names? -/
def spBad (N : Int) (s : Sp) : Prop := s.1 < 0 ∨ 1114111 < s.2.1 ∨ s.2.1 < s.1 ∨ s.2.2 < 0 ∨ N ≤ s.2.2
instance (N : Int) (s : Sp) : Decidable (spBad N s) := by unfold spBad; infer_instance
/-- The fault of spans behind one that ends at p. -/
def spF (N : Int) (p : Option Int) : List Sp → Option Nat
  | [] => none
  | s :: r => if spBad N s then some 0 else if p.any (fun h => decide (s.1 ≤ h)) = true then some 6 else spF N (some s.2.1) r
def prevH (l : List Sp) (k : Nat) : Option Int := if k = 0 then none else (l[k - 1]?).map (fun s => s.2.1)
theorem spF_at (N : Int) (l : List Sp) (k : Nat) (h : k < l.length) : spF N (prevH l k) (l.drop k) = if spBad N l[k] then some 0 else if (prevH l k).any (fun q => decide (l[k].1 ≤ q)) = true then some 6 else spF N (prevH l (k + 1)) (l.drop (k + 1)) := by
  rw [List.drop_eq_getElem_cons h, spF]
  have e : prevH l (k + 1) = some l[k].2.1 := by
    rw [prevH, if_neg (by omega), Nat.add_sub_cancel, List.getElem?_eq_getElem h]; rfl
  rw [e]
theorem rise_of {N : Int} : ∀ (l : List Sp) (p : Option Int), spF N p l = none → Rise N l ∧ ∀ h, p = some h → ∀ s ∈ l, h < s.1
  | [], _, _ => ⟨⟨fun s hs => by simp at hs, List.Pairwise.nil⟩, fun _ _ s hs => by simp at hs⟩
  | s :: r, p, h => by
    rw [spF] at h
    split at h
    · cases h
    · rename_i hb
      split at h
      · cases h
      · rename_i hp
        obtain ⟨h1, h2⟩ := rise_of r _ h
        unfold spBad at hb
        refine ⟨⟨fun t ht => ?_, List.pairwise_cons.2 ⟨fun t ht => h2 _ rfl t ht, h1.two⟩⟩, fun q hq t ht => ?_⟩
        · rcases List.mem_cons.1 ht with rfl | ht
          · omega
          · exact h1.one t ht
        · subst hq
          simp only [Option.any_some, decide_eq_true_eq] at hp
          rcases List.mem_cons.1 ht with rfl | ht
          · omega
          · have := h2 _ rfl t ht; omega
theorem rise_fits {N : Int} : ∀ (l : List Sp) (p : Option Int), Rise N l → (∀ h, p = some h → ∀ s ∈ l, h < s.1) → spF N p l = none
  | [], _, _, _ => rfl
  | s :: r, p, h, hp => by
    have h1 := h.one s (by simp)
    have h2 := List.pairwise_cons.1 h.two
    rw [spF, if_neg (by unfold spBad; omega), if_neg (by
      cases p with
      | none => simp
      | some q => have := hp q rfl s (by simp); simp; omega)]
    exact rise_fits r _ ⟨fun t ht => h.one t (by simp [ht]), h2.2⟩ (fun q hq t ht => by cases hq; exact h2.1 t ht)
set_option maxRecDepth 10000 in
set_option maxHeartbeats 1600000 in
theorem checkSpans_any (A : Nat → Addr) (l : List Sp) (a : Option Addr) (cap : Nat) (N : Nat) (w : World) (hcap : l.length ≤ 1000000000) (ha : PA w a l) (hS : Sent5 w A) :
    Calls Tryd.prog 29 #[.slice a l.length cap, .int .i64 (N : Int)] w fun e w' => e = .returned (errO A (spF N none l)) ∧ Below w.heap.size w w' := by
  have HS := hid0 ha
  have HE := hid0 hS
  clear ha hS
  go_enter Tryd.func29, Tryd.ntmps29
  go_wp2
  go_loopw [9] (fun i wr => ∃ k : Nat, k ≤ l.length ∧ i = .int .i64 (k : Int) ∧ Hid (spF N none l = spF N (prevH l k) (l.drop k)) ∧ Hid (Below w.heap.size w wr)) (fun i _ => l.length - (intOf i).toNat)
  case atStart => exact ⟨0, Nat.zero_le _, rfl, hid0 (by simp [prevH]), hid0 (Below.refl _ _)⟩
  case round =>
    obtain ⟨k, hk, rfl, HN, HB⟩ := hrel
    have hbs := HB.out.size
    obtain ⟨e0, _, _, _, e6⟩ := HE.out.later HB.out
    by_cases hlt : k < l.length
    · obtain ⟨b, off, rfl, hbw, c0, c1, c2⟩ := HS.out.at' k hlt
      have d0 := (HB.out.cell (p := ⟨b, off + k * 3, none⟩) hbw).trans c0
      have d1 := (HB.out.cell (p := ⟨b, off + k * 3 + 1, none⟩) hbw).trans c1
      have d2 := (HB.out.cell (p := ⟨b, off + k * 3 + 2, none⟩) hbw).trans c2
      have hkI : (k : Int) < (l.length : Int) := by omega
      have hkI0 : (0 : Int) ≤ (k : Int) := by omega
      have HF := hid0 (HN.out.trans (spF_at N l k hlt))
      have HB1 : Hid (Below w.heap.size w (wr.alloc (.cells #[.int .i64 l[k].1, .int .i64 l[k].2.1, .int .i64 l[k].2.2] 38))) := hid0 (HB.out.alloc hbs _)
      have g1e := World.new_ne wr _ e0
      have g6e := World.new_ne wr _ e6
      have hbn : ¬ b = wr.heap.size := by omega
      obtain ⟨s, hs⟩ : ∃ s, l[k] = s := ⟨_, rfl⟩
      rw [hs] at d0 d1 d2 HF HB1
      have HSK := hid0 hs
      obtain ⟨lo, hi', nm⟩ := s
      simp only at d0 d1 d2
      have x0 : (wr.alloc (.cells #[.int .i64 lo, .int .i64 hi', .int .i64 nm] 38)).cell? ⟨1, 0, none⟩ = some (errV A 0) := cell_alloc e0 _
      have x6 : (wr.alloc (.cells #[.int .i64 lo, .int .i64 hi', .int .i64 nm] 38)).cell? ⟨5, 0, none⟩ = some (errV A 6) := cell_alloc e6 _
      have hkb : (k : Int) ≤ 1000000000 := by omega
      clear c0 c1 c2 HN hs
      by_cases t1 : lo < 0
      · have HV : Hid (spF N none l = some 0) := hid0 (by rw [HF.out, if_pos (by unfold spBad; simp only; omega)])
        clear HF
        go_wp2
        go_ret
        exact ⟨by rw [HV.out]; rfl, HB1.out⟩
      · skip
        by_cases t2 : 1114111 < hi'
        · have HV : Hid (spF N none l = some 0) := hid0 (by rw [HF.out, if_pos (by unfold spBad; simp only; omega)])
          clear HF
          go_wp2
          go_ret
          exact ⟨by rw [HV.out]; rfl, HB1.out⟩
        · skip
          by_cases t3 : hi' < lo
          · have HV : Hid (spF N none l = some 0) := hid0 (by rw [HF.out, if_pos (by unfold spBad; simp only; omega)])
            clear HF
            go_wp2
            go_ret
            exact ⟨by rw [HV.out]; rfl, HB1.out⟩
          · skip
            by_cases t4 : nm < 0
            · have HV : Hid (spF N none l = some 0) := hid0 (by rw [HF.out, if_pos (by unfold spBad; simp only; omega)])
              clear HF
              go_wp2
              go_ret
              exact ⟨by rw [HV.out]; rfl, HB1.out⟩
            · skip
              by_cases t5 : (N : Int) ≤ nm
              · have HV : Hid (spF N none l = some 0) := hid0 (by rw [HF.out, if_pos (by unfold spBad; simp only; omega)])
                clear HF
                go_wp2
                go_ret
                exact ⟨by rw [HV.out]; rfl, HB1.out⟩
              · skip
                have HG : Hid (spF N none l = if (prevH l k).any (fun q => decide (lo ≤ q)) = true then some 6 else spF N (prevH l (k + 1)) (l.drop (k + 1))) := hid0 (by rw [HF.out, if_neg (by unfold spBad; simp only; omega)])
                clear HF
                rcases Nat.eq_zero_or_pos k with hk0 | hk0
                · have hz0 : ¬ 0 < k := by omega
                  have HN2 : Hid (spF N none l = spF N (prevH l (k + 1)) (l.drop (k + 1))) := hid0 (by rw [HG.out, if_neg (by rw [prevH, if_pos hk0]; simp)])
                  have HB2 : Hid (∀ nq, Below w.heap.size w ((wr.alloc (.cells #[.int .i64 lo, .int .i64 hi', .int .i64 nm] 38)).drewN nq)) := hid0 (fun nq => ⟨HB1.out.os, HB1.out.tape, HB1.out.output, HB1.out.size, HB1.out.block⟩)
                  clear HG hk0
                  go_wp2
                  go_quiet ((fail))
                  go_wp2
                  go_roundw
                  case rel => exact ⟨k + 1, by omega, by go_num, HN2, hid0 (HB2.out _)⟩
                  case measure => simp [intOf]; omega
                · obtain ⟨m, hm⟩ : ∃ m, k = m + 1 := ⟨k - 1, by omega⟩
                  have hsub : (k : Int) - 1 = (m : Int) := by omega
                  have hml : m < l.length := by omega
                  obtain ⟨b2, off2, eb, _, _, q1, _⟩ := HS.out.at' m hml
                  simp only [Option.some.injEq, Addr.mk.injEq, and_true] at eb
                  obtain ⟨rfl, rfl⟩ := eb
                  have dq := (HB.out.cell (p := ⟨b, off + m * 3 + 1, none⟩) hbw).trans q1
                  obtain ⟨ph, hph⟩ : ∃ ph, l[m].2.1 = ph := ⟨_, rfl⟩
                  rw [hph] at dq
                  have HPV : Hid (prevH l k = some ph) := hid0 (by rw [prevH, if_neg (by omega), hm, Nat.add_sub_cancel, List.getElem?_eq_getElem hml]; simp [hph])
                  have hmI : (m : Int) < (l.length : Int) := by omega
                  have hmI0 : (0 : Int) ≤ (m : Int) := by omega
                  have hmW : IntKind.i64.wrap (m : Int) = (m : Int) := by simp [IntKind.wrap, IntKind.bits, IntKind.signed]; omega
                  clear hm hph q1
                  have HSW : Hid ((wr.alloc (.cells #[.int .i64 lo, .int .i64 hi', .int .i64 nm] 38)).cell? ⟨wr.heap.size, 0, none⟩ = some (.int .i64 lo) ∧ (wr.alloc (.cells #[.int .i64 lo, .int .i64 hi', .int .i64 nm] 38)).cell? ⟨b, off + m * 3 + 1, none⟩ = some (.int .i64 ph)) := hid0 ⟨by rw [cell_of_row _ _ _ _ _ _ (heap_alloc_new wr _)]; rfl, cell_alloc dq _⟩
                  by_cases t6 : lo ≤ ph
                  · have HV : Hid (spF N none l = some 6) := hid0 (by rw [HG.out, if_pos (by rw [HPV.out]; simpa using t6)])
                    clear HG
                    go_wp2
                    go_region_held3 (fun w' => w'.cell? ⟨wr.heap.size, 0, none⟩ = some (.int .i64 lo) ∧ w'.cell? ⟨b, off + m * 3 + 1, none⟩ = some (.int .i64 ph)) (go_keep) (fail)
                    go_wp2
                    go_ret
                    exact ⟨by rw [HV.out]; rfl, HB1.out.drew⟩
                  · have HN2 : Hid (spF N none l = spF N (prevH l (k + 1)) (l.drop (k + 1))) := hid0 (by rw [HG.out, if_neg (by rw [HPV.out]; simpa using t6)])
                    clear HG
                    go_wp2
                    go_region_held3 (fun w' => w'.cell? ⟨wr.heap.size, 0, none⟩ = some (.int .i64 lo) ∧ w'.cell? ⟨b, off + m * 3 + 1, none⟩ = some (.int .i64 ph)) (go_keep) (fail)
                    go_wp2
                    go_roundw
                    case rel => exact ⟨k + 1, by omega, by go_num, HN2, hid0 HB1.out.drew⟩
                    case measure => simp [intOf]; omega
    · have hkI : ¬ (k : Int) < (l.length : Int) := by omega
      have HV : Hid (spF N none l = none) := hid0 (by rw [HN.out, List.drop_of_length_le (by omega)]; rfl)
      go_wp2
      go_ret
      exact ⟨by rw [HV.out]; rfl, HB.out⟩
end Go.Proofs.YtpimameogmkpcaaDoor
