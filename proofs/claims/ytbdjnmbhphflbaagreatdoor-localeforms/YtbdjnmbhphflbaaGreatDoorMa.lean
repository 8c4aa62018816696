/-
  LfM, LfSW.
-/
import Derived.Test.YtbdjnmbhphflbaaGreatDoorLtM
import Derived.Test.YtbdjnmbhphflbaaGreatDoorLtDW
namespace Go.Proofs.YtbdjnmbhphflbaaGreatDoor
open Go.Lib
/-- A byte with a small letter, and _ for -. -/
def smaB (b : UInt8) : UInt8 := rep (lowerB b)
def smaL (t : List UInt8) : List UInt8 := t.map smaB
set_option maxRecDepth 100000 in
theorem sm_facts : ∀ i : Fin 256, smaB (lowerB (UInt8.ofNat i.val)) = smaB (UInt8.ofNat i.val) ∧ smaB (upperB (UInt8.ofNat i.val)) = smaB (UInt8.ofNat i.val) ∧ smaB (rep (UInt8.ofNat i.val)) = smaB (UInt8.ofNat i.val) ∧ isSep (smaB (UInt8.ofNat i.val)) = isSep (UInt8.ofNat i.val) ∧
    (isN (UInt8.ofNat i.val) = true → lowerB (smaB (UInt8.ofNat i.val)) = lowerB (UInt8.ofNat i.val) ∧ upperB (smaB (UInt8.ofNat i.val)) = upperB (UInt8.ofNat i.val) ∧ isL (smaB (UInt8.ofNat i.val)) = isL (UInt8.ofNat i.val)) := by decide
theorem sm_lo (b : UInt8) : smaB (lowerB b) = smaB b := all256 (p := fun b => smaB (lowerB b) = smaB b) (fun i => (sm_facts i).1) b
theorem sm_up (b : UInt8) : smaB (upperB b) = smaB b := all256 (p := fun b => smaB (upperB b) = smaB b) (fun i => (sm_facts i).2.1) b
theorem sm_rep (b : UInt8) : smaB (rep b) = smaB b := all256 (p := fun b => smaB (rep b) = smaB b) (fun i => (sm_facts i).2.2.1) b
theorem sm_sep (b : UInt8) : isSep (smaB b) = isSep b := all256 (p := fun b => isSep (smaB b) = isSep b) (fun i => (sm_facts i).2.2.2.1) b
theorem sm_N (b : UInt8) : isN b = true → lowerB (smaB b) = lowerB b ∧ upperB (smaB b) = upperB b ∧ isL (smaB b) = isL b := all256 (p := fun b => isN b = true → lowerB (smaB b) = lowerB b ∧ upperB (smaB b) = upperB b ∧ isL (smaB b) = isL b) (fun i => (sm_facts i).2.2.2.2) b
theorem sm_95 : smaB 95 = 95 := by decide
theorem join_sm : ∀ (ps : List (List UInt8)), smaL (joinU ps) = joinU (ps.map smaL)
  | [] => rfl
  | [p] => by rw [List.map_cons, List.map_nil, joinU_one, joinU_one]
  | p :: q :: r => by
    have ih := join_sm (q :: r)
    rw [joinU_cons, List.map_cons, List.map_cons, joinU_cons, ← List.map_cons, ← ih]
    simp [smaL, sm_95]
theorem form_sm (p : List UInt8) : smaL (formP p) = smaL p := by
  have hu : ∀ l : List UInt8, smaL (l.map upperB) = smaL l := fun l => by simp [smaL, Function.comp_def, sm_up]
  have hl : ∀ l : List UInt8, smaL (l.map lowerB) = smaL l := fun l => by simp [smaL, Function.comp_def, sm_lo]
  have ha : ∀ a b : List UInt8, smaL (a ++ b) = smaL a ++ smaL b := fun a b => by simp [smaL]
  unfold formP
  split
  · rw [ha, hu, hl, ← ha, List.take_append_drop]
  · split
    · exact hu p
    · exact hl p
theorem canon_sm : ∀ (ps : List (List UInt8)), (canonP ps).map smaL = ps.map smaL
  | [] => rfl
  | p :: r => by
    simp only [canonP, List.map_cons, List.map_map]
    rw [show smaL (p.map lowerB) = smaL p by simp [smaL, Function.comp_def, sm_lo], show smaL ∘ formP = smaL from funext form_sm]
/-- A tag's one form is the tag but for letters' size and - against _. -/
theorem tagF_sm {t c : List UInt8} (h : tagF t = some c) : smaL c = smaL t := by
  unfold tagF at h
  split at h
  · obtain rfl := Option.some.inj h
    rw [join_sm, canon_sm, ← join_sm, join_pieces]
    simp [smaL, Function.comp_def, sm_rep]
  · cases h
theorem pieces_sm : ∀ (t : List UInt8), pieces (smaL t) = (pieces t).map smaL
  | [] => rfl
  | b :: r => by
    have ih := pieces_sm r
    show pieces (smaB b :: smaL r) = _
    rw [pieces, pieces, sm_sep, ih]
    split
    · rfl
    · cases hq : pieces r with
      | nil => exact absurd hq (pieces_ne r)
      | cons p ps => rfl
theorem map_N {f : UInt8 → UInt8} (hf : ∀ b, isN b = true → f (smaB b) = f b) : ∀ (p : List UInt8), (∀ b ∈ p, isN b = true) → (smaL p).map f = p.map f
  | [], _ => rfl
  | b :: r, h => by
    show f (smaB b) :: (smaL r).map f = _
    rw [hf b (h b (by simp)), map_N hf r (fun x hx => h x (by simp [hx]))]
    rfl
theorem all_N : ∀ (p : List UInt8), (∀ b ∈ p, isN b = true) → (smaL p).all isL = p.all isL
  | [], _ => rfl
  | b :: r, h => by
    show (isL (smaB b) && (smaL r).all isL) = _
    rw [(sm_N b (h b (by simp))).2.2, all_N r (fun x hx => h x (by simp [hx]))]
    rfl
theorem sm_len (p : List UInt8) : (smaL p).length = p.length := by simp [smaL]
theorem formP_sm (p : List UInt8) (h : ∀ b ∈ p, isN b = true) : formP (smaL p) = formP p := by
  have hu := map_N (f := upperB) (fun b hb => (sm_N b hb).2.1)
  have hl := map_N (f := lowerB) (fun b hb => (sm_N b hb).1)
  unfold formP
  rw [all_N p h, sm_len]
  have e1 : (smaL p).take 1 = smaL (p.take 1) := by simp [smaL, List.map_take]
  have e2 : (smaL p).drop 1 = smaL (p.drop 1) := by simp [smaL]
  rw [e1, e2, hu (p.take 1) (fun b hb => h b (List.mem_of_mem_take hb)), hl (p.drop 1) (fun b hb => h b (List.mem_of_mem_drop hb)), hu p h, hl p h]
theorem canonP_sm : ∀ (ps : List (List UInt8)), (∀ p ∈ ps, ∀ b ∈ p, isN b = true) → canonP (ps.map smaL) = canonP ps
  | [], _ => rfl
  | p :: r, h => by
    simp only [List.map_cons, canonP, List.map_map]
    rw [map_N (fun b hb => (sm_N b hb).1) p (h p (by simp))]
    congr 1
    apply List.map_congr_left
    intro q hq
    exact formP_sm q (h q (by simp [hq]))
/-- Two tags have one form just if they are the same but for letters' size and - against _. -/
theorem tagF_same {t u c d : List UInt8} (h : tagF t = some c) (g : tagF u = some d) : c = d ↔ smaL t = smaL u := by
  constructor
  · intro e
    rw [← tagF_sm h, ← tagF_sm g, e]
  · intro e
    have key : ∀ {t c : List UInt8}, tagF t = some c → c = joinU (canonP (pieces (smaL t))) := fun {t c} h => by
      unfold tagF at h
      split at h
      · rename_i hv
        obtain rfl := Option.some.inj h
        rw [pieces_sm, canonP_sm _ (pieces_of_fine t (validP_fine hv.2))]
      · cases h
    rw [key h, key g, e]
/-- The one form of a one form is itself. -/
theorem tagF_again {t c : List UInt8} (h : tagF t = some c) : tagF c = some c := by
  unfold tagF at h
  split at h
  · rename_i hv
    obtain rfl := Option.some.inj h
    rw [tagF_form (validP_fine hv.2) hv.1, if_pos hv.2]
  · cases h
end Go.Proofs.YtbdjnmbhphflbaaGreatDoor
namespace Go.Proofs.YtbdjnmbhphflbaaGreatDoor
open Go.RowKit Go.Shelf Go.Lib
set_option maxRecDepth 100000 in
theorem sma_facts : ∀ i : Fin 256, (65 ≤ i.val → i.val ≤ 90 → (smaB (UInt8.ofNat i.val)).toNat = i.val + 32) ∧ (i.val = 45 → (smaB (UInt8.ofNat i.val)).toNat = 95) ∧ (¬ (65 ≤ i.val ∧ i.val ≤ 90) → ¬ i.val = 45 → (smaB (UInt8.ofNat i.val)).toNat = i.val) := by decide
theorem sma_b (b : UInt8) : (65 ≤ b.toNat → b.toNat ≤ 90 → (smaB b).toNat = b.toNat + 32) ∧ (b.toNat = 45 → (smaB b).toNat = 95) ∧ (¬ (65 ≤ b.toNat ∧ b.toNat ≤ 90) → ¬ b.toNat = 45 → (smaB b).toNat = b.toNat) := by
  have h := sma_facts ⟨b.toNat, b.toNat_lt⟩
  simpa using h
set_option maxRecDepth 10000 in
set_option maxHeartbeats 1600000 in
theorem small_law (s : ByteArray) (hs : s.size ≤ 1000000) (w : World) : Calls Tryz.prog 16 #[.string s] w fun e w' => e = .returned (.string ⟨(smaL s.data.toList).toArray⟩) ∧ Below w.heap.size w w' := by
  obtain ⟨i0, hi, hz0, hz1, hz2⟩ := info_parts infoU8
  obtain ⟨Y, hY⟩ : ∃ Y, Y = smaL s.data.toList := ⟨_, rfl⟩
  rw [← hY]
  have HY := hid0 hY
  clear hY
  go_enter Tryz.func16, Tryz.ntmps16
  go_wp2
  go_loopw [3, 4] (fun v i wr => ∃ k : Nat, k ≤ s.size ∧ i = .int .i64 (k : Int) ∧ Hid (OwnB wr w.heap.size v ((s.data.toList.take k).map smaB)) ∧ Hid (Below w.heap.size w wr)) (fun _ i _ => s.size - (intOf i).toNat)
  case atStart => exact ⟨0, Nat.zero_le _, rfl, hid0 (World.ownsRow_nil _ _ _ _), hid0 (Below.refl _ _)⟩
  case round =>
    obtain ⟨k, hk, rfl, HO, HB⟩ := hrel
    have hbs := HB.out.size
    have hsl : s.data.toList.length = s.size := by simp
    obtain ⟨X, hX⟩ : ∃ X, X = (s.data.toList.take k).map smaB := ⟨_, rfl⟩
    have htl : X.length = k := by rw [hX, List.length_map, List.length_take]; omega
    rw [← hX] at HO
    have HTL := hid0 htl
    have HX := hid0 hX
    have HOO : Hid (wr.ownsRow w.heap.size 5 1 u3 k (cellsB X)) := hid0 (by have h := HO.out; unfold OwnB at h; rw [htl] at h; exact h)
    clear htl hX
    by_cases hlt : k < s.size
    · have HC := hid0 (bget s k hlt)
      have hkI : (k : Int) < (s.size : Int) := by omega
      have hkI0 : (0 : Int) ≤ (k : Int) := by omega
      have HTK : Hid ((s.data.toList.take (k + 1)).map smaB = X ++ [smaB s[k]]) := hid0 (by rw [List.take_add_one, HC.out, List.map_append, HX.out]; rfl)
      obtain ⟨hx0, hx1⟩ := byteI s[k]
      obtain ⟨hy0, hy1⟩ := byteI (smaB s[k])
      obtain ⟨f1, f2, f3⟩ := sma_b s[k]
      by_cases h1 : (65 : Int) ≤ (s[k].toNat : Int)
      · by_cases h2 : (s[k].toNat : Int) ≤ 90
        · have hd0 := f1 (by omega) (by omega)
          have hv : IntKind.u8.wrap ((s[k].toNat : Int) + 32) = ((smaB s[k]).toNat : Int) := by simp [IntKind.wrap, IntKind.bits, IntKind.signed]; omega
          have hd1 : (((smaB s[k]).toNat : Int) == 45) = false := by rw [beq_eq_false_iff_ne]; omega
          have HD := hid0 (rfl : ((smaB s[k]).toNat : Int) = ((smaB s[k]).toNat : Int))
          generalize smaB s[k] = d at *
          clear HC HX f1 f2 f3 hd0
          go_wp2_with (first
            | (at_builtin; refine wpList_append_own _ rfl _ _ 72 rfl w.heap.size 5 i0 (.int .u8 0) 1 1 Tryz.underlying72 hi hz0 hz1 hz2 rfl (by decide) _ _ _ rfl (HOO.out.alloc _) ⟨_, 0, none⟩ 1 1 [.int .u8 ((d.toNat : Int))] rfl rfl (cell_one_new _ _ _) ?c2b ?c3b ?c4b ?c5b ?_))
          case c2b => simp [Value.oneCell']
          case c3b => unfold maxLen; omega
          case c4b => omega
          case c5b => first | omega | (simp; omega)
          intro v2 w4 hown' hgrow _
          obtain ⟨g1, g2⟩ := ownB_snoc (base := w.heap.size) (l := X) (c := d) (n := k) HTL.out.symm HO.out (by first | exact hown' | (rw [HD.out]; exact hown')) hgrow HB.out (Nat.le_refl _)
          have HO4 : Hid (OwnB w4 w.heap.size v2 ((s.data.toList.take (k + 1)).map smaB)) := hid0 (by rw [HTK.out]; exact g1)
          have HB4 := hid0 g2
          clear hown' hgrow g1 g2 HOO HO HB HTK
          go_wp2
          go_roundw
          case rel => exact ⟨k + 1, by omega, by go_num, HO4, HB4⟩
          case measure => first | omega | (simp [intOf]; omega)
        · have hd0 := f3 (by omega) (by omega)
          have hd1 : ((s[k].toNat : Int) == 45) = false := by rw [beq_eq_false_iff_ne]; omega
          have HD : Hid (((smaB s[k]).toNat : Int) = (s[k].toNat : Int)) := hid0 (by omega)
          generalize smaB s[k] = d at *
          clear HC HX f1 f2 f3 hd0
          go_wp2_with (first
            | (at_builtin; refine wpList_append_own _ rfl _ _ 72 rfl w.heap.size 5 i0 (.int .u8 0) 1 1 Tryz.underlying72 hi hz0 hz1 hz2 rfl (by decide) _ _ _ rfl (HOO.out.alloc _) ⟨_, 0, none⟩ 1 1 [.int .u8 ((s[k].toNat : Int))] rfl rfl (cell_one_new _ _ _) ?c2b ?c3b ?c4b ?c5b ?_))
          case c2b => simp [Value.oneCell']
          case c3b => unfold maxLen; omega
          case c4b => omega
          case c5b => first | omega | (simp; omega)
          intro v2 w4 hown' hgrow _
          obtain ⟨g1, g2⟩ := ownB_snoc (base := w.heap.size) (l := X) (c := d) (n := k) HTL.out.symm HO.out (by first | exact hown' | (rw [HD.out]; exact hown')) hgrow HB.out (Nat.le_refl _)
          have HO4 : Hid (OwnB w4 w.heap.size v2 ((s.data.toList.take (k + 1)).map smaB)) := hid0 (by rw [HTK.out]; exact g1)
          have HB4 := hid0 g2
          clear hown' hgrow g1 g2 HOO HO HB HTK
          go_wp2
          go_roundw
          case rel => exact ⟨k + 1, by omega, by go_num, HO4, HB4⟩
          case measure => first | omega | (simp [intOf]; omega)
      · by_cases h3 : (s[k].toNat : Int) = 45
        · have hd0 := f2 (by omega)
          have hd1 : ((s[k].toNat : Int) == 45) = true := by rw [beq_iff_eq]; exact h3
          have HD : Hid (((smaB s[k]).toNat : Int) = 95) := hid0 (by omega)
          generalize smaB s[k] = d at *
          clear HC HX f1 f2 f3 hd0
          go_wp2_with (first
            | (at_builtin; refine wpList_append_own _ rfl _ _ 72 rfl w.heap.size 5 i0 (.int .u8 0) 1 1 Tryz.underlying72 hi hz0 hz1 hz2 rfl (by decide) _ _ _ rfl (HOO.out.alloc _) ⟨_, 0, none⟩ 1 1 [.int .u8 (95)] rfl rfl (cell_one_new _ _ _) ?c2b ?c3b ?c4b ?c5b ?_))
          case c2b => simp [Value.oneCell']
          case c3b => unfold maxLen; omega
          case c4b => omega
          case c5b => first | omega | (simp; omega)
          intro v2 w4 hown' hgrow _
          obtain ⟨g1, g2⟩ := ownB_snoc (base := w.heap.size) (l := X) (c := d) (n := k) HTL.out.symm HO.out (by first | exact hown' | (rw [HD.out]; exact hown')) hgrow HB.out (Nat.le_refl _)
          have HO4 : Hid (OwnB w4 w.heap.size v2 ((s.data.toList.take (k + 1)).map smaB)) := hid0 (by rw [HTK.out]; exact g1)
          have HB4 := hid0 g2
          clear hown' hgrow g1 g2 HOO HO HB HTK
          go_wp2
          go_roundw
          case rel => exact ⟨k + 1, by omega, by go_num, HO4, HB4⟩
          case measure => first | omega | (simp [intOf]; omega)
        · have hd0 := f3 (by omega) (by omega)
          have hd1 : ((s[k].toNat : Int) == 45) = false := by rw [beq_eq_false_iff_ne]; exact h3
          have HD : Hid (((smaB s[k]).toNat : Int) = (s[k].toNat : Int)) := hid0 (by omega)
          generalize smaB s[k] = d at *
          clear HC HX f1 f2 f3 hd0
          go_wp2_with (first
            | (at_builtin; refine wpList_append_own _ rfl _ _ 72 rfl w.heap.size 5 i0 (.int .u8 0) 1 1 Tryz.underlying72 hi hz0 hz1 hz2 rfl (by decide) _ _ _ rfl (HOO.out.alloc _) ⟨_, 0, none⟩ 1 1 [.int .u8 ((s[k].toNat : Int))] rfl rfl (cell_one_new _ _ _) ?c2b ?c3b ?c4b ?c5b ?_))
          case c2b => simp [Value.oneCell']
          case c3b => unfold maxLen; omega
          case c4b => omega
          case c5b => first | omega | (simp; omega)
          intro v2 w4 hown' hgrow _
          obtain ⟨g1, g2⟩ := ownB_snoc (base := w.heap.size) (l := X) (c := d) (n := k) HTL.out.symm HO.out (by first | exact hown' | (rw [HD.out]; exact hown')) hgrow HB.out (Nat.le_refl _)
          have HO4 : Hid (OwnB w4 w.heap.size v2 ((s.data.toList.take (k + 1)).map smaB)) := hid0 (by rw [HTK.out]; exact g1)
          have HB4 := hid0 g2
          clear hown' hgrow g1 g2 HOO HO HB HTK
          go_wp2
          go_roundw
          case rel => exact ⟨k + 1, by omega, by go_num, HO4, HB4⟩
          case measure => first | omega | (simp [intOf]; omega)
    · have hkI : ¬ (k : Int) < (s.size : Int) := by omega
      have hcv := toStr HO.out
      rw [HX.out, List.take_of_length_le (by omega), show s.data.toList.map smaB = Y by rw [HY.out]; rfl] at hcv
      go_wp2
      go_ret
      exact ⟨rfl, HB.out⟩
end Go.Proofs.YtbdjnmbhphflbaaGreatDoor
