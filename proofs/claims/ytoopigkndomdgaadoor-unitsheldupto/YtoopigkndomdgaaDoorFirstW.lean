/-
  The walks of caesuralaw2.first and caesuralaw2.UnitsPieces.
-/
import Derived.Test.YtoopigkndomdgaaDoorSameUW
import Derived.Test.YtoopigkndomdgaaDoorPiecesM
import Derived.Laws.Concat
import Derived.Deep.RegionHeld3
namespace Go.Proofs.YtoopigkndomdgaaDoor
open Go.RowKit
theorem first_units : unitsOf (⟨#[97, 195, 169, 128]⟩ : ByteArray).data.toList = [(97, 0, 1), (233, 1, 3), (-1, 3, 4)] := by decide +kernel
theorem units_of_new (w : World) (us : List (Int × Nat × Nat)) (n : Nat) (cs : Array Value) (hn : n = us.length) (hc : cs.toList = cellsU us) (t : TypeId) : UnitsAt (w.alloc (.cells cs t)) (.slice (some ⟨w.heap.size, 0, none⟩) n n) us := by
  subst hn
  refine .inr ⟨w.heap.size, 0, _, rfl, fun k hk => ?_⟩
  obtain ⟨a, b, c⟩ := cellsU_at us k hk
  rw [cell_of_row _ w.heap.size _ _ _ _ (heap_alloc_new w _), cell_of_row _ w.heap.size _ _ _ _ (heap_alloc_new w _), cell_of_row _ w.heap.size _ _ _ _ (heap_alloc_new w _), Nat.zero_add]
  rw [← Array.getElem?_toList, ← Array.getElem?_toList, ← Array.getElem?_toList, hc]
  exact ⟨a, b, c⟩
set_option maxRecDepth 10000 in
set_option maxHeartbeats 400000 in
theorem first_any (w : World) (hT : SeqAt w) :
    Calls Tryd.prog 9 #[] w fun e w' => e = .returned (.bool true) ∧ Below w.heap.size w w' := by
  have hs := split_any ⟨#[97, 195, 169, 128]⟩ (by decide) w hT
  rw [first_units] at hs
  have HS := hid hs
  clear hs hT
  go_enter Tryd.func9, Tryd.ntmps9
  go_wp2_with (first
    | (go_at_call 11; refine HS.out.mono ?_; rintro e w1 ⟨v1, rfl, ho1, hb1⟩; have HO1 := hid ho1; clear ho1)
    | (go_at_call 12; refine (sameU_any [(97, 0, 1), (233, 1, 3), (-1, 3, 4)] _ _ _ (by decide) (HO1.out.later (alloc_below _ _)).at (units_of_new _ _ _ _ rfl rfl _)).mono ?_; rintro e w3 ⟨rfl, q, rfl⟩)
    | fail)
  go_ret
  exact ⟨rfl, below_drewN (hb1.alloc hb1.size _) _⟩
theorem mark_cut : cutOf (⟨#[97, 226, 130]⟩ : ByteArray).data.toList = 2 := by decide +kernel
/-- The two strings in the parameter's box, and the table, later on. -/
structure BoxW (w : World) (B : Nat) (x y : Value) (t : TypeId) (w2 : World) : Prop where
  box : w2.heap[B]? = some (.cells #[x, y] t (0, 0))
  seq : SeqAt w2
  bel : Below w.heap.size w w2
theorem BoxW.start {w : World} {x y : Value} {t : TypeId} (h : SeqAt w) : BoxW w w.heap.size x y t (w.alloc (.cells #[x, y] t)) := ⟨heap_alloc_new _ _, h.later (alloc_below _ _), alloc_below _ _⟩
theorem BoxW.next {w w2 w3 : World} {B : Nat} {x y : Value} {t : TypeId} (h : BoxW w B x y t w2) (hb : Below w2.heap.size w2 w3) : BoxW w B x y t w3 :=
  ⟨(hb.block B (Array.getElem?_eq_some_iff.1 h.box).1).trans h.box, h.seq.later hb, h.bel.trans (hb.mono h.bel.size)⟩
theorem BoxW.cells {w w2 : World} {B : Nat} {x y : Value} {t : TypeId} (h : BoxW w B x y t w2) : w2.cell? ⟨B, 0, none⟩ = some x ∧ w2.cell? ⟨B, 1, none⟩ = some y := by
  constructor <;> (rw [cell_of_row w2 B _ _ _ _ h.box]; rfl)
theorem BoxW.drewN {w w2 : World} {B : Nat} {x y : Value} {t : TypeId} (h : BoxW w B x y t w2) (q : Nat) : BoxW w B x y t (w2.drewN q) := ⟨h.box, fun i hi k hk => h.seq i hi k hk, below_drewN h.bel q⟩
theorem OwnU.drewN {w : World} {base : Nat} {v : Value} {us : List (Int × Nat × Nat)} (h : OwnU w base v us) (q : Nat) : OwnU (w.drewN q) base v us := h
theorem unitsF_bound : ∀ (f k : Nat) (l : List UInt8), ∀ u ∈ unitsF f k l, u.2.1 < k + l.length ∧ u.2.2 ≤ k + l.length := by
  intro f
  induction f with
  | zero => intro k l u hu; simp [unitsF] at hu
  | succ f ih =>
    intro k l u hu
    cases l with
    | nil => simp [unitsF] at hu
    | cons a l =>
      have hs := uni_size a l
      rw [unitsF] at hu
      rcases List.mem_cons.1 hu with rfl | h
      · simp only [List.length_cons]; omega
      · have := ih _ _ u h
        rw [List.length_drop] at this
        simp only [List.length_cons] at this ⊢
        omega
theorem units_bound (s : ByteArray) : ∀ u ∈ unitsOf s.data.toList, u.2.1 ≤ s.size ∧ u.2.2 ≤ s.size := by
  intro u hu
  have := unitsF_bound _ _ _ u hu
  rw [List.drop_zero, bsize] at this
  omega
theorem OwnU.cell3 {w : World} {base g n cap : Nat} {us : List (Int × Nat × Nat)} (h : OwnU w base (.slice (some ⟨g, 0, none⟩) n cap) us) (k : Nat) (hk : k < us.length) :
    w.cell? ⟨g, k * 3, none⟩ = some (.int .i64 us[k].1) ∧ w.cell? ⟨g, k * 3 + 1, none⟩ = some (.int .i64 (us[k].2.1 : Int)) ∧ w.cell? ⟨g, k * 3 + 2, none⟩ = some (.int .i64 (us[k].2.2 : Int)) := by
  rcases h.at with ⟨h', _⟩ | ⟨b, off, c, h', hc⟩
  · simp at h'
  · simp only [Value.slice.injEq, Option.some.injEq, Addr.mk.injEq, and_true] at h'
    obtain ⟨⟨rfl, rfl⟩, _, rfl⟩ := h'
    simpa using hc k hk
theorem extract_end (s : ByteArray) (k : Nat) : (s.extract k s.size).data.toList = s.data.toList.drop k := by
  have h : s.data.toList.length = s.size := bsize s
  rw [ByteArray.data_extract, Array.toList_extract, List.extract_eq_take_drop]
  apply List.take_of_length_le
  rw [List.length_drop, h]
  exact Nat.le_refl _
theorem str_size {u : ByteArray} {l : List UInt8} (h : u.data.toList = l) : u.size = l.length := by rw [← h]; simp
theorem mark_any (w : World) (hT : SeqAt w) : Calls Tryd.prog 10 #[.string ⟨#[97, 226, 130]⟩] w fun e w' => e = .returned (.int .i64 2) ∧ Below w.heap.size w w' := by
  have h := cut_any ⟨#[97, 226, 130]⟩ (by decide) w hT
  rw [mark_cut] at h
  exact h
theorem app_list (A B : ByteArray) : (A ++ B).data.toList = A.data.toList ++ B.data.toList := by simp
theorem OwnU.front {w : World} {base g n cap : Nat} {us vs : List (Int × Nat × Nat)} {m : Nat} (h : OwnU w base (.slice (some ⟨g, 0, none⟩) n cap) (us ++ vs)) (hm : m = us.length) : UnitsAt w (.slice (some ⟨g, 0, none⟩) m cap) us := by
  subst hm
  rcases h.at with ⟨h', _⟩ | ⟨b, off, c, h', hc⟩
  · simp at h'
  · simp only [Value.slice.injEq, Option.some.injEq, Addr.mk.injEq, and_true] at h'
    obtain ⟨⟨rfl, rfl⟩, _, rfl⟩ := h'
    refine .inr ⟨g, 0, cap, rfl, fun k hk => ?_⟩
    have := hc k (by simp; omega)
    simpa [List.getElem_append_left hk] using this
set_option maxRecDepth 10000 in
set_option maxHeartbeats 1600000 in
theorem pieces_walk (A B : ByteArray) (hs : A.size + B.size ≤ 1048576) (w : World) (hT : SeqAt w) :
    Calls Tryd.prog 3 #[.agg #[.string A, .string B]] w fun e w' => e = .returned (.bool true) ∧ Below w.heap.size w w' := by
  have HX := hid (BoxW.start (x := .string A) (y := .string B) (t := 23) hT)
  have hc := cutOf_le A.data.toList
  rw [bsize] at hc
  have hP := units_pieces A.data.toList B.data.toList
  rw [bsize] at hP
  have hcut := fun w hT => cut_any A (by omega) w hT
  have HM := hid mark_any
  generalize hcc : cutOf A.data.toList = c at *
  have hxl : (A.extract 0 (A.size - c)).data.toList = A.data.toList.take (A.size - c) := by have := extract_take A 0 (A.size - c); rwa [Nat.zero_add, List.drop_zero] at this
  have hrl : (A.extract (A.size - c) A.size ++ B).data.toList = A.data.toList.drop (A.size - c) ++ B.data.toList := by rw [app_list, extract_end]
  have HS1 := hid (split_as (A ++ B) (A.data.toList ++ B.data.toList) (app_list A B) (by rw [ByteArray.size_append']; omega))
  have HS2 := hid (split_as (A.extract 0 (A.size - c)) _ hxl (by have := str_size hxl; rw [List.length_take, bsize] at this; omega))
  have HS3 := hid (split_as (A.extract (A.size - c) A.size ++ B) _ hrl (by have := str_size hrl; rw [List.length_append, List.length_drop, bsize, bsize] at this; omega))
  have hl1 := units_le (A ++ B)
  have hl2 := units_le (A.extract 0 (A.size - c))
  have hl3 := units_le (A.extract (A.size - c) A.size ++ B)
  rw [app_list, ByteArray.size_append', hP] at hl1
  rw [hxl] at hl2
  rw [hrl] at hl3
  have hsz2 : (A.extract 0 (A.size - c)).size ≤ A.size := by have := str_size hxl; rw [List.length_take, bsize] at this; omega
  have hsz3 : (A.extract (A.size - c) A.size ++ B).size ≤ A.size + B.size := by have := str_size hrl; rw [List.length_append, List.length_drop, bsize, bsize] at this; omega
  have hbd : ∀ u ∈ unitsOf (A.data.toList.drop (A.size - c) ++ B.data.toList), u.2.1 ≤ 1048576 ∧ u.2.2 ≤ 1048576 := fun u hu => by have := units_bound (A.extract (A.size - c) A.size ++ B) u (by rw [hrl]; exact hu); omega
  rw [hP] at HS1
  generalize unitsOf (A.data.toList.take (A.size - c)) = H at *
  generalize unitsOf (A.data.toList.drop (A.size - c) ++ B.data.toList) = R at *
  have HC := hid hcut
  have hi1 : ¬ (c : Int) < 0 := by omega
  have hi2 : ¬ (3 : Int) < (c : Int) := by omega
  have hi3 : ¬ A.size < c := by omega
  have hlen : (H ++ shiftU (A.size - c) R).length = H.length + R.length := by simp [shiftU]
  rw [hlen] at HS1 hl1
  clear hcut hcc hT hxl hrl hP hlen
  have hk1 : (0 : Int) ≤ (A.size : Int) - (c : Int) := by omega
  have hk2 : (A.size : Int) - (c : Int) ≤ (A.size : Int) := by omega
  have hk3 : ((A.size : Int) - (c : Int)).toNat = A.size - c := by omega
  have hk4 : (c : Int) ≤ (A.size : Int) := by omega
  have hk6 : (A.extract (A.size - c) A.size).size + B.size ≤ 9223372036854775807 := by rw [ByteArray.size_append'] at hsz3; omega
  have hk7 : ¬ (9223372036854775807 < (A.extract (A.size - c) A.size).size + B.size) := by omega
  have hadd := fun w => run_string_add_sum (P := Tryd.prog) (w := w) (A.extract (A.size - c) A.size) B hk6
  have hk5 : (0 : Int) ≤ (c : Int) := by omega
  have hw0 : IntKind.i64.wrap ((A.size : Int) - (c : Int)) = (A.size : Int) - (c : Int) := IntWalk.i64_in _ (by omega)
  have hw1 : wrap64 ((A.size : Int) - (c : Int)) = (A.size : Int) - (c : Int) := IntWalk.wrap64_in _ (by omega)
  have hcm : (((R.length : Int) + (H.length : Int)) != ((H.length : Int) + (R.length : Int))) = false := by simp; omega
  have hhr : (H.length : Int) ≤ (H.length : Int) + (R.length : Int) := by omega
  go_enter Tryd.func3, Tryd.ntmps3
  go_wp2_with (first
    | (go_at_call 9; have hq := HX.out; clear HX; refine (first_any _ hq.seq).mono ?_; rintro e w1 ⟨rfl, hb1⟩; have HX1 := hid (hq.next hb1); obtain ⟨c0, c1⟩ := HX1.out.cells; clear hb1 hq)
    | (go_at_call 10; have hq := HC.out; clear HC; refine (hq _ HX1.out.seq).mono ?_; rintro e w2 ⟨rfl, hb2⟩; have HX2 := hid (HX1.out.next hb2); obtain ⟨d0, d1⟩ := HX2.out.cells; clear hb2 c0 c1 hq HX1)
    | (go_at_call 10; have hq := HM.out; clear HM; refine (hq _ HX2.out.seq).mono ?_; rintro e w3 ⟨rfl, hb3⟩; have HX3 := hid (HX2.out.next hb3); obtain ⟨e0, e1⟩ := HX3.out.cells; clear hb3 d0 d1 hq HX2)
    | (go_at_call 11; have hq := HS1.out; clear HS1; refine (hq _ HX3.out.seq).mono ?_; rintro e w4 ⟨g1, cap1, rfl, ho1, hcap1, hg1, hgb1, hb4⟩; have HX4 := hid (HX3.out.next hb4); have HO1 := hid ho1; obtain ⟨e0, e1⟩ := HX4.out.cells; clear hb4 hq HX3 ho1)
    | (go_at_call 11; have hq := HS2.out; clear HS2; refine (hq _ HX4.out.seq).mono ?_; rintro e w5 ⟨g2, cap2, rfl, ho2, hcap2, hg2, hgb2, hb5⟩; have HX5 := hid (HX4.out.next hb5); have HO2 := hid ho2; have HO12 := hid (HO1.out.later hb5); obtain ⟨e0, e1⟩ := HX5.out.cells; clear hb5 hq HX4 ho2 HO1)
    | (go_at_call 12; refine (sameU_any H _ _ _ (by omega) HO2.out.at (HO12.out.front rfl)).mono ?_; rintro e w6 ⟨rfl, q6, rfl⟩)
    | fail)
  have HXd := hid (HX5.out.drewN q6)
  have HOa := hid (HO12.out.drewN q6)
  go_region_held3 (fun w' => w'.cell? ⟨w.heap.size, 0, none⟩ = some (.string A) ∧ w'.cell? ⟨w.heap.size, 1, none⟩ = some (.string B)) (first | go_keep | exact HX7.out.cells)
    ((first | (go_at_call 11; have hq := HS3.out; clear HS3; refine (hq _ (HX5.out.drewN _).seq).mono ?_; rintro e w7 ⟨g3, cap3, rfl, ho3, hcap3, hg3, hgb3, hb7⟩; have HX7 := hid ((HX5.out.drewN _).next hb7); have HO3 := hid ho3; have HO17 := hid ((HO12.out.drewN _).later hb7); clear hb7 hq HX5 ho3 HO12)))
  all_goals go_wp2
  clear hadd
  have HBd := hid hbd
  clear hbd hk6 hk7 hw0 hw1 e0 e1
  go_loopw [9] (fun i wr => ∃ k : Nat, k ≤ R.length ∧ i = .int .i64 (k : Int) ∧ Below w7.heap.size w7 wr) (fun i _ => R.length - (intOf i).toNat)
  case atStart => exact ⟨0, Nat.zero_le _, rfl, Below.refl _ _⟩
  case round =>
    obtain ⟨k, hk, rfl, hbr⟩ := hrel
    have HXr := hid (HX7.out.next hbr)
    by_cases hlt : k < R.length
    · obtain ⟨b1, b2⟩ := HBd.out R[k] (List.getElem_mem hlt)
      obtain ⟨r0, r1, r2⟩ := (HO3.out.later hbr).cell3 k hlt
      obtain ⟨t0, t1, t2⟩ := (HO17.out.later hbr).cell3 (H.length + k) (by simp [shiftU]; omega)
      have eg : (H ++ shiftU (A.size - c) R)[H.length + k]'(by simp [shiftU]; omega) = (R[k].1, R[k].2.1 + (A.size - c), R[k].2.2 + (A.size - c)) := by
        rw [List.getElem_append_right (by omega)]
        simp [shiftU]
      rw [eg] at t0 t1 t2
      have z1 : ((R[k].2.1 + (A.size - c) : Nat) : Int) = (R[k].2.1 : Int) + (A.size : Int) - (c : Int) := by omega
      have z2 : ((R[k].2.2 + (A.size - c) : Nat) : Int) = (R[k].2.2 : Int) + (A.size : Int) - (c : Int) := by omega
      simp only [z1, z2] at t1 t2
      clear eg z1 z2
      obtain ⟨e0, e1⟩ := HXr.out.cells
      generalize R[k] = u at *
      have j1 : (k : Int) < (R.length : Int) := by omega
      have j2 : (H.length : Int) + (k : Int) < (H.length : Int) + (R.length : Int) := by omega
      have j3 : (0 : Int) ≤ (H.length : Int) + (k : Int) := by omega
      have hq := alloc_below wr (.cells #[.int .i64 u.1, .int .i64 ((u.2.1 : Int) + (A.size : Int) - (c : Int)), .int .i64 ((u.2.2 : Int) + (A.size : Int) - (c : Int))] 30)
      have l3 : g3 < wr.heap.size := Nat.lt_of_lt_of_le hg3 hbr.size
      have r0' := (hq.cell (p := ⟨g3, k * 3, none⟩) l3).trans r0
      have r1' := (hq.cell (p := ⟨g3, k * 3 + 1, none⟩) l3).trans r1
      have r2' := (hq.cell (p := ⟨g3, k * 3 + 2, none⟩) l3).trans r2
      have e0' := (hq.cell (p := ⟨w.heap.size, 0, none⟩) (Array.getElem?_eq_some_iff.1 HXr.out.box).1).trans e0
      have HN := hid (hbr.alloc hbr.size (.cells #[.int .i64 u.1, .int .i64 ((u.2.1 : Int) + (A.size : Int) - (c : Int)), .int .i64 ((u.2.2 : Int) + (A.size : Int) - (c : Int))] 30))
      clear hq hbr
      go_wp2
      go_quiet ((fail))
      go_wp2
      go_roundw
      case rel => exact ⟨k + 1, by omega, by go_num, below_drewN HN.out _⟩
      case measure => simp [intOf]; omega
    · go_wp2
      go_ret
      exact ⟨rfl, HXr.out.bel⟩
end Go.Proofs.YtoopigkndomdgaaDoor
