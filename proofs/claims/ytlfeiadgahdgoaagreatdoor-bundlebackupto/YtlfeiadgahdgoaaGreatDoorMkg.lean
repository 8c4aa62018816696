/-
  BwEW, BwSW, BwPW, BsM, BtBW, BsIM, PiecesM, BsRM, BsEM.
-/
import Derived.Test.YtlfeiadgahdgoaaGreatDoorMkf
import Derived.Test.YtlfeiadgahdgoaaGreatDoorMkc
import Derived.Deep.RegionHeld3
namespace Go.Proofs.YtlfeiadgahdgoaaGreatDoor
open Go.RowKit Go.Shelf Go.Lib
theorem ext169 : Builder.Extra Tryz.prog Tryz.lays169_ren where
  sizeBuilder := by kernel_rfl
  liesBuilder := by kernel_rfl
  t5 := Tryz.underlying5
  a5 := Tryz.isAgg5
  z5 := Tryz.sizeOf5
  v5 := Tryz.zeroValue5
  infoByte := by kernel_rfl
  cellsByte := by kernel_rfl
  sizeByte := by kernel_rfl
  neB5 := by decide
theorem bl_later {B b : Nat} {bs : List Value} {w w' : World} (h : Bl B b bs w) (hb : Below w.heap.size w w') : Bl B b bs w' := by
  have bld : ∀ p, Lib.BuilderAt 50 5 B b p bs w → Lib.BuilderAt 50 5 B b p bs w' := fun p ⟨h1, v, h2, h3, h4⟩ => ⟨h1, v, (hb.block b (Array.getElem?_eq_some_iff.1 h2).1).trans h2, World.ownsRow.kept h3 (row := none) ⟨hb.os, hb.tape, hb.output, hb.size, fun k hk _ => hb.block k hk⟩ (by cases hv : v.ownBlock <;> simp), h4⟩
  exact h.elim (fun x => .inl (bld _ x)) (fun x => .inr (bld _ x))
theorem bytes_app (a b : List UInt8) : Lib.byteCells (a ++ b) = Lib.byteCells a ++ Lib.byteCells b := by simp [Lib.byteCells]
theorem strCells_strOf (l : List UInt8) : Lib.strCells (strOf l) = Lib.byteCells l := by simp [Lib.strCells, Lib.byteCells, strOf_data]
theorem strCells_app (a b : ByteArray) : Lib.strCells (a ++ b) = Lib.strCells a ++ Lib.strCells b := by simp [Lib.strCells]
set_option maxRecDepth 10000 in
theorem ctl_any (p : Int) (w : World) : Calls Tryz.prog 56 #[.int .i64 p] w fun e w' => e = .returned (.bool (decide (p < 32) || (p == 127))) ∧ w' = w := by
  by_cases h : p < 32
  · have hd : decide (p < 32) = true := decide_eq_true h
    go_enter Tryz.func56, Tryz.ntmps56
    go_wp2
    go_ret
    exact ⟨by simp [h], rfl⟩
  · have hd : decide (p < 32) = false := decide_eq_false h
    go_enter Tryz.func56, Tryz.ntmps56
    go_wp2
    go_ret
    exact ⟨by simp, rfl⟩
/-- What is written of the first k units. -/
def wrT (l : List UInt8) (k : Nat) : List UInt8 := ((unitsOf l).take k).flatMap (wrU l)
theorem wrT_more (l : List UInt8) (k : Nat) (h : k < (unitsOf l).length) : wrT l (k + 1) = wrT l k ++ wrU l (unitsOf l)[k] := by
  unfold wrT
  rw [List.take_succ_eq_append_getElem h, List.flatMap_append]
  simp only [List.flatMap_cons, List.flatMap_nil, List.append_nil]
theorem wrT_len (l : List UInt8) (k : Nat) : (wrT l k).length ≤ k * 6 := by
  have h1 := flat_len (wrU l) 6 ((unitsOf l).take k) (fun u hu => wrU_len l u (units_in l u (List.mem_of_mem_take hu)).2.1)
  have h2 : ((unitsOf l).take k).length ≤ k := by rw [List.length_take]; omega
  unfold wrT
  have := Nat.mul_le_mul_right 6 h2
  omega
theorem own_heap {w : World} {lo t s g n m cap : Nat} {xs : List Value} (h : w.ownsRow lo t s (.slice (some ⟨g, 0, none⟩) m cap) n xs) : ∃ c, w.heap[g]? = some (.cells c t (0, 0)) := by
  rcases h.2 with ⟨hv, _⟩ | ⟨g', cap', cur, hv, _, hr, _⟩
  · cases hv
  · injection hv with e1 _ _
    cases e1
    exact ⟨_, hr⟩
theorem cellsW_at (us : List (Int × Nat × Nat)) : ∀ (k : Nat) (h : k < us.length), (cellsU us)[k * 3]? = some (.int .i64 us[k].1) ∧ (cellsU us)[k * 3 + 1]? = some (.int .i64 (us[k].2.1 : Int)) ∧ (cellsU us)[k * 3 + 2]? = some (.int .i64 (us[k].2.2 : Int)) := by
  induction us with
  | nil => intro k h; simp at h
  | cons u l ih =>
    intro k h
    have e : cellsU (u :: l) = .int .i64 u.1 :: .int .i64 (u.2.1 : Int) :: .int .i64 (u.2.2 : Int) :: cellsU l := rfl
    cases k with
    | zero => rw [e]; simp
    | succ k =>
      have := ih k (by simpa using h)
      rw [e, show (k + 1) * 3 = k * 3 + 1 + 1 + 1 by omega, show k * 3 + 1 + 1 + 1 + 1 = (k * 3 + 1) + 1 + 1 + 1 by omega, show k * 3 + 1 + 1 + 1 + 2 = (k * 3 + 2) + 1 + 1 + 1 by omega]
      simpa using this
/-- The units in memory, whatever writes of bytes come. -/
def UW (W : World) (g : Nat) (us : List (Int × Nat × Nat)) : Prop := (∃ c, W.heap[g]? = some (.cells c 67 (0, 0))) ∧ ∀ k (h : k < us.length), W.cell? ⟨g, k * 3, none⟩ = some (.int .i64 us[k].1) ∧ W.cell? ⟨g, k * 3 + 1, none⟩ = some (.int .i64 (us[k].2.1 : Int)) ∧ W.cell? ⟨g, k * 3 + 2, none⟩ = some (.int .i64 (us[k].2.2 : Int))
theorem uw_of {w : World} {lo g cap : Nat} {us : List (Int × Nat × Nat)} (h : OwnU w lo (.slice (some ⟨g, 0, none⟩) us.length cap) us) : UW w g us := by
  refine ⟨own_heap h, fun k hk => ?_⟩
  have hl := cellsU_length us
  obtain ⟨a, b, c⟩ := cellsW_at us k hk
  exact ⟨by rw [World.ownsRow.cellAt h _ (by omega)]; exact a, by rw [World.ownsRow.cellAt h _ (by omega)]; exact b, by rw [World.ownsRow.cellAt h _ (by omega)]; exact c⟩
theorem UW.same {w w' : World} {g : Nat} {us : List (Int × Nat × Nat)} (h : UW w g us) (e : w'.heap[g]? = w.heap[g]?) : UW w' g us :=
  ⟨by obtain ⟨c, hc⟩ := h.1; exact ⟨c, e.trans hc⟩, fun k hk => ⟨(World.cell?_of_block (a := ⟨g, k * 3, none⟩) e).trans (h.2 k hk).1, (World.cell?_of_block (a := ⟨g, k * 3 + 1, none⟩) e).trans (h.2 k hk).2.1, (World.cell?_of_block (a := ⟨g, k * 3 + 2, none⟩) e).trans (h.2 k hk).2.2⟩⟩
theorem UW.later {w w' : World} {g : Nat} {us : List (Int × Nat × Nat)} (h : UW w g us) (hb : Below w.heap.size w w') : UW w' g us := by
  obtain ⟨c, hc⟩ := h.1
  exact h.same (hb.block g (Array.getElem?_eq_some_iff.1 hc).1)
theorem UW.kb {w w' : World} {g b : Nat} {us : List (Int × Nat × Nat)} (h : UW w g us) (hk : Kb b w w') (hn : ¬ g = b) : UW w' g us := by
  obtain ⟨c, hc⟩ := h.1
  exact h.same ((hk g c _ _ hc (by decide) hn).trans hc.symm)
theorem wrU_1 {l : List UInt8} {u : Int × Nat × Nat} (h : u.1 = 92) : wrU l u = [92, 92] := by unfold wrU; rw [if_pos h]
theorem wrU_2 {l : List UInt8} {u : Int × Nat × Nat} (h : u.1 = 35) : wrU l u = [92, 35] := by unfold wrU; rw [if_neg (by omega), if_pos h]
theorem wrU_3 {l : List UInt8} {u : Int × Nat × Nat} (h : u.1 = 32) (ha : u.2.1 = 0 ∨ u.2.2 = l.length) : wrU l u = [92, 115] := by unfold wrU; rw [if_neg (by omega), if_neg (by omega), if_pos ⟨h, ha⟩]
theorem wrU_4 {l : List UInt8} {u : Int × Nat × Nat} (h : u.1 < 32 ∨ u.1 = 127) : wrU l u = [92, 117, 123] ++ hexL u.1.toNat ++ [125] := by unfold wrU; rw [if_neg (by omega), if_neg (by omega), if_neg (by omega), if_pos h]
theorem wrU_5 {l : List UInt8} {u : Int × Nat × Nat} (h1 : ¬ u.1 = 92) (h2 : ¬ u.1 = 35) (h3 : ¬ (u.1 = 32 ∧ (u.2.1 = 0 ∨ u.2.2 = l.length))) (h4 : ¬ (u.1 < 32 ∨ u.1 = 127)) : wrU l u = (l.drop u.2.1).take (u.2.2 - u.2.1) := by unfold wrU; rw [if_neg h1, if_neg h2, if_neg h3, if_neg h4]
theorem ext_mid (s : ByteArray) (a b : Nat) : (s.extract a b).data.toList = (s.data.toList.drop a).take (b - a) := by
  simp [ByteArray.data_extract, List.extract_eq_take_drop]
set_option maxRecDepth 10000 in
set_option maxHeartbeats 6400000 in
theorem writtenEntry_any (s : ByteArray) (hs : s.size ≤ 4194400) (he : entF s.data.toList = none) (w : World) (hQ : SeqAt w) (hT : DT w) :
    Calls Tryz.prog 36 #[.string s] w fun e w' => e = .returned (.string (strOf (wrE s.data.toList))) ∧ Below w.heap.size w w' := by
  obtain ⟨h32, hpt⟩ := ent_ok he
  obtain ⟨wA, hwA⟩ : ∃ wA, wA = w.alloc (.cells #[.pointer none, .slice none 0 0] 50) := ⟨_, rfl⟩
  have hBA : Below w.heap.size w wA := by rw [hwA]; exact (Below.refl _ _).alloc (Nat.le_refl _) _
  have hsA : wA.heap.size = w.heap.size + 1 := by rw [hwA]; simp
  have hFB : Bl w.heap.size w.heap.size (Lib.byteCells (wrT s.data.toList 0)) wA := by
    rw [hwA]
    have h := Lib.fresh_isBuilder 50 5 w
    simpa [wrT, Lib.byteCells] using h
  have HSp := hid0 (usplit_as s s.data.toList rfl hs wA (hQ.later hBA))
  have HDT : Hid (∀ W, Below w.heap.size w W → DT W) := hid0 (fun W hW => dt_later hT hW)
  have HFB := hid0 hFB
  have HBA := hid0 hBA
  have HPt := hid0 hpt
  have HSz : Hid (s.data.toList.length = s.size) := hid0 (bsize s)
  obtain ⟨n, hn⟩ : ∃ n, n = (unitsOf s.data.toList).length := ⟨_, rfl⟩
  rw [← hn] at HSp h32
  have Hn := hid0 hn
  have hfold := hwA.symm
  clear hwA hBA hFB hQ hT he hpt hn
  obtain ⟨Y, hY⟩ : ∃ Y, Y = strOf (wrE s.data.toList) := ⟨_, rfl⟩
  rw [← hY]
  have HY := hid0 hY
  clear hY
  go_enter Tryz.func36, Tryz.ntmps36
  go_wp2_with (go_at_call 26; go_loud ((refine HSp.out.mono ?_; rintro e w1 ⟨g, cap, rfl, ho, hcap, hg1, hg2, hb1⟩; have HU1 : Hid (UW w1 g (unitsOf s.data.toList)) := hid0 (uw_of (by rw [← Hn.out]; exact ho)); have HB1 := hid0 (Below.later HBA.out hb1); have HBl1 := hid0 (bl_later HFB.out hb1); clear ho hb1 hcap hg1)))
  have hgb : ¬ g = w.heap.size := by omega
  clear HFB HBA HSp hg2 hsA hfold
  go_loopw [11] (fun i wr => ∃ k : Nat, k ≤ n ∧ i = .int .i64 (k : Int) ∧ Hid (Bl w.heap.size w.heap.size (Lib.byteCells (wrT s.data.toList k)) wr) ∧ Hid (UW wr g (unitsOf s.data.toList)) ∧ Hid (Below w.heap.size w wr)) (fun i _ => n - (intOf i).toNat)
  case atStart => exact ⟨0, Nat.zero_le _, rfl, HBl1, HU1, HB1⟩
  case round =>
    clear HBl1 HU1 HB1
    obtain ⟨k, hk, rfl, HBl, HU, HBr⟩ := hrel
    by_cases hlt : k < n
    · have hkI : (k : Int) < (n : Int) := by omega
      have hkI0 : (0 : Int) ≤ (k : Int) := by omega
      have hkU : k < (unitsOf s.data.toList).length := by rw [← Hn.out]; exact hlt
      obtain ⟨c0, c1, c2⟩ := HU.out.2 k hkU
      have HW := wrT_more s.data.toList k hkU
      obtain ⟨i1, i2, i3⟩ := units_in s.data.toList _ (List.getElem_mem hkU)
      have hp0 := HPt.out _ (List.getElem_mem hkU)
      have hTl := wrT_len s.data.toList k
      rw [HSz.out] at i3
      have HWN : Hid (∀ X, wrU s.data.toList (unitsOf s.data.toList)[k] = X → Lib.byteCells (wrT s.data.toList k) ++ Lib.byteCells X = Lib.byteCells (wrT s.data.toList (k + 1))) := hid0 (fun X hX => by rw [HW, bytes_app, hX])
      have HLn : Hid ((Lib.byteCells (wrT s.data.toList k)).length ≤ 192) := hid0 (by rw [Lib.byteCells_length]; omega)
      have hbw : w.heap.size ≤ wr.heap.size := HBr.out.size
      generalize (unitsOf s.data.toList)[k] = u at *
      obtain ⟨p, a, b⟩ := u
      simp only at c0 c1 c2 i1 i2 i3 hp0
      obtain ⟨wB, hwB⟩ : ∃ wB, wB = wr.alloc (.cells #[.int .i64 p, .int .i64 (a : Int), .int .i64 (b : Int)] 67) := ⟨_, rfl⟩
      have hbB : Below wr.heap.size wr wB := by rw [hwB]; exact (Below.refl _ _).alloc (Nat.le_refl _) _
      have hrB : wB.heap[wr.heap.size]? = some (.cells #[.int .i64 p, .int .i64 (a : Int), .int .i64 (b : Int)] 67 (0, 0)) := by rw [hwB]; exact heap_alloc_new wr _
      have d0 : wB.cell? ⟨wr.heap.size, 0, none⟩ = some (.int .i64 p) := by rw [cell_of_row _ _ _ _ _ _ hrB]; rfl
      have d1 : wB.cell? ⟨wr.heap.size, 1, none⟩ = some (.int .i64 (a : Int)) := by rw [cell_of_row _ _ _ _ _ _ hrB]; rfl
      have d2 : wB.cell? ⟨wr.heap.size, 2, none⟩ = some (.int .i64 (b : Int)) := by rw [cell_of_row _ _ _ _ _ _ hrB]; rfl
      have hbs : w.heap.size ≤ wB.heap.size := by have := hbB.size; omega
      have HBlB := hid0 (bl_later HBl.out hbB)
      have HUB := hid0 (HU.out.later hbB)
      have HBB : Hid (Below w.heap.size w wB) := hid0 (HBr.out.trans (hbB.mono hbw))
      have hfB := hwB.symm
      clear hwB hbB hrB HBl HU HBr HW hTl hkU
      generalize Lib.byteCells (wrT s.data.toList k) = bs at *
      by_cases ha0 : a = 0
      · by_cases hp : p = 92
        · have hx1 : ((a : Int) == 0) = true := by simp [ha0]
          have hq1 : (p == 92) = true := by simp [hp]
          have HX : Hid (bs ++ Lib.strCells ⟨#[92, 92]⟩ = Lib.byteCells (wrT s.data.toList (k + 1))) := hid0 (HWN.out [92, 92] (wrU_1 hp))
          clear HWN HDT HPt hp ha0
          go_wp2_with (go_at_call 17; refine (writeString_any _ _ bs ⟨#[92, 92]⟩ wB HBlB.out (by have h1 := HLn.out; show _ + 2 ≤ _; omega) hbs).mono ?_; rintro e w6 ⟨rfl, h1, h2, h3⟩; have HU6 := hid0 (HUB.out.kb h3 hgb); have HB6 := hid0 (HBB.out.trans h2); have HBl6 : Hid (Bl w.heap.size w.heap.size (Lib.byteCells (wrT s.data.toList (k + 1))) w6) := hid0 (.inr (by rw [← HX.out]; exact h1)); clear h1 h2 h3)
          go_roundw
          case rel => exact ⟨k + 1, by omega, by go_num, HBl6, HU6, HB6⟩
          case measure => simp [intOf]; omega
        · by_cases hp2 : p = 35
          · have hp := hp2
            have hx1 : ((a : Int) == 0) = true := by simp [ha0]
            have hq1 : (p == 92) = false := by simp; omega
            have hq2 : (p == 35) = true := by simp [hp]
            have HX : Hid (bs ++ Lib.strCells ⟨#[92, 35]⟩ = Lib.byteCells (wrT s.data.toList (k + 1))) := hid0 (HWN.out [92, 35] (wrU_2 hp))
            clear HWN HDT HPt hp hp2 ha0
            go_wp2_with (go_at_call 17; refine (writeString_any _ _ bs ⟨#[92, 35]⟩ wB HBlB.out (by have h1 := HLn.out; show _ + 2 ≤ _; omega) hbs).mono ?_; rintro e w6 ⟨rfl, h1, h2, h3⟩; have HU6 := hid0 (HUB.out.kb h3 hgb); have HB6 := hid0 (HBB.out.trans h2); have HBl6 : Hid (Bl w.heap.size w.heap.size (Lib.byteCells (wrT s.data.toList (k + 1))) w6) := hid0 (.inr (by rw [← HX.out]; exact h1)); clear h1 h2 h3)
            go_roundw
            case rel => exact ⟨k + 1, by omega, by go_num, HBl6, HU6, HB6⟩
            case measure => simp [intOf]; omega
          · by_cases hp3 : p = 32
            · have hp := hp3
              have hx1 : ((a : Int) == 0) = true := by simp [ha0]
              have hq1 : (p == 92) = false := by simp; omega
              have hq2 : (p == 35) = false := by simp; omega
              have hq3 : (p == 32) = true := by simp [hp]
              have HX : Hid (bs ++ Lib.strCells ⟨#[92, 115]⟩ = Lib.byteCells (wrT s.data.toList (k + 1))) := hid0 (HWN.out [92, 115] (wrU_3 hp (.inl ha0)))
              clear HWN HDT HPt hp hp3 ha0
              go_wp2_with (go_at_call 17; refine (writeString_any _ _ bs ⟨#[92, 115]⟩ wB HBlB.out (by have h1 := HLn.out; show _ + 2 ≤ _; omega) hbs).mono ?_; rintro e w6 ⟨rfl, h1, h2, h3⟩; have HU6 := hid0 (HUB.out.kb h3 hgb); have HB6 := hid0 (HBB.out.trans h2); have HBl6 : Hid (Bl w.heap.size w.heap.size (Lib.byteCells (wrT s.data.toList (k + 1))) w6) := hid0 (.inr (by rw [← HX.out]; exact h1)); clear h1 h2 h3)
              go_roundw
              case rel => exact ⟨k + 1, by omega, by go_num, HBl6, HU6, HB6⟩
              case measure => simp [intOf]; omega
            · by_cases hp4 : p < 32 ∨ p = 127
              · have hp := hp4
                have hx1 : ((a : Int) == 0) = true := by simp [ha0]
                have hq1 : (p == 92) = false := by simp; omega
                have hq2 : (p == 35) = false := by simp; omega
                have hq3 : (p == 32) = false := by simp; omega
                have hm : ((p.toNat : Nat) : Int) = p := by omega
                have hctl : (decide (p < 32) || (p == 127)) = true := by rcases hp with h | h; simp [h]; simp [h]
                have HCt := hid0 (ctl_any p wB)
                rw [hctl] at HCt
                have hFm := formatInt_any p.toNat (by omega) wB (HDT.out wB HBB.out)
                rw [hm] at hFm
                have HFm := hid0 hFm
                have hhl := hexL_len p.toNat
                have HXs : Hid ((⟨(hexL p.toNat).toArray⟩ : ByteArray).size ≤ 2) := hid0 (by simp only [ByteArray.size, List.size_toArray]; exact hhl)
                have HX : Hid (bs ++ Lib.strCells (⟨#[92, 117, 123]⟩ ++ ⟨(hexL p.toNat).toArray⟩ ++ ⟨#[125]⟩) = Lib.byteCells (wrT s.data.toList (k + 1))) := hid0 (by
                  rw [← HWN.out _ (wrU_4 hp), strCells_app, strCells_app, bytes_app, bytes_app]
                  rfl)
                have HLe : Hid (bs.length + ((⟨#[92, 117, 123]⟩ : ByteArray) ++ ⟨(hexL p.toNat).toArray⟩ ++ ⟨#[125]⟩).size ≤ 140737488355328) := hid0 (by
                  have h1 := HLn.out
                  have h2 := HXs.out
                  have z3 : (⟨#[92, 117, 123]⟩ : ByteArray).size = 3 := rfl
                  have z1 : (⟨#[125]⟩ : ByteArray).size = 1 := rfl
                  rw [ByteArray.size_append, ByteArray.size_append, z3, z1]
                  omega)
                clear HWN HDT HPt hp hctl ha0 hm hFm hhl
                generalize (⟨(hexL p.toNat).toArray⟩ : ByteArray) = H at *
                obtain ⟨Xs, hXs⟩ : ∃ Xs : ByteArray, (⟨#[92, 117, 123]⟩ ++ H ++ ⟨#[125]⟩ : ByteArray) = Xs := ⟨_, rfl⟩
                rw [hXs] at HX HLe
                have hz1 : ¬ 9223372036854775807 < 3 + H.size := by have := HXs.out; omega
                have hz2 : ¬ 9223372036854775807 < 3 + H.size + 1 := by have := HXs.out; omega
                go_wp2_with (first
                  | (go_at_call 56; refine HCt.out.mono ?_; rintro e w2 ⟨rfl, hw2⟩; have hw2' := hw2.symm; subst hw2'; clear hw2)
                  | (go_at_call 57; refine HFm.out.mono ?_; rintro e w3 ⟨rfl, hb3⟩; have HBl3 := hid0 (bl_later HBlB.out hb3); have HU3 := hid0 (HUB.out.later hb3); have HB3 := hid0 (HBB.out.trans (hb3.mono hbs)); clear hb3)
                  | (go_at_call 17; refine (writeString_any _ _ bs Xs w3 HBl3.out HLe.out HB3.out.size).mono ?_; rintro e w6 ⟨rfl, h1, h2, h3⟩; have HU6 := hid0 (HU3.out.kb h3 hgb); have HB6 := hid0 (HB3.out.trans h2); have HBl6 : Hid (Bl w.heap.size w.heap.size (Lib.byteCells (wrT s.data.toList (k + 1))) w6) := hid0 (.inr (by rw [← HX.out]; exact h1)); clear h1 h2 h3)
                  | fail)
                go_roundw
                case rel => exact ⟨k + 1, by omega, by go_num, HBl6, HU6, HB6⟩
                case measure => simp [intOf]; omega
              · have hp : (¬ p = 92) ∧ (¬ p = 35) ∧ (¬ (p = 32 ∧ (a = 0 ∨ b = s.data.toList.length))) ∧ ¬ (p < 32 ∨ p = 127) := ⟨by omega, by omega, by omega, hp4⟩
                have hx1 : ((a : Int) == 0) = true := by simp [ha0]
                have hq1 : (p == 92) = false := by simp; omega
                have hq2 : (p == 35) = false := by simp; omega
                have hq3 : (p == 32) = false := by simp; intro h; exact hp.2.2.1 ⟨h, .inl ha0⟩
                have hctl : (decide (p < 32) || (p == 127)) = false := by have := hp.2.2.2; simp; omega
                have HCt := hid0 (ctl_any p wB)
                rw [hctl] at HCt
                have s0 : (0 : Int) ≤ (a : Int) := by omega
                have s1 : (a : Int) ≤ (b : Int) := by omega
                have s2 : (b : Int) ≤ (s.size : Int) := by omega
                have HX : Hid (bs ++ Lib.strCells (s.extract a b) = Lib.byteCells (wrT s.data.toList (k + 1))) := hid0 (by
                  rw [← HWN.out _ (wrU_5 hp.1 hp.2.1 hp.2.2.1 hp.2.2.2), Lib.strCells_eq, ext_mid])
                have HXs : Hid ((s.extract a b).size ≤ 4) := hid0 (by rw [ByteArray.size_extract]; omega)
                clear HWN HDT HPt hp hctl ha0
                go_wp2_with (first
                  | (go_at_call 56; refine HCt.out.mono ?_; rintro e w2 ⟨rfl, hw2⟩; have hw2' := hw2.symm; subst hw2'; clear hw2)
                  | (go_at_call 17; refine (writeString_any _ _ bs (s.extract a b) wB HBlB.out (by have h1 := HLn.out; have h2 := HXs.out; omega) hbs).mono ?_; rintro e w6 ⟨rfl, h1, h2, h3⟩; have HU6 := hid0 (HUB.out.kb h3 hgb); have HB6 := hid0 (HBB.out.trans h2); have HBl6 : Hid (Bl w.heap.size w.heap.size (Lib.byteCells (wrT s.data.toList (k + 1))) w6) := hid0 (.inr (by rw [← HX.out]; exact h1)); clear h1 h2 h3)
                  | fail)
                go_roundw
                case rel => exact ⟨k + 1, by omega, by go_num, HBl6, HU6, HB6⟩
                case measure => simp [intOf]; omega
      · by_cases hb0 : b = s.size
        · by_cases hp : p = 92
          · have hx1 : ((a : Int) == 0) = false := by simp; omega
            have hx2 : ((b : Int) == (s.size : Int)) = true := by simp; omega
            have hq1 : (p == 92) = true := by simp [hp]
            have HX : Hid (bs ++ Lib.strCells ⟨#[92, 92]⟩ = Lib.byteCells (wrT s.data.toList (k + 1))) := hid0 (HWN.out [92, 92] (wrU_1 hp))
            clear HWN HDT HPt hp hb0
            go_wp2_with (go_at_call 17; refine (writeString_any _ _ bs ⟨#[92, 92]⟩ wB HBlB.out (by have h1 := HLn.out; show _ + 2 ≤ _; omega) hbs).mono ?_; rintro e w6 ⟨rfl, h1, h2, h3⟩; have HU6 := hid0 (HUB.out.kb h3 hgb); have HB6 := hid0 (HBB.out.trans h2); have HBl6 : Hid (Bl w.heap.size w.heap.size (Lib.byteCells (wrT s.data.toList (k + 1))) w6) := hid0 (.inr (by rw [← HX.out]; exact h1)); clear h1 h2 h3)
            go_roundw
            case rel => exact ⟨k + 1, by omega, by go_num, HBl6, HU6, HB6⟩
            case measure => simp [intOf]; omega
          · by_cases hp2 : p = 35
            · have hp := hp2
              have hx1 : ((a : Int) == 0) = false := by simp; omega
              have hx2 : ((b : Int) == (s.size : Int)) = true := by simp; omega
              have hq1 : (p == 92) = false := by simp; omega
              have hq2 : (p == 35) = true := by simp [hp]
              have HX : Hid (bs ++ Lib.strCells ⟨#[92, 35]⟩ = Lib.byteCells (wrT s.data.toList (k + 1))) := hid0 (HWN.out [92, 35] (wrU_2 hp))
              clear HWN HDT HPt hp hp2 hb0
              go_wp2_with (go_at_call 17; refine (writeString_any _ _ bs ⟨#[92, 35]⟩ wB HBlB.out (by have h1 := HLn.out; show _ + 2 ≤ _; omega) hbs).mono ?_; rintro e w6 ⟨rfl, h1, h2, h3⟩; have HU6 := hid0 (HUB.out.kb h3 hgb); have HB6 := hid0 (HBB.out.trans h2); have HBl6 : Hid (Bl w.heap.size w.heap.size (Lib.byteCells (wrT s.data.toList (k + 1))) w6) := hid0 (.inr (by rw [← HX.out]; exact h1)); clear h1 h2 h3)
              go_roundw
              case rel => exact ⟨k + 1, by omega, by go_num, HBl6, HU6, HB6⟩
              case measure => simp [intOf]; omega
            · by_cases hp3 : p = 32
              · have hp := hp3
                have hx1 : ((a : Int) == 0) = false := by simp; omega
                have hx2 : ((b : Int) == (s.size : Int)) = true := by simp; omega
                have hq1 : (p == 92) = false := by simp; omega
                have hq2 : (p == 35) = false := by simp; omega
                have hq3 : (p == 32) = true := by simp [hp]
                have HX : Hid (bs ++ Lib.strCells ⟨#[92, 115]⟩ = Lib.byteCells (wrT s.data.toList (k + 1))) := hid0 (HWN.out [92, 115] (wrU_3 hp (.inr (by rw [HSz.out]; exact hb0))))
                clear HWN HDT HPt hp hp3 hb0
                go_wp2_with (go_at_call 17; refine (writeString_any _ _ bs ⟨#[92, 115]⟩ wB HBlB.out (by have h1 := HLn.out; show _ + 2 ≤ _; omega) hbs).mono ?_; rintro e w6 ⟨rfl, h1, h2, h3⟩; have HU6 := hid0 (HUB.out.kb h3 hgb); have HB6 := hid0 (HBB.out.trans h2); have HBl6 : Hid (Bl w.heap.size w.heap.size (Lib.byteCells (wrT s.data.toList (k + 1))) w6) := hid0 (.inr (by rw [← HX.out]; exact h1)); clear h1 h2 h3)
                go_roundw
                case rel => exact ⟨k + 1, by omega, by go_num, HBl6, HU6, HB6⟩
                case measure => simp [intOf]; omega
              · by_cases hp4 : p < 32 ∨ p = 127
                · have hp := hp4
                  have hx1 : ((a : Int) == 0) = false := by simp; omega
                  have hx2 : ((b : Int) == (s.size : Int)) = true := by simp; omega
                  have hq1 : (p == 92) = false := by simp; omega
                  have hq2 : (p == 35) = false := by simp; omega
                  have hq3 : (p == 32) = false := by simp; omega
                  have hm : ((p.toNat : Nat) : Int) = p := by omega
                  have hctl : (decide (p < 32) || (p == 127)) = true := by rcases hp with h | h; simp [h]; simp [h]
                  have HCt := hid0 (ctl_any p wB)
                  rw [hctl] at HCt
                  have hFm := formatInt_any p.toNat (by omega) wB (HDT.out wB HBB.out)
                  rw [hm] at hFm
                  have HFm := hid0 hFm
                  have hhl := hexL_len p.toNat
                  have HXs : Hid ((⟨(hexL p.toNat).toArray⟩ : ByteArray).size ≤ 2) := hid0 (by simp only [ByteArray.size, List.size_toArray]; exact hhl)
                  have HX : Hid (bs ++ Lib.strCells (⟨#[92, 117, 123]⟩ ++ ⟨(hexL p.toNat).toArray⟩ ++ ⟨#[125]⟩) = Lib.byteCells (wrT s.data.toList (k + 1))) := hid0 (by
                    rw [← HWN.out _ (wrU_4 hp), strCells_app, strCells_app, bytes_app, bytes_app]
                    rfl)
                  have HLe : Hid (bs.length + ((⟨#[92, 117, 123]⟩ : ByteArray) ++ ⟨(hexL p.toNat).toArray⟩ ++ ⟨#[125]⟩).size ≤ 140737488355328) := hid0 (by
                    have h1 := HLn.out
                    have h2 := HXs.out
                    have z3 : (⟨#[92, 117, 123]⟩ : ByteArray).size = 3 := rfl
                    have z1 : (⟨#[125]⟩ : ByteArray).size = 1 := rfl
                    rw [ByteArray.size_append, ByteArray.size_append, z3, z1]
                    omega)
                  clear HWN HDT HPt hp hctl hb0 hm hFm hhl
                  generalize (⟨(hexL p.toNat).toArray⟩ : ByteArray) = H at *
                  obtain ⟨Xs, hXs⟩ : ∃ Xs : ByteArray, (⟨#[92, 117, 123]⟩ ++ H ++ ⟨#[125]⟩ : ByteArray) = Xs := ⟨_, rfl⟩
                  rw [hXs] at HX HLe
                  have hz1 : ¬ 9223372036854775807 < 3 + H.size := by have := HXs.out; omega
                  have hz2 : ¬ 9223372036854775807 < 3 + H.size + 1 := by have := HXs.out; omega
                  go_wp2_with (first
                    | (go_at_call 56; refine HCt.out.mono ?_; rintro e w2 ⟨rfl, hw2⟩; have hw2' := hw2.symm; subst hw2'; clear hw2)
                    | (go_at_call 57; refine HFm.out.mono ?_; rintro e w3 ⟨rfl, hb3⟩; have HBl3 := hid0 (bl_later HBlB.out hb3); have HU3 := hid0 (HUB.out.later hb3); have HB3 := hid0 (HBB.out.trans (hb3.mono hbs)); clear hb3)
                    | (go_at_call 17; refine (writeString_any _ _ bs Xs w3 HBl3.out HLe.out HB3.out.size).mono ?_; rintro e w6 ⟨rfl, h1, h2, h3⟩; have HU6 := hid0 (HU3.out.kb h3 hgb); have HB6 := hid0 (HB3.out.trans h2); have HBl6 : Hid (Bl w.heap.size w.heap.size (Lib.byteCells (wrT s.data.toList (k + 1))) w6) := hid0 (.inr (by rw [← HX.out]; exact h1)); clear h1 h2 h3)
                    | fail)
                  go_roundw
                  case rel => exact ⟨k + 1, by omega, by go_num, HBl6, HU6, HB6⟩
                  case measure => simp [intOf]; omega
                · have hp : (¬ p = 92) ∧ (¬ p = 35) ∧ (¬ (p = 32 ∧ (a = 0 ∨ b = s.data.toList.length))) ∧ ¬ (p < 32 ∨ p = 127) := ⟨by omega, by omega, by omega, hp4⟩
                  have hx1 : ((a : Int) == 0) = false := by simp; omega
                  have hx2 : ((b : Int) == (s.size : Int)) = true := by simp; omega
                  have hq1 : (p == 92) = false := by simp; omega
                  have hq2 : (p == 35) = false := by simp; omega
                  have hq3 : (p == 32) = false := by simp; intro h; exact hp.2.2.1 ⟨h, .inr (by rw [HSz.out]; exact hb0)⟩
                  have hctl : (decide (p < 32) || (p == 127)) = false := by have := hp.2.2.2; simp; omega
                  have HCt := hid0 (ctl_any p wB)
                  rw [hctl] at HCt
                  have s0 : (0 : Int) ≤ (a : Int) := by omega
                  have s1 : (a : Int) ≤ (b : Int) := by omega
                  have s2 : (b : Int) ≤ (s.size : Int) := by omega
                  have HX : Hid (bs ++ Lib.strCells (s.extract a b) = Lib.byteCells (wrT s.data.toList (k + 1))) := hid0 (by
                    rw [← HWN.out _ (wrU_5 hp.1 hp.2.1 hp.2.2.1 hp.2.2.2), Lib.strCells_eq, ext_mid])
                  have HXs : Hid ((s.extract a b).size ≤ 4) := hid0 (by rw [ByteArray.size_extract]; omega)
                  clear HWN HDT HPt hp hctl hb0
                  go_wp2_with (first
                    | (go_at_call 56; refine HCt.out.mono ?_; rintro e w2 ⟨rfl, hw2⟩; have hw2' := hw2.symm; subst hw2'; clear hw2)
                    | (go_at_call 17; refine (writeString_any _ _ bs (s.extract a b) wB HBlB.out (by have h1 := HLn.out; have h2 := HXs.out; omega) hbs).mono ?_; rintro e w6 ⟨rfl, h1, h2, h3⟩; have HU6 := hid0 (HUB.out.kb h3 hgb); have HB6 := hid0 (HBB.out.trans h2); have HBl6 : Hid (Bl w.heap.size w.heap.size (Lib.byteCells (wrT s.data.toList (k + 1))) w6) := hid0 (.inr (by rw [← HX.out]; exact h1)); clear h1 h2 h3)
                    | fail)
                  go_roundw
                  case rel => exact ⟨k + 1, by omega, by go_num, HBl6, HU6, HB6⟩
                  case measure => simp [intOf]; omega
        · by_cases hp : p = 92
          · have hx1 : ((a : Int) == 0) = false := by simp; omega
            have hx2 : ((b : Int) == (s.size : Int)) = false := by simp; omega
            have hq1 : (p == 92) = true := by simp [hp]
            have HX : Hid (bs ++ Lib.strCells ⟨#[92, 92]⟩ = Lib.byteCells (wrT s.data.toList (k + 1))) := hid0 (HWN.out [92, 92] (wrU_1 hp))
            clear HWN HDT HPt hp
            go_wp2_with (go_at_call 17; refine (writeString_any _ _ bs ⟨#[92, 92]⟩ wB HBlB.out (by have h1 := HLn.out; show _ + 2 ≤ _; omega) hbs).mono ?_; rintro e w6 ⟨rfl, h1, h2, h3⟩; have HU6 := hid0 (HUB.out.kb h3 hgb); have HB6 := hid0 (HBB.out.trans h2); have HBl6 : Hid (Bl w.heap.size w.heap.size (Lib.byteCells (wrT s.data.toList (k + 1))) w6) := hid0 (.inr (by rw [← HX.out]; exact h1)); clear h1 h2 h3)
            go_roundw
            case rel => exact ⟨k + 1, by omega, by go_num, HBl6, HU6, HB6⟩
            case measure => simp [intOf]; omega
          · by_cases hp2 : p = 35
            · have hp := hp2
              have hx1 : ((a : Int) == 0) = false := by simp; omega
              have hx2 : ((b : Int) == (s.size : Int)) = false := by simp; omega
              have hq1 : (p == 92) = false := by simp; omega
              have hq2 : (p == 35) = true := by simp [hp]
              have HX : Hid (bs ++ Lib.strCells ⟨#[92, 35]⟩ = Lib.byteCells (wrT s.data.toList (k + 1))) := hid0 (HWN.out [92, 35] (wrU_2 hp))
              clear HWN HDT HPt hp hp2
              go_wp2_with (go_at_call 17; refine (writeString_any _ _ bs ⟨#[92, 35]⟩ wB HBlB.out (by have h1 := HLn.out; show _ + 2 ≤ _; omega) hbs).mono ?_; rintro e w6 ⟨rfl, h1, h2, h3⟩; have HU6 := hid0 (HUB.out.kb h3 hgb); have HB6 := hid0 (HBB.out.trans h2); have HBl6 : Hid (Bl w.heap.size w.heap.size (Lib.byteCells (wrT s.data.toList (k + 1))) w6) := hid0 (.inr (by rw [← HX.out]; exact h1)); clear h1 h2 h3)
              go_roundw
              case rel => exact ⟨k + 1, by omega, by go_num, HBl6, HU6, HB6⟩
              case measure => simp [intOf]; omega
            · by_cases hp4 : p < 32 ∨ p = 127
              · have hp := hp4
                have hx1 : ((a : Int) == 0) = false := by simp; omega
                have hx2 : ((b : Int) == (s.size : Int)) = false := by simp; omega
                have hq1 : (p == 92) = false := by simp; omega
                have hq2 : (p == 35) = false := by simp; omega
                have hq3 : (p == 32) = false := by simp; omega
                have hm : ((p.toNat : Nat) : Int) = p := by omega
                have hctl : (decide (p < 32) || (p == 127)) = true := by rcases hp with h | h; simp [h]; simp [h]
                have HCt := hid0 (ctl_any p wB)
                rw [hctl] at HCt
                have hFm := formatInt_any p.toNat (by omega) wB (HDT.out wB HBB.out)
                rw [hm] at hFm
                have HFm := hid0 hFm
                have hhl := hexL_len p.toNat
                have HXs : Hid ((⟨(hexL p.toNat).toArray⟩ : ByteArray).size ≤ 2) := hid0 (by simp only [ByteArray.size, List.size_toArray]; exact hhl)
                have HX : Hid (bs ++ Lib.strCells (⟨#[92, 117, 123]⟩ ++ ⟨(hexL p.toNat).toArray⟩ ++ ⟨#[125]⟩) = Lib.byteCells (wrT s.data.toList (k + 1))) := hid0 (by
                  rw [← HWN.out _ (wrU_4 hp), strCells_app, strCells_app, bytes_app, bytes_app]
                  rfl)
                have HLe : Hid (bs.length + ((⟨#[92, 117, 123]⟩ : ByteArray) ++ ⟨(hexL p.toNat).toArray⟩ ++ ⟨#[125]⟩).size ≤ 140737488355328) := hid0 (by
                  have h1 := HLn.out
                  have h2 := HXs.out
                  have z3 : (⟨#[92, 117, 123]⟩ : ByteArray).size = 3 := rfl
                  have z1 : (⟨#[125]⟩ : ByteArray).size = 1 := rfl
                  rw [ByteArray.size_append, ByteArray.size_append, z3, z1]
                  omega)
                clear HWN HDT HPt hp hctl hm hFm hhl
                generalize (⟨(hexL p.toNat).toArray⟩ : ByteArray) = H at *
                obtain ⟨Xs, hXs⟩ : ∃ Xs : ByteArray, (⟨#[92, 117, 123]⟩ ++ H ++ ⟨#[125]⟩ : ByteArray) = Xs := ⟨_, rfl⟩
                rw [hXs] at HX HLe
                have hz1 : ¬ 9223372036854775807 < 3 + H.size := by have := HXs.out; omega
                have hz2 : ¬ 9223372036854775807 < 3 + H.size + 1 := by have := HXs.out; omega
                go_wp2_with (first
                  | (go_at_call 56; refine HCt.out.mono ?_; rintro e w2 ⟨rfl, hw2⟩; have hw2' := hw2.symm; subst hw2'; clear hw2)
                  | (go_at_call 57; refine HFm.out.mono ?_; rintro e w3 ⟨rfl, hb3⟩; have HBl3 := hid0 (bl_later HBlB.out hb3); have HU3 := hid0 (HUB.out.later hb3); have HB3 := hid0 (HBB.out.trans (hb3.mono hbs)); clear hb3)
                  | (go_at_call 17; refine (writeString_any _ _ bs Xs w3 HBl3.out HLe.out HB3.out.size).mono ?_; rintro e w6 ⟨rfl, h1, h2, h3⟩; have HU6 := hid0 (HU3.out.kb h3 hgb); have HB6 := hid0 (HB3.out.trans h2); have HBl6 : Hid (Bl w.heap.size w.heap.size (Lib.byteCells (wrT s.data.toList (k + 1))) w6) := hid0 (.inr (by rw [← HX.out]; exact h1)); clear h1 h2 h3)
                  | fail)
                go_roundw
                case rel => exact ⟨k + 1, by omega, by go_num, HBl6, HU6, HB6⟩
                case measure => simp [intOf]; omega
              · have hp : (¬ p = 92) ∧ (¬ p = 35) ∧ (¬ (p = 32 ∧ (a = 0 ∨ b = s.data.toList.length))) ∧ ¬ (p < 32 ∨ p = 127) := ⟨by omega, by omega, by have := HSz.out; omega, hp4⟩
                have hx1 : ((a : Int) == 0) = false := by simp; omega
                have hx2 : ((b : Int) == (s.size : Int)) = false := by simp; omega
                have hq1 : (p == 92) = false := by simp; omega
                have hq2 : (p == 35) = false := by simp; omega
                obtain ⟨q3, hq3⟩ : ∃ q3, (p == 32) = q3 := ⟨_, rfl⟩
                have hctl : (decide (p < 32) || (p == 127)) = false := by have := hp.2.2.2; simp; omega
                have HCt := hid0 (ctl_any p wB)
                rw [hctl] at HCt
                have s0 : (0 : Int) ≤ (a : Int) := by omega
                have s1 : (a : Int) ≤ (b : Int) := by omega
                have s2 : (b : Int) ≤ (s.size : Int) := by omega
                have HX : Hid (bs ++ Lib.strCells (s.extract a b) = Lib.byteCells (wrT s.data.toList (k + 1))) := hid0 (by
                  rw [← HWN.out _ (wrU_5 hp.1 hp.2.1 hp.2.2.1 hp.2.2.2), Lib.strCells_eq, ext_mid])
                have HXs : Hid ((s.extract a b).size ≤ 4) := hid0 (by rw [ByteArray.size_extract]; omega)
                clear HWN HDT HPt hp hctl
                cases q3
                · go_wp2_with (first
                    | (go_at_call 56; refine HCt.out.mono ?_; rintro e w2 ⟨rfl, hw2⟩; have hw2' := hw2.symm; subst hw2'; clear hw2)
                    | (go_at_call 17; refine (writeString_any _ _ bs (s.extract a b) wB HBlB.out (by have h1 := HLn.out; have h2 := HXs.out; omega) hbs).mono ?_; rintro e w6 ⟨rfl, h1, h2, h3⟩; have HU6 := hid0 (HUB.out.kb h3 hgb); have HB6 := hid0 (HBB.out.trans h2); have HBl6 : Hid (Bl w.heap.size w.heap.size (Lib.byteCells (wrT s.data.toList (k + 1))) w6) := hid0 (.inr (by rw [← HX.out]; exact h1)); clear h1 h2 h3)
                    | fail)
                  go_roundw
                  case rel => exact ⟨k + 1, by omega, by go_num, HBl6, HU6, HB6⟩
                  case measure => simp [intOf]; omega
                · go_wp2_with (first
                    | (go_at_call 56; refine HCt.out.mono ?_; rintro e w2 ⟨rfl, hw2⟩; have hw2' := hw2.symm; subst hw2'; clear hw2)
                    | (go_at_call 17; refine (writeString_any _ _ bs (s.extract a b) wB HBlB.out (by have h1 := HLn.out; have h2 := HXs.out; omega) hbs).mono ?_; rintro e w6 ⟨rfl, h1, h2, h3⟩; have HU6 := hid0 (HUB.out.kb h3 hgb); have HB6 := hid0 (HBB.out.trans h2); have HBl6 : Hid (Bl w.heap.size w.heap.size (Lib.byteCells (wrT s.data.toList (k + 1))) w6) := hid0 (.inr (by rw [← HX.out]; exact h1)); clear h1 h2 h3)
                    | fail)
                  go_roundw
                  case rel => exact ⟨k + 1, by omega, by go_num, HBl6, HU6, HB6⟩
                  case measure => simp [intOf]; omega
    · have hkI : ¬ (k : Int) < (n : Int) := by omega
      have HS := hid0 (Any.Builder_String_any_k Tryz.lays169 ext169 w.heap.size w.heap.size (wrT s.data.toList k) wr (Lib.IsBuilderF.of HBl.out) HBr.out.size)
      have HE : Hid (wrT s.data.toList k = wrE s.data.toList) := hid0 (by unfold wrT wrE; rw [List.take_of_length_le (by rw [← Hn.out]; omega)])
      rw [HE.out] at HS
      have HS2 : Hid (Calls Tryz.prog 20 #[.pointer (some ⟨w.heap.size, 0, none⟩)] wr fun e w' => e = .returned (.string Y) ∧ Below w.heap.size wr w') := hid0 (by rw [HY.out]; exact HS.out.mono (fun e w' h => ⟨h.1, h.2.2.1⟩))
      clear HS HBl
      go_wp2_with (go_at_call 20; refine HS2.out.mono ?_; rintro e w7 ⟨rfl, hb7⟩)
      go_ret
      exact ⟨rfl, HBr.out.trans hb7⟩
end Go.Proofs.YtlfeiadgahdgoaaGreatDoor
namespace Go.Proofs.YtlfeiadgahdgoaaGreatDoor
open Go.RowKit Go.Shelf Go.Lib
/-- A section's head. -/
def hdB (lo pa : ByteArray) : List UInt8 := [91] ++ lo.data.toList ++ [93, 10] ++ (if pa.data.toList = [] then [] else [112, 97, 114, 101, 110, 116, 32] ++ pa.data.toList ++ [10])
theorem secB_hd (s : Sec) : secB s = hdB s.loc s.par ++ s.ed.flatMap wrX := rfl
/-- What is written of a section up to its k-th edit. -/
def sdT (s : Sec) (k : Nat) : List UInt8 := hdB s.loc s.par ++ (s.ed.take k).flatMap wrX
theorem sdT_more (s : Sec) (k : Nat) (h : k < s.ed.length) : sdT s (k + 1) = sdT s k ++ wrX s.ed[k] := by
  unfold sdT
  rw [List.take_succ_eq_append_getElem h, List.flatMap_append, List.append_assoc]
  simp only [List.flatMap_cons, List.flatMap_nil, List.append_nil]
theorem hdB_len {s : Sec} (h : SecOk s) : (hdB s.loc s.par).length ≤ 139 := by
  have h1 := tag_len h.loc
  have h3 : s.par.data.toList ≠ [] → s.par.data.toList.length ≤ 64 := fun hp => tag_len (h.par (by rw [par_nil]; simpa using hp))
  have h4 : (if s.par.data.toList = [] then [] else [112, 97, 114, 101, 110, 116, 32] ++ s.par.data.toList ++ [10] : List UInt8).length ≤ 72 := by
    split
    · simp only [List.length_nil]; omega
    · rename_i hp
      have := h3 hp
      simp only [List.length_append, List.length_cons, List.length_nil]
      omega
  unfold hdB
  simp only [List.length_append, List.length_cons, List.length_nil]
  omega
theorem sdT_len {s : Sec} (h : SecOk s) (k : Nat) (hk : k ≤ 20000) : (sdT s k).length ≤ 4000000 := by
  have h1 := hdB_len h
  have h2 := flat_len wrX 195 (s.ed.take k) (fun e he => wrX_len (h.ent e (List.mem_of_mem_take he)))
  have h3 : (s.ed.take k).length ≤ k := by rw [List.length_take]; omega
  unfold sdT
  rw [List.length_append]
  have := Nat.mul_le_mul_right 195 h3
  omega
set_option maxRecDepth 10000 in
set_option maxHeartbeats 6400000 in
theorem writtenSection_any (s : Sec) (ae : Option Addr) (ce : Nat) (w : World) (hn : s.ed.length ≤ 20000) (hz : ∀ e ∈ s.ed, e.2.size ≤ 4194400) (hok : SecOk s) (hQ : SeqAt w) (hT : DT w) (he : EA w ae s.ed) :
    Calls Tryz.prog 18 #[.agg #[.string s.loc, .string s.par, .slice ae s.ed.length ce]] w fun e w' => e = .returned (.string (strOf (secB s))) ∧ Below w.heap.size w w' := by
  obtain ⟨w0, hw0⟩ : ∃ w0, w0 = w.alloc (.cells #[.string s.loc, .string s.par, .slice ae s.ed.length ce] 38) := ⟨_, rfl⟩
  have hB0 : Below w.heap.size w w0 := by rw [hw0]; exact (Below.refl _ _).alloc (Nat.le_refl _) _
  have hs0 : w0.heap.size = w.heap.size + 1 := by rw [hw0]; simp
  have hX0 : w0.heap[w.heap.size]? = some (.cells #[.string s.loc, .string s.par, .slice ae s.ed.length ce] 38 (0, 0)) := by rw [hw0]; exact heap_alloc_new w _
  have HX : Hid (∀ W, Below w0.heap.size w0 W → W.cell? ⟨w.heap.size, 0, none⟩ = some (.string s.loc) ∧ W.cell? ⟨w.heap.size, 1, none⟩ = some (.string s.par) ∧ W.cell? ⟨w.heap.size, 2, none⟩ = some (.slice ae s.ed.length ce)) := hid0 (fun W hW => by
    have hr := (hW.block w.heap.size (by omega)).trans hX0
    exact ⟨by rw [cell_of_row _ _ _ _ _ _ hr]; rfl, by rw [cell_of_row _ _ _ _ _ _ hr]; rfl, by rw [cell_of_row _ _ _ _ _ _ hr]; rfl⟩)
  obtain ⟨wA, hwA⟩ : ∃ wA, wA = w0.alloc (.cells #[.pointer none, .slice none 0 0] 50) := ⟨_, rfl⟩
  have hBA : Below w0.heap.size w0 wA := by rw [hwA]; exact (Below.refl _ _).alloc (Nat.le_refl _) _
  have HBlA : Hid (Bl w0.heap.size (w.heap.size + 1) [] wA) := hid0 (by rw [hwA, ← hs0]; exact Lib.fresh_isBuilder 50 5 w0)
  have HEv : Hid (∀ W, Below w0.heap.size w0 W → SeqAt W ∧ DT W ∧ EA W ae s.ed) := hid0 (fun W hW => ⟨(hQ.later hB0).later hW, dt_later (dt_later hT hB0) hW, (he.later hB0).later hW⟩)
  obtain ⟨y0, y1, y2⟩ := HX.out wA hBA
  have HBA := hid0 hBA
  have HB0 := hid0 hB0
  have hszA : w0.heap.size ≤ wA.heap.size := hBA.size
  have HOk := hid0 hok
  have HZ := hid0 hz
  obtain ⟨Y, hY⟩ : ∃ Y, Y = strOf (secB s) := ⟨_, rfl⟩
  rw [← hY]
  have HY := hid0 hY
  have hlo : s.loc.size ≤ 64 := by have := tag_len hok.loc; rw [bsize] at this; exact this
  have HS1 : Hid ((⟨#[91]⟩ ++ s.loc ++ ⟨#[93, 10]⟩ : ByteArray).size ≤ 67) := hid0 (by
    have z1 : (⟨#[91]⟩ : ByteArray).size = 1 := rfl
    have z2 : (⟨#[93, 10]⟩ : ByteArray).size = 2 := rfl
    rw [ByteArray.size_append, ByteArray.size_append, z1, z2]
    omega)
  have HL1 : Hid (([] : List Value).length + (⟨#[91]⟩ ++ s.loc ++ ⟨#[93, 10]⟩ : ByteArray).size ≤ 140737488355328) := hid0 (by have := HS1.out; rw [List.length_nil]; omega)
  obtain ⟨X1, hX1⟩ : ∃ X1 : ByteArray, (⟨#[91]⟩ ++ s.loc ++ ⟨#[93, 10]⟩ : ByteArray) = X1 := ⟨_, rfl⟩
  rw [hX1] at HS1 HL1
  have HX1c : Hid (Lib.strCells X1 = Lib.strCells ⟨#[91]⟩ ++ Lib.strCells s.loc ++ Lib.strCells ⟨#[93, 10]⟩) := hid0 (by rw [← hX1, strCells_app, strCells_app])
  have hf0 := hw0.symm
  have hfA := hwA.symm
  clear hw0 hwA hB0 hX0 hBA hQ hT he hY hok hz
  cases hp : (s.par.toList == []) with
  | true =>
    have M1 : Hid True := trivial
    have hy1 : ¬ 9223372036854775807 < 1 + s.loc.size := by omega
    have hy2 : ¬ 9223372036854775807 < 1 + s.loc.size + 2 := by omega
    go_enter Tryz.func18, Tryz.ntmps18
    go_wp2_with (first
      | (go_at_call 17; clear M1; refine (writeString_any _ _ [] X1 wA HBlA.out HL1.out hszA).mono ?_; rintro e2 w1 ⟨rfl, h1, h2, h3⟩; have HB1 := hid0 (HBA.out.trans h2); obtain ⟨y0, y1, y2⟩ := HX.out w1 HB1.out; have HBl1 : Hid (Bl w0.heap.size (w.heap.size + 1) ([] ++ Lib.strCells X1) w1) := hid0 (.inr h1); clear h1 h2 h3)
      | fail)
    have HBZ := HB1
    have HBlZ : Hid (Bl w0.heap.size (w.heap.size + 1) (Lib.byteCells (sdT s 0)) w1) := hid0 (by
      have h := HBl1.out
      rw [HX1c.out] at h
      have e : Lib.byteCells (sdT s 0) = [] ++ (Lib.strCells ⟨#[91]⟩ ++ Lib.strCells s.loc ++ Lib.strCells ⟨#[93, 10]⟩) := by
        unfold sdT hdB
        rw [if_pos (by rw [par_nil] at hp; exact of_decide_eq_true hp)]
        simp [Lib.byteCells, Lib.strCells]
      rw [e]
      exact h)
    clear HBl1 HB1 HBlA HBA
    go_loopw [23] (fun i wr => ∃ k : Nat, k ≤ s.ed.length ∧ i = .int .i64 (k : Int) ∧ Hid (Bl w0.heap.size (w.heap.size + 1) (Lib.byteCells (sdT s k)) wr) ∧ Hid (Below w0.heap.size w0 wr)) (fun i _ => s.ed.length - (intOf i).toNat)
    case atStart => exact ⟨0, Nat.zero_le _, rfl, HBlZ, HBZ⟩
    case round =>
      clear HBlZ HBZ
      obtain ⟨k, hk, rfl, HBl, HBr⟩ := hrel
      by_cases hlt : k < s.ed.length
      · have hkI : (k : Int) < (s.ed.length : Int) := by omega
        have hkI0 : (0 : Int) ≤ (k : Int) := by omega
        obtain ⟨b, off, rfl, hbl, c0, c1⟩ := (HEv.out wr HBr.out).2.2.at' k hlt
        have HEn : Hid (entF s.ed[k].2.data.toList = none) := hid0 (HOk.out.ent _ (List.getElem_mem hlt))
        have HEz : Hid (s.ed[k].2.size ≤ 4194400) := hid0 (HZ.out _ (List.getElem_mem hlt))
        have HMo : Hid (Lib.byteCells (sdT s k) ++ Lib.byteCells (wrX s.ed[k]) = Lib.byteCells (sdT s (k + 1))) := hid0 (by rw [sdT_more s k hlt, bytes_app])
        have HLn : Hid ((Lib.byteCells (sdT s k)).length ≤ 4000000) := hid0 (by rw [Lib.byteCells_length]; exact sdT_len HOk.out k (by omega))
        generalize Lib.byteCells (sdT s k) = bs at *
        generalize s.ed[k] = ed at *
        obtain ⟨x, e⟩ := ed
        simp only at c0 c1 HEn HEz HMo
        obtain ⟨wB, hwB⟩ : ∃ wB, wB = wr.alloc (.cells #[.bool x, .string e] 40) := ⟨_, rfl⟩
        have hbB : Below wr.heap.size wr wB := by rw [hwB]; exact (Below.refl _ _).alloc (Nat.le_refl _) _
        have hrB : wB.heap[wr.heap.size]? = some (.cells #[.bool x, .string e] 40 (0, 0)) := by rw [hwB]; exact heap_alloc_new wr _
        have d0 : wB.cell? ⟨wr.heap.size, 0, none⟩ = some (.bool x) := by rw [cell_of_row _ _ _ _ _ _ hrB]; rfl
        have d1 : wB.cell? ⟨wr.heap.size, 1, none⟩ = some (.string e) := by rw [cell_of_row _ _ _ _ _ _ hrB]; rfl
        have HBB : Hid (Below w0.heap.size w0 wB) := hid0 (HBr.out.trans (hbB.mono HBr.out.size))
        have HBlB := hid0 (bl_later HBl.out hbB)
        have HWr := hid0 (writtenEntry_any e HEz.out HEn.out wB (HEv.out wB HBB.out).1 (HEv.out wB HBB.out).2.1)
        have HWl : Hid ((strOf (wrE e.data.toList)).size ≤ 192) := hid0 (by rw [strOf_size]; exact wrE_len HEn.out)
        have HXt : Hid (x = true → bs ++ Lib.strCells (⟨#[43, 32]⟩ ++ strOf (wrE e.data.toList) ++ ⟨#[10]⟩) = Lib.byteCells (sdT s (k + 1))) := hid0 (fun hx => by
          rw [← HMo.out, strCells_app, strCells_app, strCells_strOf]
          unfold wrX
          simp only
          rw [if_pos hx, bytes_app, bytes_app]
          rfl)
        have HXf : Hid (x = false → bs ++ Lib.strCells (⟨#[45, 32]⟩ ++ strOf (wrE e.data.toList) ++ ⟨#[10]⟩) = Lib.byteCells (sdT s (k + 1))) := hid0 (fun hx => by
          rw [← HMo.out, strCells_app, strCells_app, strCells_strOf]
          unfold wrX
          simp only
          rw [if_neg (by rw [hx]; simp), bytes_app, bytes_app]
          rfl)
        have HLe : Hid (∀ g : ByteArray, g.size = 2 → bs.length + (g ++ strOf (wrE e.data.toList) ++ ⟨#[10]⟩).size ≤ 140737488355328) := hid0 (fun g hg => by
          have h1 := HLn.out
          have h2 := HWl.out
          have z1 : (⟨#[10]⟩ : ByteArray).size = 1 := rfl
          rw [ByteArray.size_append, ByteArray.size_append, hg, z1]
          omega)
        have hfB := hwB.symm
        generalize strOf (wrE e.data.toList) = We at *
        have hz1 : ¬ 9223372036854775807 < 2 + We.size := by have := HWl.out; omega
        have hz2 : ¬ 9223372036854775807 < 2 + We.size + 1 := by have := HWl.out; omega
        clear hwB hbB hrB HBl HMo HEn HEz HBr hbl
        cases x with
        | true =>
          have hXn := HXt.out rfl
          have hLe := HLe.out ⟨#[43, 32]⟩ rfl
          obtain ⟨X3, hX3⟩ : ∃ X3 : ByteArray, (⟨#[43, 32]⟩ ++ We ++ ⟨#[10]⟩ : ByteArray) = X3 := ⟨_, rfl⟩
          rw [hX3] at hXn hLe
          have HXn := hid0 hXn
          have HLe3 := hid0 hLe
          clear HXt HXf hXn hLe HLe
          go_wp2_with (first
            | (go_at_call 36; refine HWr.out.mono ?_; rintro e2 w5 ⟨rfl, hb5⟩; have HB5 := hid0 (Below.later HBB.out hb5); have HBl5 := hid0 (bl_later HBlB.out hb5); clear hb5)
            | (go_at_call 17; refine (writeString_any _ _ bs X3 w5 HBl5.out HLe3.out HB5.out.size).mono ?_; rintro e2 w6 ⟨rfl, h1, h2, h3⟩; have HB6 := hid0 (HB5.out.trans h2); have HBl6 : Hid (Bl w0.heap.size (w.heap.size + 1) (Lib.byteCells (sdT s (k + 1))) w6) := hid0 (.inr (by rw [← HXn.out]; exact h1)); clear h1 h2 h3)
            | fail)
          go_roundw
          case rel => exact ⟨k + 1, by omega, by go_num, HBl6, HB6⟩
          case measure => simp [intOf]; omega
        | false =>
          have hXn := HXf.out rfl
          have hLe := HLe.out ⟨#[45, 32]⟩ rfl
          obtain ⟨X3, hX3⟩ : ∃ X3 : ByteArray, (⟨#[45, 32]⟩ ++ We ++ ⟨#[10]⟩ : ByteArray) = X3 := ⟨_, rfl⟩
          rw [hX3] at hXn hLe
          have HXn := hid0 hXn
          have HLe3 := hid0 hLe
          clear HXt HXf hXn hLe HLe
          go_wp2_with (first
            | (go_at_call 36; refine HWr.out.mono ?_; rintro e2 w5 ⟨rfl, hb5⟩; have HB5 := hid0 (Below.later HBB.out hb5); have HBl5 := hid0 (bl_later HBlB.out hb5); clear hb5)
            | (go_at_call 17; refine (writeString_any _ _ bs X3 w5 HBl5.out HLe3.out HB5.out.size).mono ?_; rintro e2 w6 ⟨rfl, h1, h2, h3⟩; have HB6 := hid0 (HB5.out.trans h2); have HBl6 : Hid (Bl w0.heap.size (w.heap.size + 1) (Lib.byteCells (sdT s (k + 1))) w6) := hid0 (.inr (by rw [← HXn.out]; exact h1)); clear h1 h2 h3)
            | fail)
          go_roundw
          case rel => exact ⟨k + 1, by omega, by go_num, HBl6, HB6⟩
          case measure => simp [intOf]; omega
      · have hkI : ¬ (k : Int) < (s.ed.length : Int) := by omega
        have HS := hid0 (Any.Builder_String_any_k Tryz.lays169 ext169 w0.heap.size (w.heap.size + 1) (sdT s k) wr (Lib.IsBuilderF.of HBl.out) HBr.out.size)
        have HE : Hid (sdT s k = secB s) := hid0 (by rw [secB_hd]; unfold sdT; rw [List.take_of_length_le (by omega)])
        rw [HE.out] at HS
        have HS2 : Hid (Calls Tryz.prog 20 #[.pointer (some ⟨w.heap.size + 1, 0, none⟩)] wr fun e w' => e = .returned (.string Y) ∧ Below w0.heap.size wr w') := hid0 (by rw [HY.out]; exact HS.out.mono (fun e w' h => ⟨h.1, h.2.2.1⟩))
        clear HS HBl
        go_wp2_with (go_at_call 20; refine HS2.out.mono ?_; rintro e2 w7 ⟨rfl, hb7⟩)
        go_ret
        exact ⟨rfl, Below.later HB0.out (HBr.out.trans hb7)⟩
  | false =>
    have M1 : Hid True := trivial
    have hy1 : ¬ 9223372036854775807 < 1 + s.loc.size := by omega
    have hy2 : ¬ 9223372036854775807 < 1 + s.loc.size + 2 := by omega
    go_enter Tryz.func18, Tryz.ntmps18
    have hpz : s.par.size ≤ 64 := by have := tag_len (HOk.out.par hp); rw [bsize] at this; exact this
    have hy3 : ¬ 9223372036854775807 < 7 + s.par.size := by omega
    have hy4 : ¬ 9223372036854775807 < 7 + s.par.size + 1 := by omega
    have HL2 : Hid (([] ++ Lib.strCells X1).length + (⟨#[112, 97, 114, 101, 110, 116, 32]⟩ ++ s.par ++ ⟨#[10]⟩ : ByteArray).size ≤ 140737488355328) := hid0 (by
      have h1 := HS1.out
      have z7 : (⟨#[112, 97, 114, 101, 110, 116, 32]⟩ : ByteArray).size = 7 := rfl
      have z1 : (⟨#[10]⟩ : ByteArray).size = 1 := rfl
      rw [List.nil_append, Lib.strCells_length, ByteArray.size_append (a := ⟨#[112, 97, 114, 101, 110, 116, 32]⟩ ++ s.par), ByteArray.size_append (a := ⟨#[112, 97, 114, 101, 110, 116, 32]⟩), z7, z1]
      omega)
    obtain ⟨X2, hX2⟩ : ∃ X2 : ByteArray, (⟨#[112, 97, 114, 101, 110, 116, 32]⟩ ++ s.par ++ ⟨#[10]⟩ : ByteArray) = X2 := ⟨_, rfl⟩
    rw [hX2] at HL2
    have HX2c : Hid (Lib.strCells X2 = Lib.strCells ⟨#[112, 97, 114, 101, 110, 116, 32]⟩ ++ Lib.strCells s.par ++ Lib.strCells ⟨#[10]⟩) := hid0 (by rw [← hX2, strCells_app, strCells_app])
    go_wp2_with (first
      | (go_at_call 17; clear M1; refine (writeString_any _ _ [] X1 wA HBlA.out HL1.out hszA).mono ?_; rintro e2 w1 ⟨rfl, h1, h2, h3⟩; have HB1 := hid0 (HBA.out.trans h2); obtain ⟨y0, y1, y2⟩ := HX.out w1 HB1.out; have HBl1 : Hid (Bl w0.heap.size (w.heap.size + 1) ([] ++ Lib.strCells X1) w1) := hid0 (.inr h1); clear h1 h2 h3)
      | (go_at_call 17; refine (writeString_any _ _ _ X2 w1 HBl1.out HL2.out HB1.out.size).mono ?_; rintro e2 w2 ⟨rfl, h1, h2, h3⟩; have HB2 := hid0 (HB1.out.trans h2); obtain ⟨y0, y1, y2⟩ := HX.out w2 HB2.out; have HBl2 : Hid (Bl w0.heap.size (w.heap.size + 1) ([] ++ Lib.strCells X1 ++ Lib.strCells X2) w2) := hid0 (.inr h1); clear h1 h2 h3)
      | fail)
    have HBZ := HB2
    have HBlZ : Hid (Bl w0.heap.size (w.heap.size + 1) (Lib.byteCells (sdT s 0)) w2) := hid0 (by
      have h := HBl2.out
      rw [HX1c.out, HX2c.out] at h
      have e : Lib.byteCells (sdT s 0) = [] ++ (Lib.strCells ⟨#[91]⟩ ++ Lib.strCells s.loc ++ Lib.strCells ⟨#[93, 10]⟩) ++ (Lib.strCells ⟨#[112, 97, 114, 101, 110, 116, 32]⟩ ++ Lib.strCells s.par ++ Lib.strCells ⟨#[10]⟩) := by
        unfold sdT hdB
        rw [if_neg (by rw [par_nil] at hp; exact of_decide_eq_false hp)]
        simp [Lib.byteCells, Lib.strCells]
      rw [e]
      exact h)
    clear HBl1 HB1 HBl2 HB2 HBlA HBA
    go_loopw [23] (fun i wr => ∃ k : Nat, k ≤ s.ed.length ∧ i = .int .i64 (k : Int) ∧ Hid (Bl w0.heap.size (w.heap.size + 1) (Lib.byteCells (sdT s k)) wr) ∧ Hid (Below w0.heap.size w0 wr)) (fun i _ => s.ed.length - (intOf i).toNat)
    case atStart => exact ⟨0, Nat.zero_le _, rfl, HBlZ, HBZ⟩
    case round =>
      clear HBlZ HBZ
      obtain ⟨k, hk, rfl, HBl, HBr⟩ := hrel
      by_cases hlt : k < s.ed.length
      · have hkI : (k : Int) < (s.ed.length : Int) := by omega
        have hkI0 : (0 : Int) ≤ (k : Int) := by omega
        obtain ⟨b, off, rfl, hbl, c0, c1⟩ := (HEv.out wr HBr.out).2.2.at' k hlt
        have HEn : Hid (entF s.ed[k].2.data.toList = none) := hid0 (HOk.out.ent _ (List.getElem_mem hlt))
        have HEz : Hid (s.ed[k].2.size ≤ 4194400) := hid0 (HZ.out _ (List.getElem_mem hlt))
        have HMo : Hid (Lib.byteCells (sdT s k) ++ Lib.byteCells (wrX s.ed[k]) = Lib.byteCells (sdT s (k + 1))) := hid0 (by rw [sdT_more s k hlt, bytes_app])
        have HLn : Hid ((Lib.byteCells (sdT s k)).length ≤ 4000000) := hid0 (by rw [Lib.byteCells_length]; exact sdT_len HOk.out k (by omega))
        generalize Lib.byteCells (sdT s k) = bs at *
        generalize s.ed[k] = ed at *
        obtain ⟨x, e⟩ := ed
        simp only at c0 c1 HEn HEz HMo
        obtain ⟨wB, hwB⟩ : ∃ wB, wB = wr.alloc (.cells #[.bool x, .string e] 40) := ⟨_, rfl⟩
        have hbB : Below wr.heap.size wr wB := by rw [hwB]; exact (Below.refl _ _).alloc (Nat.le_refl _) _
        have hrB : wB.heap[wr.heap.size]? = some (.cells #[.bool x, .string e] 40 (0, 0)) := by rw [hwB]; exact heap_alloc_new wr _
        have d0 : wB.cell? ⟨wr.heap.size, 0, none⟩ = some (.bool x) := by rw [cell_of_row _ _ _ _ _ _ hrB]; rfl
        have d1 : wB.cell? ⟨wr.heap.size, 1, none⟩ = some (.string e) := by rw [cell_of_row _ _ _ _ _ _ hrB]; rfl
        have HBB : Hid (Below w0.heap.size w0 wB) := hid0 (HBr.out.trans (hbB.mono HBr.out.size))
        have HBlB := hid0 (bl_later HBl.out hbB)
        have HWr := hid0 (writtenEntry_any e HEz.out HEn.out wB (HEv.out wB HBB.out).1 (HEv.out wB HBB.out).2.1)
        have HWl : Hid ((strOf (wrE e.data.toList)).size ≤ 192) := hid0 (by rw [strOf_size]; exact wrE_len HEn.out)
        have HXt : Hid (x = true → bs ++ Lib.strCells (⟨#[43, 32]⟩ ++ strOf (wrE e.data.toList) ++ ⟨#[10]⟩) = Lib.byteCells (sdT s (k + 1))) := hid0 (fun hx => by
          rw [← HMo.out, strCells_app, strCells_app, strCells_strOf]
          unfold wrX
          simp only
          rw [if_pos hx, bytes_app, bytes_app]
          rfl)
        have HXf : Hid (x = false → bs ++ Lib.strCells (⟨#[45, 32]⟩ ++ strOf (wrE e.data.toList) ++ ⟨#[10]⟩) = Lib.byteCells (sdT s (k + 1))) := hid0 (fun hx => by
          rw [← HMo.out, strCells_app, strCells_app, strCells_strOf]
          unfold wrX
          simp only
          rw [if_neg (by rw [hx]; simp), bytes_app, bytes_app]
          rfl)
        have HLe : Hid (∀ g : ByteArray, g.size = 2 → bs.length + (g ++ strOf (wrE e.data.toList) ++ ⟨#[10]⟩).size ≤ 140737488355328) := hid0 (fun g hg => by
          have h1 := HLn.out
          have h2 := HWl.out
          have z1 : (⟨#[10]⟩ : ByteArray).size = 1 := rfl
          rw [ByteArray.size_append, ByteArray.size_append, hg, z1]
          omega)
        have hfB := hwB.symm
        generalize strOf (wrE e.data.toList) = We at *
        have hz1 : ¬ 9223372036854775807 < 2 + We.size := by have := HWl.out; omega
        have hz2 : ¬ 9223372036854775807 < 2 + We.size + 1 := by have := HWl.out; omega
        clear hwB hbB hrB HBl HMo HEn HEz HBr hbl
        cases x with
        | true =>
          have hXn := HXt.out rfl
          have hLe := HLe.out ⟨#[43, 32]⟩ rfl
          obtain ⟨X3, hX3⟩ : ∃ X3 : ByteArray, (⟨#[43, 32]⟩ ++ We ++ ⟨#[10]⟩ : ByteArray) = X3 := ⟨_, rfl⟩
          rw [hX3] at hXn hLe
          have HXn := hid0 hXn
          have HLe3 := hid0 hLe
          clear HXt HXf hXn hLe HLe
          go_wp2_with (first
            | (go_at_call 36; refine HWr.out.mono ?_; rintro e2 w5 ⟨rfl, hb5⟩; have HB5 := hid0 (Below.later HBB.out hb5); have HBl5 := hid0 (bl_later HBlB.out hb5); clear hb5)
            | (go_at_call 17; refine (writeString_any _ _ bs X3 w5 HBl5.out HLe3.out HB5.out.size).mono ?_; rintro e2 w6 ⟨rfl, h1, h2, h3⟩; have HB6 := hid0 (HB5.out.trans h2); have HBl6 : Hid (Bl w0.heap.size (w.heap.size + 1) (Lib.byteCells (sdT s (k + 1))) w6) := hid0 (.inr (by rw [← HXn.out]; exact h1)); clear h1 h2 h3)
            | fail)
          go_roundw
          case rel => exact ⟨k + 1, by omega, by go_num, HBl6, HB6⟩
          case measure => simp [intOf]; omega
        | false =>
          have hXn := HXf.out rfl
          have hLe := HLe.out ⟨#[45, 32]⟩ rfl
          obtain ⟨X3, hX3⟩ : ∃ X3 : ByteArray, (⟨#[45, 32]⟩ ++ We ++ ⟨#[10]⟩ : ByteArray) = X3 := ⟨_, rfl⟩
          rw [hX3] at hXn hLe
          have HXn := hid0 hXn
          have HLe3 := hid0 hLe
          clear HXt HXf hXn hLe HLe
          go_wp2_with (first
            | (go_at_call 36; refine HWr.out.mono ?_; rintro e2 w5 ⟨rfl, hb5⟩; have HB5 := hid0 (Below.later HBB.out hb5); have HBl5 := hid0 (bl_later HBlB.out hb5); clear hb5)
            | (go_at_call 17; refine (writeString_any _ _ bs X3 w5 HBl5.out HLe3.out HB5.out.size).mono ?_; rintro e2 w6 ⟨rfl, h1, h2, h3⟩; have HB6 := hid0 (HB5.out.trans h2); have HBl6 : Hid (Bl w0.heap.size (w.heap.size + 1) (Lib.byteCells (sdT s (k + 1))) w6) := hid0 (.inr (by rw [← HXn.out]; exact h1)); clear h1 h2 h3)
            | fail)
          go_roundw
          case rel => exact ⟨k + 1, by omega, by go_num, HBl6, HB6⟩
          case measure => simp [intOf]; omega
      · have hkI : ¬ (k : Int) < (s.ed.length : Int) := by omega
        have HS := hid0 (Any.Builder_String_any_k Tryz.lays169 ext169 w0.heap.size (w.heap.size + 1) (sdT s k) wr (Lib.IsBuilderF.of HBl.out) HBr.out.size)
        have HE : Hid (sdT s k = secB s) := hid0 (by rw [secB_hd]; unfold sdT; rw [List.take_of_length_le (by omega)])
        rw [HE.out] at HS
        have HS2 : Hid (Calls Tryz.prog 20 #[.pointer (some ⟨w.heap.size + 1, 0, none⟩)] wr fun e w' => e = .returned (.string Y) ∧ Below w0.heap.size wr w') := hid0 (by rw [HY.out]; exact HS.out.mono (fun e w' h => ⟨h.1, h.2.2.1⟩))
        clear HS HBl
        go_wp2_with (go_at_call 20; refine HS2.out.mono ?_; rintro e2 w7 ⟨rfl, hb7⟩)
        go_ret
        exact ⟨rfl, Below.later HB0.out (HBr.out.trans hb7)⟩
end Go.Proofs.YtlfeiadgahdgoaaGreatDoor
namespace Go.Proofs.YtlfeiadgahdgoaaGreatDoor
open Go.RowKit Go.Shelf Go.Lib
/-- What Print answers: the refusal's number, or the bytes. -/
def prtF (L : List Sec) : Option Nat × List UInt8 := match chkE entE L with
  | some i => (some i, [])
  | none => if 1048576 < (prB L).length then (some 2, []) else (none, prB L)
set_option maxRecDepth 10000 in
theorem len_any (B b : Nat) (bs : List Value) (w : World) (h : Bl B b bs w) : Calls Tryz.prog 19 #[.pointer (some ⟨b, 0, none⟩)] w fun e w' => e = .returned (.int .i64 (bs.length : Int)) ∧ w' = w := by
  have key : ∀ p, Lib.BuilderAt 50 5 B b p bs w → ∃ a c, w.cell? ⟨b, 1, none⟩ = some (.slice a bs.length c) := fun p ⟨h1, v, h2, h3, h4⟩ => by
    obtain ⟨a, c, rfl⟩ := row_form h3
    exact ⟨a, c, by rw [cell_of_row _ _ _ _ _ _ h2]; rfl⟩
  obtain ⟨a, c, h1⟩ : ∃ a c, w.cell? ⟨b, 1, none⟩ = some (.slice a bs.length c) := h.elim (key _) (key _)
  clear key h
  go_enter Tryz.func19, Tryz.ntmps19
  go_wp2
  go_ret
  exact ⟨rfl, rfl⟩
set_option maxRecDepth 10000 in
set_option maxHeartbeats 3200000 in
theorem print_any (A : Nat → Addr) (L : List Sec) (a : Option Addr) (c : Nat) (w : World) (hc : L.length ≤ c) (hb : ∀ s ∈ L, s.ed.length ≤ 140737488355328) (hz : ∀ s ∈ L, ∀ e ∈ s.ed, e.2.size ≤ 4194400) (hm : Mx w) (hQ : SeqAt w) (hT : DT w) (he : Sents w A) (ha : XA w a L) :
    Calls Tryz.prog 8 #[.agg #[.slice a L.length c]] w fun e w' => e = .returned (.tuple #[.string (strOf (prtF L).2), errO A (prtF L).1]) ∧ Below w.heap.size w w' := by
  obtain ⟨w0, hw0⟩ : ∃ w0, w0 = w.alloc (.cells #[.slice a L.length c] 24) := ⟨_, rfl⟩
  have hB0 : Below w.heap.size w w0 := by rw [hw0]; exact (Below.refl _ _).alloc (Nat.le_refl _) _
  have hs0 : w0.heap.size = w.heap.size + 1 := by rw [hw0]; simp
  have hX0 : w0.heap[w.heap.size]? = some (.cells #[.slice a L.length c] 24 (0, 0)) := by rw [hw0]; exact heap_alloc_new w _
  have HX : Hid (∀ W, Below w0.heap.size w0 W → W.cell? ⟨w.heap.size, 0, none⟩ = some (.slice a L.length c)) := hid0 (fun W hW => by
    have hr := (hW.block w.heap.size (by omega)).trans hX0
    rw [cell_of_row _ _ _ _ _ _ hr]; rfl)
  have HCk := hid0 (check_any entE A L a c w0 hc hb (hm.below hB0) (he.below hB0) (ha.later hB0) (fun s hs e hee => Nat.le_trans (hz s hs e hee) (by decide)) (fun x W hx hW => entry_any A x W hx ((hQ.later hB0).later hW) ((he.below hB0).below hW)))
  have HEv : Hid (∀ W, Below w0.heap.size w0 W → SeqAt W ∧ DT W ∧ XA W a L ∧ Sents W A) := hid0 (fun W hW => ⟨(hQ.later hB0).later hW, dt_later (dt_later hT hB0) hW, (ha.later hB0).later hW, (he.below hB0).below hW⟩)
  have HZ := hid0 hz
  have HB0 := hid0 hB0
  have x0 := HX.out w0 (Below.refl _ _)
  obtain ⟨R, hR⟩ : ∃ R, R = prtF L := ⟨_, rfl⟩
  rw [← hR]
  unfold prtF at hR
  have hf0 := hw0.symm
  clear hw0 hs0 hB0 hX0 hm hQ hT he ha hb hz
  cases hk : chkE entE L with
  | some i =>
    rw [hk] at HCk hR
    simp only [errO] at HCk
    simp only at hR
    subst hR
    have hse : strOf [] = (⟨#[]⟩ : ByteArray) := rfl
    simp only [errO, hse]
    go_enter Tryz.func8, Tryz.ntmps8
    go_wp2_with (go_at_call 11; refine HCk.out.mono ?_; rintro e w1 ⟨rfl, hb1⟩; have HB1 := hid0 (Below.later HB0.out hb1); clear hb1)
    go_ret2
    exact ⟨rfl, HB1.out⟩
  | none =>
    rw [hk] at HCk hR
    simp only [errO] at HCk
    simp only at hR
    obtain ⟨h500, h20k, hok⟩ := chk_ok (fun x => rfl) hk
    have HOk := hid0 hok
    have HPl : Hid (∀ k, (prB (L.take k)).length ≤ 4000000) := hid0 (fun k => prB_take h500 h20k hok k)
    have HEd : Hid (∀ s ∈ L, s.ed.length ≤ 20000) := hid0 (fun s hs => Nat.le_trans (ed_le hs) h20k)
    have HR := hid0 hR
    have M1 : Hid True := trivial
    clear hk hok hR
    go_enter Tryz.func8, Tryz.ntmps8
    go_wp2_with (go_at_call 11; clear M1; refine HCk.out.mono ?_; rintro e w1 ⟨rfl, hb1⟩; have HB1 := hid0 hb1; have x1 := HX.out w1 hb1; have x2 := HX.out (w1.alloc (.cells #[.pointer none, .slice none 0 0] 50)) (Below.later hb1 ((Below.refl _ _).alloc (Nat.le_refl _) _)); clear hb1 x0 hf0)
    have HBl1 : Hid (Bl w1.heap.size w1.heap.size (Lib.byteCells (prB (L.take 0))) (w1.alloc (.cells #[.pointer none, .slice none 0 0] 50))) := hid0 (by
      have h := Lib.fresh_isBuilder 50 5 w1
      simpa [prB, Lib.byteCells] using h)
    have HBA : Hid (Below w1.heap.size w1 (w1.alloc (.cells #[.pointer none, .slice none 0 0] 50))) := hid0 ((Below.refl _ _).alloc (Nat.le_refl _) _)
    clear x1 x2 HCk
    go_loopw [16] (fun i wr => ∃ k : Nat, k ≤ L.length ∧ i = .int .i64 (k : Int) ∧ Hid (Bl w1.heap.size w1.heap.size (Lib.byteCells (prB (L.take k))) wr) ∧ Hid (Below w1.heap.size w1 wr)) (fun i _ => L.length - (intOf i).toNat)
    case atStart => exact ⟨0, Nat.zero_le _, rfl, HBl1, HBA⟩
    case round =>
      clear HBl1 HBA
      obtain ⟨k, hkl, rfl, HBl, HBr⟩ := hrel
      by_cases hlt : k < L.length
      · have hkI : (k : Int) < (L.length : Int) := by omega
        have hkI0 : (0 : Int) ≤ (k : Int) := by omega
        have hB1r := Below.later HB1.out HBr.out
        obtain ⟨b, off, ae, ce, rfl, hbl, c0, c1, c2, hea⟩ := (HEv.out wr hB1r).2.2.1.at' k hlt
        have HMo : Hid (Lib.byteCells (prB (L.take k)) ++ Lib.byteCells (secB L[k]) = Lib.byteCells (prB (L.take (k + 1)))) := hid0 (by rw [prB_more L k hlt, bytes_app])
        have HLn : Hid ((Lib.byteCells (prB (L.take k))).length ≤ 4000000) := hid0 (by rw [Lib.byteCells_length]; exact HPl.out k)
        have HLm : Hid ((secB L[k]).length ≤ 4000000) := hid0 (by have h1 := HPl.out (k + 1); rw [prB_more L k hlt, List.length_append] at h1; omega)
        have hokk := HOk.out L[k] (List.getElem_mem hlt)
        have hedk := HEd.out L[k] (List.getElem_mem hlt)
        have hzk := HZ.out L[k] (List.getElem_mem hlt)
        generalize Lib.byteCells (prB (L.take k)) = bs at *
        generalize L[k] = s at *
        obtain ⟨wB, hwB⟩ : ∃ wB, wB = wr.alloc (.cells #[.string s.loc, .string s.par, .slice ae s.ed.length ce] 38) := ⟨_, rfl⟩
        have hbB : Below wr.heap.size wr wB := by rw [hwB]; exact (Below.refl _ _).alloc (Nat.le_refl _) _
        have hrB : wB.heap[wr.heap.size]? = some (.cells #[.string s.loc, .string s.par, .slice ae s.ed.length ce] 38 (0, 0)) := by rw [hwB]; exact heap_alloc_new wr _
        have d0 : wB.cell? ⟨wr.heap.size, 0, none⟩ = some (.string s.loc) := by rw [cell_of_row _ _ _ _ _ _ hrB]; rfl
        have d1 : wB.cell? ⟨wr.heap.size, 1, none⟩ = some (.string s.par) := by rw [cell_of_row _ _ _ _ _ _ hrB]; rfl
        have d2 : wB.cell? ⟨wr.heap.size, 2, none⟩ = some (.slice ae s.ed.length ce) := by rw [cell_of_row _ _ _ _ _ _ hrB]; rfl
        have HBB : Hid (Below w1.heap.size w1 wB) := hid0 (HBr.out.trans (hbB.mono HBr.out.size))
        have HBlB := hid0 (bl_later HBl.out hbB)
        have hEB := HEv.out wB (Below.later HB1.out HBB.out)
        have HWS := hid0 (writtenSection_any s ae ce wB hedk hzk hokk hEB.1 hEB.2.1 (hea.later hbB))
        have HSz : Hid ((strOf (secB s)).size ≤ 4000000) := hid0 (by rw [strOf_size]; exact HLm.out)
        have HXn : Hid (bs ++ Lib.strCells (strOf (secB s)) = Lib.byteCells (prB (L.take (k + 1)))) := hid0 (by rw [← HMo.out, strCells_strOf])
        have hfB := hwB.symm
        generalize strOf (secB s) = Ws at *
        clear hwB hbB hrB HBl HBr HMo HLm hokk hzk hEB hea hB1r hbl
        go_wp2_with (first
          | (go_at_call 18; refine HWS.out.mono ?_; rintro e2 w5 ⟨rfl, hb5⟩; have HB5 := hid0 (Below.later HBB.out hb5); have HBl5 := hid0 (bl_later HBlB.out hb5); clear hb5)
          | (go_at_call 17; refine (writeString_any _ _ bs Ws w5 HBl5.out (by have h1 := HLn.out; have h2 := HSz.out; omega) HB5.out.size).mono ?_; rintro e2 w6 ⟨rfl, h1, h2, h3⟩; have HB6 := hid0 (HB5.out.trans h2); have HBl6 : Hid (Bl w1.heap.size w1.heap.size (Lib.byteCells (prB (L.take (k + 1)))) w6) := hid0 (.inr (by rw [← HXn.out]; exact h1)); clear h1 h2 h3)
          | fail)
        go_roundw
        case rel => exact ⟨k + 1, by omega, by go_num, HBl6, HB6⟩
        case measure => simp [intOf]; omega
      · have hkI : ¬ (k : Int) < (L.length : Int) := by omega
        have HE : Hid (prB (L.take k) = prB L) := hid0 (by rw [List.take_of_length_le (by omega)])
        have HLe := hid0 (len_any _ _ _ wr HBl.out)
        have HLl : Hid (((Lib.byteCells (prB (L.take k))).length : Int) = ((prB L).length : Int)) := hid0 (by rw [Lib.byteCells_length, HE.out])
        rw [HLl.out] at HLe
        have HS := hid0 (Any.Builder_String_any_k Tryz.lays169 ext169 w1.heap.size w1.heap.size (prB (L.take k)) wr (Lib.IsBuilderF.of HBl.out) HBr.out.size)
        rw [HE.out] at HS
        have HS2 : Hid (Calls Tryz.prog 20 #[.pointer (some ⟨w1.heap.size, 0, none⟩)] wr fun e w' => e = .returned (.string (strOf (prB L))) ∧ Below w1.heap.size wr w') := hid0 (HS.out.mono (fun e w' h => ⟨h.1, h.2.2.1⟩))
        have HBF := hid0 (Below.later HB0.out (Below.later HB1.out HBr.out))
        have hrm := (HEv.out wr (Below.later HB1.out HBr.out)).2.2.2.c2
        clear HS HBl HLl
        by_cases hbig : 1048576 < (prB L).length
        · have hbI : (1048576 : Int) < ((prB L).length : Int) := by omega
          have hR2 : R = (some 2, []) := by rw [HR.out, if_pos hbig]
          subst hR2
          have HD : Hid (∀ q, Below w.heap.size w (wr.drewN q)) := hid0 (fun q => Below.later HBF.out ⟨rfl, rfl, rfl, Nat.le_refl _, fun _ _ => rfl⟩)
          have hse : strOf [] = (⟨#[]⟩ : ByteArray) := rfl
          clear hbig
          generalize (prB L).length = np at *
          go_wp2_with (go_at_call 19; refine HLe.out.mono ?_; rintro e2 w7 ⟨rfl, hw7⟩; have hw7' := hw7.symm; subst hw7'; clear hw7)
          go_quiet ((fail))
          go_wp2
          go_ret2
          exact ⟨rfl, HD.out _⟩
        · have hbI : ¬ (1048576 : Int) < ((prB L).length : Int) := by omega
          have hR2 : R = (none, prB L) := by rw [HR.out, if_neg hbig]
          subst hR2
          clear hbig
          generalize (prB L).length = np at *
          have HB1' := hid0 (Below.later HB0.out HB1.out)
          go_wp2_with (first
            | (go_at_call 19; refine HLe.out.mono ?_; rintro e2 w7 ⟨rfl, hw7⟩; have hw7' := hw7.symm; subst hw7'; clear hw7)
            | (go_at_call 20; refine HS2.out.mono ?_; rintro e2 w8 ⟨rfl, hb8⟩)
            | fail)
          go_ret2
          exact ⟨rfl, Below.later HB1'.out (HBr.out.trans hb8)⟩
end Go.Proofs.YtlfeiadgahdgoaaGreatDoor
namespace Go.Proofs.YtlfeiadgahdgoaaGreatDoor
open Go.RowKit Go.Shelf Go.Lib
def txt1 : ByteArray := ⟨#[91, 101, 110, 93, 10, 43, 77, 114, 46, 32, 35, 32, 97, 32, 116, 105, 116, 108, 101, 10, 91, 69, 78, 45, 117, 115, 93, 10, 112, 97, 114, 101, 110, 116, 32, 101, 110, 10, 45, 32, 92, 117, 123, 52, 49, 125, 92, 115, 10]⟩
def txt2 : ByteArray := ⟨#[91, 101, 110, 93, 10, 10, 42, 32, 97]⟩
def txt3 : ByteArray := ⟨#[91, 101, 110, 93, 10, 43, 32, 77, 114, 46, 10, 91, 101, 110, 95, 85, 83, 93, 10, 112, 97, 114, 101, 110, 116, 32, 101, 110, 10, 45, 32, 65, 92, 115, 10]⟩
def kB : List Sec := [⟨⟨#[101, 110]⟩, ⟨#[]⟩, [(true, ⟨#[77, 114, 46]⟩)]⟩, ⟨⟨#[101, 110, 95, 85, 83]⟩, ⟨#[101, 110]⟩, [(false, ⟨#[65, 32]⟩)]⟩]
theorem prs1 : prsL txt1.data.toList = .ok kB := by kernel_rfl
theorem prs2 : prsL txt2.data.toList = .stop 3 1 := by kernel_rfl
theorem prt1 : prtF kB = (none, txt3.data.toList) := by kernel_rfl
end Go.Proofs.YtlfeiadgahdgoaaGreatDoor
namespace Go.Proofs.YtlfeiadgahdgoaaGreatDoor
open Go.RowKit Go.Shelf Go.Lib
/-- What the world holds. -/
structure EnvP (A : Nat → Addr) (w : World) : Prop where
  mx : Mx w
  sy : Syn w
  sq : SeqAt w
  dt : DT w
  se : Sents w A
theorem EnvP.below {A : Nat → Addr} {w w' : World} (h : EnvP A w) (hb : Below w.heap.size w w') : EnvP A w' := ⟨h.mx.below hb, h.sy.below hb, h.sq.later hb, dt_later h.dt hb, h.se.below hb⟩
theorem SB.later {w w' : World} {lo : Nat} {v : Value} {S : List SecO} (h : SB w lo v S) (hb : Below w.heap.size w w') : SB w' lo v S := h.keep (fun k _ hk => hb.block k hk)
theorem SB.form {w : World} {lo : Nat} {v : Value} {S : List SecO} (h : SB w lo v S) : ∃ a c, v = .slice a S.length c ∧ S.length ≤ c := by
  rcases h.sec.2 with ⟨h1, h2⟩ | ⟨g, cap, cur, h1, _, _, h4, _⟩
  · exact ⟨none, 0, by rw [h1, h2], by omega⟩
  · exact ⟨_, cap, h1, h4⟩
theorem SB.xa {w : World} {lo : Nat} {a : Option Addr} {n c : Nat} {S : List SecO} (h : SB w lo (.slice a n c) S) : XA w a (secsO S) := ⟨fun k hk => by
  have hk2 : k < S.length := by rw [secsO_length] at hk; exact hk
  have h0 := h.sec
  have e : (secsO S)[k] = S[k].s := by simp [secsO]
  obtain ⟨ae, ce, e1, h1⟩ := (h.ed S[k] (List.getElem_mem hk2)).ea
  rcases h.sec.2 with ⟨h2, h3⟩ | ⟨g, cap, cur, h2, hg, hh, _⟩
  · omega
  · injection h2 with e2 e3 e4
    subst e2 e3 e4
    obtain ⟨c0, c1, c2⟩ := cellsO_at S k hk2
    rw [e]
    refine ⟨g, 0, ae, ce, rfl, (Array.getElem?_eq_some_iff.1 hh).1, ?_, ?_, ?_, h1⟩
    · rw [Nat.zero_add, World.ownsRow.cellAt h0 _ (by omega)]; exact c0
    · rw [Nat.zero_add, World.ownsRow.cellAt h0 _ (by omega)]; exact c1
    · rw [Nat.zero_add, World.ownsRow.cellAt h0 _ (by omega), c2, e1]⟩
/-- Where the sections of the first text lie. -/
structure KB (g c g0 c0 g1 c1 : Nat) (W : World) : Prop where
  e0 : W.cell? ⟨g, 2, none⟩ = some (.slice (some ⟨g0, 0, none⟩) 1 c0)
  e1 : W.cell? ⟨g, 5, none⟩ = some (.slice (some ⟨g1, 0, none⟩) 1 c1)
  b0 : W.cell? ⟨g0, 0, none⟩ = some (.bool true)
  b1 : W.cell? ⟨g1, 0, none⟩ = some (.bool false)
  xa : XA W (some ⟨g, 0, none⟩) kB
  cp : 2 ≤ c
theorem kb_of {w : World} {lo : Nat} {v : Value} {T : List SecO} (h : SB w lo v T) (e : secsO T = kB) : ∃ g c g0 c0 g1 c1, v = .slice (some ⟨g, 0, none⟩) 2 c ∧ ∀ W, Below w.heap.size w W → KB g c g0 c0 g1 c1 W := by
  have hl : T.length = 2 := by rw [← secsO_length, e]; rfl
  match T, hl with
  | [x0, x1], _ =>
    have q0 : x0.s = ⟨⟨#[101, 110]⟩, ⟨#[]⟩, [(true, ⟨#[77, 114, 46]⟩)]⟩ := by have := congrArg (fun l : List Sec => l[0]?) e; simpa [secsO, kB] using this
    have q1 : x1.s = ⟨⟨#[101, 110, 95, 85, 83]⟩, ⟨#[101, 110]⟩, [(false, ⟨#[65, 32]⟩)]⟩ := by have := congrArg (fun l : List Sec => l[1]?) e; simpa [secsO, kB] using this
    obtain ⟨g, c, hv, _, _, hc⟩ := own_form h.sec (by simp)
    have d0 := h.ed x0 (by simp)
    have d1 := h.ed x1 (by simp)
    rw [q0] at d0
    rw [q1] at d1
    obtain ⟨g0, c0, hv0, _⟩ := own_form d0 (by simp)
    obtain ⟨g1, c1, hv1, _⟩ := own_form d1 (by simp)
    have hv' : v = .slice (some ⟨g, 0, none⟩) 2 c := hv
    refine ⟨g, c, g0, c0, g1, c1, hv', fun W hW => ?_⟩
    have hs := (h.later hW).sec
    have f0 := (h.later hW).ed x0 (by simp)
    have f1 := (h.later hW).ed x1 (by simp)
    rw [q0, hv0] at f0
    rw [q1, hv1] at f1
    have hx := h.later hW
    rw [hv'] at hs hx
    have cx := cellsO_at [x0, x1]
    refine ⟨?_, ?_, ?_, ?_, ?_, hc⟩
    · rw [World.ownsRow.cellAt hs 2 (by simp)]
      have := (cx 0 (by simp)).2.2
      have e3 : x0.ev = .slice (some ⟨g0, 0, none⟩) 1 c0 := hv0
      simpa [e3] using this
    · rw [World.ownsRow.cellAt hs 5 (by simp)]
      have := (cx 1 (by simp)).2.2
      have e3 : x1.ev = .slice (some ⟨g1, 0, none⟩) 1 c1 := hv1
      simpa [e3] using this
    · have := World.ownsRow.cellAt f0 0 (by simp)
      rw [this]
      rfl
    · have := World.ownsRow.cellAt f1 0 (by simp)
      rw [this]
      rfl
    · have := hx.xa
      rw [e] at this
      exact this
set_option maxRecDepth 20000 in
set_option maxHeartbeats 3200000 in
theorem begun6_any (A : Nat → Addr) (w : World) (hE : EnvP A w) : Calls Tryz.prog 7 #[] w fun e w' => e = .returned (.bool true) ∧ Below w.heap.size w w' := by
  have HP1 : Hid (Calls Tryz.prog 9 #[.string ⟨#[91, 101, 110, 93, 10, 43, 77, 114, 46, 32, 35, 32, 97, 32, 116, 105, 116, 108, 101, 10, 91, 69, 78, 45, 117, 115, 93, 10, 112, 97, 114, 101, 110, 116, 32, 101, 110, 10, 45, 32, 92, 117, 123, 52, 49, 125, 92, 115, 10]⟩] w fun e w' => (∃ g c g0 c0 g1 c1, e = .returned (.tuple #[.agg #[.slice (some ⟨g, 0, none⟩) 2 c], .int .i64 0, .nilIface]) ∧ ∀ W, Below w'.heap.size w' W → KB g c g0 c0 g1 c1 W) ∧ Below w.heap.size w w') := hid0 (by
    refine (parse_any A txt1.data.toList (by decide) w hE.mx hE.sy hE.sq hE.se).mono ?_
    rintro e w' ⟨h, hb⟩
    rw [prs1] at h
    obtain ⟨v, T, hT, hS, rfl⟩ := h
    obtain ⟨g, c, g0, c0, g1, c1, rfl, hk⟩ := kb_of hS hT
    exact ⟨⟨g, c, g0, c0, g1, c1, rfl, hk⟩, hb⟩)
  have HP2 : Hid (∀ W, Below w.heap.size w W → Calls Tryz.prog 9 #[.string ⟨#[91, 101, 110, 93, 10, 10, 42, 32, 97]⟩] W fun e w' => e = .returned (.tuple #[.agg #[.slice none 0 0], .int .i64 3, .iface 216 (.pointer (some (A 1)))]) ∧ Below W.heap.size W w') := hid0 (fun W hW => by
    have hE := hE.below hW
    refine (parse_any A txt2.data.toList (by decide) W hE.mx hE.sy hE.sq hE.se).mono ?_
    rintro e w' ⟨h, hb⟩
    rw [prs2] at h
    exact ⟨h, hb⟩)
  have HPr : Hid (∀ W g c, 2 ≤ c → Below w.heap.size w W → XA W (some ⟨g, 0, none⟩) kB → Calls Tryz.prog 8 #[.agg #[.slice (some ⟨g, 0, none⟩) 2 c]] W fun e w' => e = .returned (.tuple #[.string ⟨#[91, 101, 110, 93, 10, 43, 32, 77, 114, 46, 10, 91, 101, 110, 95, 85, 83, 93, 10, 112, 97, 114, 101, 110, 116, 32, 101, 110, 10, 45, 32, 65, 92, 115, 10]⟩, .nilIface]) ∧ Below W.heap.size W w') := hid0 (fun W g c hc hW hx => by
    have hE := hE.below hW
    have h := print_any A kB (some ⟨g, 0, none⟩) c W hc (by decide) (by decide) hE.mx hE.sq hE.dt hE.se hx
    rw [prt1] at h
    exact h)
  have HE : Hid (∀ W, Below w.heap.size w W → Sents W A) := hid0 (fun W hW => hE.se.below hW)
  have M1 : Hid True := trivial
  clear hE
  go_enter Tryz.func7, Tryz.ntmps7
  go_wp2_with (first
    | (go_at_call 9; clear M1; refine HP1.out.mono ?_; rintro e w1 ⟨⟨g, c, g0, c0, g1, c1, rfl, hk⟩, hb1⟩; have HK := hid0 hk; have HB1 := hid0 hb1; have hs1 := hb1.size; clear hk hb1; have HBx : Hid (Below w1.heap.size w1 (w1.alloc (.cells #[.slice (some ⟨g, 0, none⟩) 2 c] 24))) := hid0 ((Below.refl _ _).alloc (Nat.le_refl _) _); have k0 := (HK.out _ HBx.out).e0; have k1 := (HK.out _ HBx.out).e1; have HXr : Hid (∀ W, Below (w1.alloc (.cells #[.slice (some ⟨g, 0, none⟩) 2 c] 24)).heap.size (w1.alloc (.cells #[.slice (some ⟨g, 0, none⟩) 2 c] 24)) W → W.cell? ⟨w1.heap.size, 0, none⟩ = some (.slice (some ⟨g, 0, none⟩) 2 c)) := hid0 (fun W hW => by rw [cell_of_row _ _ _ _ _ _ ((hW.block w1.heap.size (by simp)).trans (heap_alloc_new w1 _))]; rfl); have M2 : Hid True := trivial)
    | (go_at_call 8; refine (HPr.out _ g c (HK.out _ HBx.out).cp (Below.later HB1.out HBx.out) (HK.out _ HBx.out).xa).mono ?_; rintro e w2 ⟨rfl, hb2⟩; have HB2 := hid0 (Below.later HBx.out hb2); have HB2a := hid0 hb2; clear hb2 k0 k1)
    | (go_at_call 9; clear M2; refine (HP2.out _ (Below.later HB1.out HB2.out)).mono ?_; rintro e w3 ⟨rfl, hb3⟩; have HBy : Hid (Below w1.heap.size w1 (w3.alloc (.cells #[.slice none 0 0] 24))) := hid0 ((Below.later HB2.out hb3).alloc (Below.later HB2.out hb3).size _); have k0 := (HK.out _ HBy.out).e0; have k1 := (HK.out _ HBy.out).e1; have k2 := (HK.out _ HBy.out).b0; have k3 := (HK.out _ HBy.out).b1; have s1 := (HE.out _ (Below.later HB1.out HBy.out)).c1; have s2 := (HE.out _ (Below.later HB1.out HBy.out)).eql 1 1 (by decide) (by decide); have s3 := HXr.out _ ((Below.later HB2a.out hb3).alloc (Below.later HB2a.out hb3).size (.cells #[.slice none 0 0] 24)); clear hb3)
    | fail)
  go_ret
  exact ⟨rfl, Below.later HB1.out HBy.out⟩
end Go.Proofs.YtlfeiadgahdgoaaGreatDoor
namespace Go.Proofs.YtlfeiadgahdgoaaGreatDoor
open Go.RowKit Go.Shelf Go.Lib
/-- The one form of a one form is itself. -/
theorem tag_again {t c : List UInt8} (h : tagF t = some c) : tagF c = some c := by
  unfold tagF at h
  split at h
  · rename_i hv
    obtain rfl := Option.some.inj h
    rw [tagF_form (validP_fine hv.2) hv.1, if_pos hv.2]
  · cases h
theorem tag_is {t c : List UInt8} (h : tagF t = some c) : isTagB (strOf c) = true := by
  unfold isTagB
  rw [strOf_data]
  exact decide_eq_true (tag_again h)
def rootS : ByteArray := ⟨#[114, 111, 111, 116]⟩
structure SecG (s : Sec) : Prop where
  loc : isTagB s.loc = true
  par : s.par = ⟨#[]⟩ ∨ isTagB s.par = true
  root : s.loc = rootS → s.par = ⟨#[]⟩
  ent : ∀ e ∈ s.ed, entF e.2.data.toList = none
structure Inv (S : List Sec) : Prop where
  len : S.length ≤ 500
  ned : nEd S ≤ 20000
  ok : ∀ s ∈ S, SecG s
  pw : S.Pairwise fun x y => x.loc ≠ y.loc
theorem inv_nil : Inv [] := ⟨by simp, by simp [nEd], (fun s hs => by cases hs), .nil⟩
theorem hasL_not {S : List Sec} {t : ByteArray} (h : ¬ hasL S t = true) : ∀ s ∈ S, s.loc ≠ t := fun s hs e => h (by
  unfold hasL
  exact List.any_eq_true.2 ⟨s, hs, decide_eq_true e⟩)
theorem ent_enc {ps : List Nat} (h1 : (toI ps).all scalarP = true) (h2 : 0 < ps.length) (h3 : ps.length ≤ 32) : entF (strOf (encAll (toI ps))).data.toList = none := by
  rw [strOf_data]
  have hu := units_enc (toI ps) h1
  have hl : (unitsOf (encAll (toI ps))).length = ps.length := by
    have := congrArg List.length hu
    simpa [toI] using this
  unfold entF
  rw [if_neg, if_neg (by omega), if_neg (by omega)]
  intro h
  obtain ⟨u, hu1, hu2⟩ := List.any_eq_true.1 h
  have hm : u.1 ∈ toI ps := by rw [← hu]; exact List.mem_map.2 ⟨u, hu1, rfl⟩
  have hs := List.all_eq_true.1 h1 _ hm
  rw [scalar_iff] at hs
  have : u.1 = -1 := by simpa using hu2
  omega
theorem pw_last {P : List Sec} {s s' : Sec} (h : (P ++ [s]).Pairwise fun x y => x.loc ≠ y.loc) (e : s'.loc = s.loc) : (P ++ [s']).Pairwise fun x y => x.loc ≠ y.loc := by
  obtain ⟨h1, _, h3⟩ := List.pairwise_append.1 h
  refine List.pairwise_append.2 ⟨h1, List.pairwise_singleton _ _, fun x hx y hy => ?_⟩
  rw [List.mem_singleton] at hy
  subst hy
  rw [e]
  exact h3 x hx s (by simp)
theorem ok_last {P : List Sec} {s s' : Sec} (h : ∀ x ∈ P ++ [s], SecG x) (h' : SecG s') : ∀ x ∈ P ++ [s'], SecG x := fun x hx => by
  rcases List.mem_append.1 hx with hx | hx
  · exact h x (List.mem_append.2 (.inl hx))
  · rw [List.mem_singleton] at hx
    subst hx
    exact h'
theorem inv_line {S S' : List Sec} {t : List UInt8} (hI : Inv S) (h : lineS S t = .go S') : Inv S' := by
  obtain ⟨hl', hn'⟩ := lineS_lim hI.len hI.ned h
  suffices H : (∀ s ∈ S', SecG s) ∧ S'.Pairwise fun x y => x.loc ≠ y.loc by exact ⟨hl', hn', H.1, H.2⟩
  clear hl' hn'
  unfold lineS at h
  split at h
  · injection h with h; subst h; exact ⟨hI.ok, hI.pw⟩
  · split at h
    · unfold headS at h
      split at h
      · split at h
        · cases h
        · rename_i c hc
          split at h
          · split at h
            · cases h
            · rename_i hh
              injection h with h
              subst h
              refine ⟨fun s hs => ?_, ?_⟩
              · rcases List.mem_append.1 hs with hs | hs
                · exact hI.ok s hs
                · rw [List.mem_singleton] at hs
                  subst hs
                  exact ⟨tag_is hc, .inl rfl, fun _ => rfl, fun e he => by cases he⟩
              · refine List.pairwise_append.2 ⟨hI.pw, List.pairwise_singleton _ _, fun x hx y hy => ?_⟩
                rw [List.mem_singleton] at hy
                subst hy
                exact hasL_not hh x hx
          · cases h
      · cases h
    · split at h
      · unfold parS at h
        split at h
        · split at h
          · cases h
          · rename_i c hc
            split at h
            · cases h
            · rename_i s hs
              obtain ⟨P, e1, e2⟩ := snocS hs
              split at h
              · cases h
              · rename_i hroot
                split at h
                · split at h
                  · injection h with h
                    subst h
                    rw [e2]
                    have ho := hI.ok
                    have hp := hI.pw
                    rw [e1] at ho hp
                    have hg := ho s (by simp)
                    exact ⟨ok_last ho ⟨hg.loc, .inr (tag_is hc), fun e => absurd e hroot, hg.ent⟩, pw_last hp rfl⟩
                  · cases h
                · cases h
        · cases h
      · have key : ∀ ad b, edS S ad b = .go S' → (∀ s ∈ S', SecG s) ∧ S'.Pairwise fun x y => x.loc ≠ y.loc := fun ad b h => by
          unfold edS at h
          split at h
          · cases h
          · rename_i ps _
            split at h
            · rename_i hps
              split at h
              · cases h
              · rename_i s hs
                obtain ⟨P, e1, e2⟩ := snocS hs
                split at h
                · rename_i hlt
                  injection h with h
                  subst h
                  rw [e2]
                  have ho := hI.ok
                  have hp := hI.pw
                  rw [e1] at ho hp
                  have hg := ho s (by simp)
                  refine ⟨ok_last ho ⟨hg.loc, hg.par, hg.root, fun e he => ?_⟩, pw_last hp rfl⟩
                  rcases List.mem_append.1 he with he | he
                  · exact hg.ent e he
                  · rw [List.mem_singleton] at he
                    subst he
                    exact ent_enc hps.1 hps.2 hlt.1
                · cases h
            · cases h
        split at h
        · exact key _ _ h
        · split at h
          · exact key _ _ h
          · cases h
theorem inv_par : ∀ (f : Nat) (S S' : List Sec) (n : Nat) (l : List UInt8), Inv S → parF f S n l = .ok S' → Inv S'
  | 0, S, S', n, l, hI, h => by rw [parF] at h; injection h with h; subst h; exact hI
  | f + 1, S, S', n, l, hI, h => by
    rw [parF] at h
    cases hs : lineS S (lineB (cutN l)) with
    | stop i => rw [hs] at h; cases h
    | go S1 =>
      rw [hs] at h
      simp only at h
      have h1 := inv_line hI hs
      split at h
      · exact inv_par f S1 S' _ _ h1 h
      · injection h with h; subst h; exact h1
theorem inv_prs {l : List UInt8} {S : List Sec} (h : prsL l = .ok S) : Inv S := inv_par _ [] S 0 l inv_nil h
theorem firstN_all (f : Nat → Option Nat) : ∀ (m i : Nat), (∀ j, i ≤ j → j < i + m → f j = none) → firstN f i m = none
  | 0, _, _ => rfl
  | m + 1, i, h => by
    rw [firstN, h i (Nat.le_refl _) (by omega)]
    exact firstN_all f m (i + 1) (fun j h1 h2 => h j (by omega) (by omega))
/-- What was read may be. -/
theorem inv_chk {S : List Sec} (h : Inv S) : chkE entE S = none := by
  unfold chkE
  rw [if_neg (by have := h.len; have := h.ned; omega)]
  refine firstN_all _ _ _ (fun k _ hk => ?_)
  have hk2 : k < S.length := by omega
  rw [fSec_at _ _ _ hk2]
  have hg := h.ok S[k] (List.getElem_mem hk2)
  unfold secE
  rw [if_neg (by rw [hg.loc]; decide), if_neg, if_neg, if_neg]
  · refine firstN_all _ _ _ (fun j _ hj => ?_)
    have hj2 : j < S[k].ed.length := by omega
    rw [fE_at _ _ _ hj2]
    exact hg.ent _ (List.getElem_mem hj2)
  · rintro ⟨h1, h2⟩
    rw [beq_nil] at h1
    rw [beq_root] at h2
    exact of_decide_eq_false h1 (hg.root (of_decide_eq_true h2))
  · rintro ⟨h1, h2⟩
    rw [beq_nil] at h1
    rcases hg.par with h3 | h3
    · exact of_decide_eq_false h1 h3
    · rw [h3] at h2; cases h2
  · intro hh
    obtain ⟨i, hi, e⟩ := (hasL_iff _ _).1 hh
    rw [List.length_take] at hi
    rw [List.getElem_take] at e
    exact List.pairwise_iff_getElem.1 h.pw i k (by omega) hk2 (by omega) e
/-- .. and what may be is so. -/
theorem chk_inv {S : List Sec} (h : chkE entE S = none) : Inv S := by
  unfold chkE at h
  split at h
  · cases h
  · rename_i h0
    have hk : ∀ k (hk : k < S.length), secE entE S[k] (S.take k) = none := fun k hk => by
      have := firstN_of _ _ _ h k (Nat.zero_le _) (by omega)
      rw [fSec_at _ _ _ hk] at this
      exact this
    refine ⟨by omega, by omega, fun s hs => ?_, ?_⟩
    · obtain ⟨k, hk2, rfl⟩ := List.getElem_of_mem hs
      have h1 := hk k hk2
      have hok := secE_ok (E := entE) (fun _ => rfl) h1
      unfold secE at h1
      split at h1
      · cases h1
      · split at h1
        · cases h1
        · split at h1
          · cases h1
          · rename_i h3
            split at h1
            · cases h1
            · rename_i h4
              refine ⟨hok.loc, ?_, fun e => ?_, hok.ent⟩
              · by_cases e : S[k].par = ⟨#[]⟩
                · exact .inl e
                · right
                  exact hok.par (by rw [beq_nil]; exact decide_eq_false e)
              · by_cases e2 : S[k].par = ⟨#[]⟩
                · exact e2
                · exact absurd ⟨by rw [beq_nil]; exact decide_eq_false e2, by rw [beq_root]; exact decide_eq_true e⟩ h4
    · refine List.pairwise_iff_getElem.2 (fun i j hi hj hij e => ?_)
      have h1 := hk j hj
      unfold secE at h1
      split at h1
      · cases h1
      · rw [if_pos] at h1
        · cases h1
        · exact (hasL_iff _ _).2 ⟨i, by rw [List.length_take]; omega, by rw [List.getElem_take]; exact e⟩
/-- How long a tag is. -/
theorem tag_two {s : ByteArray} (h : isTagB s = true) : 2 ≤ s.size ∧ s.size ≤ 64 := by
  have h0 : tagF s.data.toList = some s.data.toList := of_decide_eq_true h
  obtain ⟨h1, h2, _, _⟩ := tagF_le h0
  have hl : s.data.toList.length = s.size := bsize s
  have hj := congrArg List.length (join_pieces s.data.toList)
  rw [List.length_map] at hj
  simp only [validP, Bool.and_eq_true, decide_eq_true_eq] at h2
  obtain ⟨⟨_, h3⟩, _⟩ := h2
  cases hp : pieces s.data.toList with
  | nil => exact absurd hp (pieces_ne _)
  | cons p r =>
    rw [hp] at h3 hj
    simp only [List.headD_cons] at h3
    cases r with
    | nil => rw [joinU_one] at hj; omega
    | cons q r => rw [joinU_cons] at hj; simp at hj; omega
end Go.Proofs.YtlfeiadgahdgoaaGreatDoor
namespace Go.Proofs.YtlfeiadgahdgoaaGreatDoor
open Go.RowKit
theorem fits_take (n : Nat) : ∀ (lo hi j : Nat) (l : List UInt8), n ≤ j → fits lo hi n (l.take j) = fits lo hi n l := by
  induction n with
  | zero => intro lo hi j l _; rw [fits_zero, fits_zero]
  | succ n ih =>
    intro lo hi j l hj
    cases l with
    | nil => rw [List.take_nil]
    | cons b l =>
      obtain ⟨j', rfl⟩ : ∃ j', j = j' + 1 := ⟨j - 1, by omega⟩
      rw [List.take_succ_cons, fits_cons, fits_cons, ih 128 191 j' l (by omega)]
theorem fits_short (n : Nat) : ∀ (lo hi j : Nat) (l : List UInt8), j ≤ n → fits lo hi n l = n → fits lo hi n (l.take j) = j := by
  induction n with
  | zero => intro lo hi j l hj _; rw [fits_zero]; omega
  | succ n ih =>
    intro lo hi j l hj h
    cases l with
    | nil => rw [fits_nil] at h; omega
    | cons b l =>
      cases j with
      | zero => rw [List.take_zero, fits_nil]
      | succ j =>
        rw [fits_cons] at h
        rw [List.take_succ_cons, fits_cons]
        split at h
        · rename_i hb
          rw [if_pos hb, ih 128 191 j l (by omega) (by omega)]
        · omega
/-- A well-formed sequence, written out. -/
theorem good_iff {l : List UInt8} {p m : Nat} (h : goodOf l = some (p, m)) : ∃ a r i, l = a :: r ∧ rowOf a.toNat = some i ∧ m = tSz i ∧ fits (tLo2 i) (tHi2 i) (tSz i - 1) r = tSz i - 1 ∧ p = (ptL (a :: r) ((a.toNat : Int) - tMk i) (tSz i - 1)).toNat := by
  cases l with
  | nil => simp [goodOf, begunOf] at h
  | cons a r =>
    cases hr : rowOf a.toNat with
    | none => rw [good_none hr] at h; cases h
    | some i =>
      rw [good_some hr] at h
      split at h
      · cases h
      · rename_i hf
        have := fits_max (tLo2 i) (tHi2 i) (tSz i - 1) r
        have hs := sz_pos i (rowOf_lt hr)
        simp only [Option.some.injEq, Prod.mk.injEq] at h
        exact ⟨a, r, i, rfl, hr, h.2.symm, by omega, h.1.symm⟩
theorem good_mk {a : UInt8} {r : List UInt8} {i : Nat} (hr : rowOf a.toNat = some i) (hf : fits (tLo2 i) (tHi2 i) (tSz i - 1) r = tSz i - 1) : goodOf (a :: r) = some ((ptL (a :: r) ((a.toNat : Int) - tMk i) (tSz i - 1)).toNat, tSz i) := by
  have hs := sz_pos i (rowOf_lt hr)
  rw [good_some hr, if_neg (by omega)]
theorem good_take {l : List UInt8} {p m : Nat} (h : goodOf l = some (p, m)) (j : Nat) (hj : m ≤ j) : goodOf (l.take j) = some (p, m) := by
  obtain ⟨a, r, i, rfl, hr, rfl, hf, rfl⟩ := good_iff h
  have hs := sz_pos i (rowOf_lt hr)
  obtain ⟨j', rfl⟩ : ∃ j', j = j' + 1 := ⟨j - 1, by omega⟩
  have e := ptL_take (a :: r) ((a.toNat : Int) - tMk i) (j' + 1) (tSz i - 1) (by omega)
  rw [List.take_succ_cons] at e
  rw [List.take_succ_cons, good_mk hr (by rw [fits_take _ _ _ j' r (by omega)]; exact hf), e]
theorem good_untake {l : List UInt8} {p m : Nat} (j : Nat) (h : goodOf (l.take j) = some (p, m)) : goodOf l = some (p, m) := by
  obtain ⟨a, r, i, e, hr, rfl, hf, rfl⟩ := good_iff h
  have hs := sz_pos i (rowOf_lt hr)
  cases l with
  | nil => simp at e
  | cons b l =>
    cases j with
    | zero => simp at e
    | succ j =>
      rw [List.take_succ_cons] at e
      simp only [List.cons.injEq] at e
      obtain ⟨rfl, rfl⟩ := e
      have hle := fits_le (tLo2 i) (tHi2 i) (tSz i - 1) (l.take j)
      rw [List.length_take] at hle
      rw [hf] at hle
      rw [fits_take _ _ _ j l (by omega)] at hf
      have e := ptL_take (b :: l) ((b.toNat : Int) - tMk i) (j + 1) (tSz i - 1) (by omega)
      rw [List.take_succ_cons] at e
      rw [good_mk hr hf, e]
theorem good_len {l : List UInt8} {p m : Nat} (h : goodOf l = some (p, m)) : m ≤ l.length ∧ 1 ≤ m ∧ m ≤ 4 := by
  obtain ⟨a, r, i, rfl, hr, rfl, hf, rfl⟩ := good_iff h
  have hs := sz_pos i (rowOf_lt hr)
  have hle := fits_le (tLo2 i) (tHi2 i) (tSz i - 1) r
  simp only [List.length_cons]
  omega
/-- The bytes behind the lead byte. -/
theorem good_more {l : List UInt8} {p m : Nat} (h : goodOf l = some (p, m)) (j : Nat) (h0 : 0 < j) (hj : j < m) : 128 ≤ (l.getD j 0).toNat ∧ (l.getD j 0).toNat ≤ 191 := by
  obtain ⟨a, r, i, rfl, hr, rfl, hf, rfl⟩ := good_iff h
  have hs := sz_pos i (rowOf_lt hr)
  exact (good_parts hr (by omega)).2.2.2 j h0 hj
theorem row_lead {c i : Nat} (hc : c < 256) (h : rowOf c = some i) : c < 128 ∨ 194 ≤ c := by
  rcases row_cases c hc with q | q | q | q | q | q | q | q | q | q | q | q | q
  case inr.inl => rw [q.1] at h; cases h
  case inr.inr.inl => rw [q.1] at h; cases h
  all_goals omega
/-- A beginning, written out. -/
theorem begins_iff (l : List UInt8) : beginsL l = true ↔ ∃ a r i, l = a :: r ∧ rowOf a.toNat = some i ∧ fits (tLo2 i) (tHi2 i) (tSz i - 1) r = r.length ∧ r.length + 1 < tSz i := by
  cases l with
  | nil => simp [beginsL, begunOf]
  | cons a r =>
    cases hr : rowOf a.toNat with
    | none =>
      rw [beginsL, begun_none hr]
      simp only [Bool.false_eq_true, false_iff]
      rintro ⟨a', r', i, e, h, _⟩
      simp only [List.cons.injEq] at e
      obtain ⟨rfl, rfl⟩ := e
      rw [hr] at h; cases h
    | some i =>
      rw [begins_some hr]
      simp only [List.length_cons, Bool.and_eq_true, beq_iff_eq, decide_eq_true_eq]
      constructor
      · intro h; exact ⟨a, r, i, rfl, hr, by omega, h.2⟩
      · rintro ⟨a', r', i', e, h, h1, h2⟩
        simp only [List.cons.injEq] at e
        obtain ⟨rfl, rfl⟩ := e
        obtain rfl := Option.some.inj (hr.symm.trans h)
        exact ⟨by omega, h2⟩
/-- A part of a well-formed sequence is a beginning. -/
theorem good_begins {l : List UInt8} {p m : Nat} (h : goodOf l = some (p, m)) (q : Nat) (h0 : 0 < q) (hq : q < m) : beginsL (l.take q) = true := by
  have hl := good_len h
  obtain ⟨a, r, i, rfl, hr, rfl, hf, rfl⟩ := good_iff h
  obtain ⟨q', rfl⟩ : ∃ q', q = q' + 1 := ⟨q - 1, by omega⟩
  simp only [List.length_cons] at hl
  rw [begins_iff, List.take_succ_cons]
  refine ⟨a, r.take q', i, rfl, hr, ?_, ?_⟩
  · rw [List.length_take, fits_short _ _ _ q' r (by omega) hf]; omega
  · rw [List.length_take]; omega
theorem cutFrom_le (l : List UInt8) (n : Nat) : cutFrom l n ≤ n := by
  induction n with
  | zero => simp [cutFrom]
  | succ n ih => rw [cutFrom]; split <;> omega
theorem cutFrom_max (l : List UInt8) (n q : Nat) (hq : q ≤ n) (hb : beginsL (l.drop (l.length - q)) = true) : q ≤ cutFrom l n := by
  induction n with
  | zero => omega
  | succ n ih =>
    rw [cutFrom]
    split
    · exact hq
    · rename_i h
      by_cases e : q = n + 1
      · subst e; exact absurd hb h
      · exact ih (by omega)
theorem cutFrom_spec (l : List UInt8) (n : Nat) (h : cutFrom l n ≠ 0) : beginsL (l.drop (l.length - cutFrom l n)) = true := by
  induction n with
  | zero => simp [cutFrom] at h
  | succ n ih =>
    rw [cutFrom] at h ⊢
    split
    · assumption
    · rename_i hb
      rw [if_neg hb] at h
      exact ih h
theorem cutOf_le (l : List UInt8) : cutOf l ≤ 3 ∧ cutOf l ≤ l.length := by
  have := cutFrom_le l (min 3 l.length)
  rw [cutOf]
  omega
/-- No unit of the whole goes over the place that Cut tells. -/
theorem no_straddle (A B : List UInt8) (k p m : Nat) (hk : k < A.length - cutOf A) (h : goodOf ((A ++ B).drop k) = some (p, m)) : k + m ≤ A.length - cutOf A := by
  have hc := cutOf_le A
  have hm := good_len h
  rcases Nat.lt_or_ge (A.length - cutOf A) (k + m) with hgt | hle
  · exfalso
    rcases Nat.lt_or_ge A.length (k + m) with h1 | h1
    · have hb := good_begins h (A.length - k) (by omega) (by omega)
      have e : ((A ++ B).drop k).take (A.length - k) = A.drop (A.length - (A.length - k)) := by
        rw [List.drop_append_of_le_length (by omega), List.take_append_of_le_length (by rw [List.length_drop]; omega), List.take_of_length_le (by rw [List.length_drop]; omega)]
        congr 1; omega
      rw [e] at hb
      have := cutFrom_max A (min 3 A.length) (A.length - k) (by omega) hb
      rw [cutOf] at hk
      omega
    · have hc0 : cutOf A ≠ 0 := by omega
      have hb := cutFrom_spec A (min 3 A.length) (by rw [cutOf] at hc0; exact hc0)
      rw [← cutOf, begins_iff] at hb
      obtain ⟨a, r, i, e, hr, _, _⟩ := hb
      have hmo := good_more h (A.length - cutOf A - k) (by omega) (by omega)
      have ha : ((A ++ B).drop k).getD (A.length - cutOf A - k) 0 = a := by
        have e2 := congrArg (·[0]?) e
        simp only [List.getElem?_drop, List.getElem?_cons_zero, Nat.add_zero] at e2
        rw [List.getD_eq_getElem?_getD, List.getElem?_drop, show k + (A.length - cutOf A - k) = A.length - cutOf A by omega, List.getElem?_append_left (by omega), e2]
        rfl
      rw [ha] at hmo
      have := row_lead a.toNat_lt hr
      omega
  · exact hle
theorem uni_same (A B : List UInt8) (k : Nat) (hk : k < A.length - cutOf A) :
    uniOf ((A ++ B).drop k) = uniOf ((A.take (A.length - cutOf A)).drop k) ∧ k + (uniOf ((A ++ B).drop k)).2 ≤ A.length - cutOf A := by
  have hc := cutOf_le A
  have e : (A.take (A.length - cutOf A)).drop k = ((A ++ B).drop k).take (A.length - cutOf A - k) := by
    rw [List.drop_append_of_le_length (by omega), List.take_append_of_le_length (by rw [List.length_drop]; omega), List.drop_take]
  have hg : goodOf ((A ++ B).drop k) = goodOf (((A ++ B).drop k).take (A.length - cutOf A - k)) := by
    cases h : goodOf ((A ++ B).drop k) with
    | some q =>
      obtain ⟨p, m⟩ := q
      have := no_straddle A B k p m hk h
      rw [good_take h _ (by omega)]
    | none =>
      cases h2 : goodOf (((A ++ B).drop k).take (A.length - cutOf A - k)) with
      | none => rfl
      | some q =>
        obtain ⟨p, m⟩ := q
        rw [good_untake _ h2] at h
        cases h
  constructor
  · rw [uniOf, uniOf, e, ← hg]
  · rw [uniOf]
    cases h : goodOf ((A ++ B).drop k) with
    | none => show k + 1 ≤ _; omega
    | some q =>
      obtain ⟨p, m⟩ := q
      exact no_straddle A B k p m hk h
theorem units_head (A B : List UInt8) : ∀ (d k : Nat), A.length - cutOf A - k ≤ d → k ≤ A.length - cutOf A → unitsAt (A ++ B) k = unitsAt (A.take (A.length - cutOf A)) k ++ unitsAt (A ++ B) (A.length - cutOf A) := by
  have hc := cutOf_le A
  intro d
  induction d with
  | zero =>
    intro k h1 h2
    obtain rfl : k = A.length - cutOf A := by omega
    rw [unitsAt_end (A.take (A.length - cutOf A)) _ (by rw [List.length_take]; omega), List.nil_append]
  | succ d ih =>
    intro k h1 h2
    by_cases hk : k = A.length - cutOf A
    · subst hk
      rw [unitsAt_end (A.take (A.length - cutOf A)) _ (by rw [List.length_take]; omega), List.nil_append]
    · obtain ⟨u1, u2⟩ := uni_same A B k (by omega)
      have hs : 1 ≤ (uniOf ((A ++ B).drop k)).2 := by
        cases h : (A ++ B).drop k with
        | nil => have := congrArg List.length h; simp at this; omega
        | cons a r => exact (uni_size a r).1
      rw [unitsAt_step (A ++ B) k (by simp; omega), unitsAt_step (A.take (A.length - cutOf A)) k (by rw [List.length_take]; omega), ← u1, ih _ (by omega) u2]
      rfl
def shiftU (n : Nat) (us : List (Int × Nat × Nat)) : List (Int × Nat × Nat) := us.map fun u => (u.1, u.2.1 + n, u.2.2 + n)
theorem unitsF_shift (f : Nat) : ∀ (n k : Nat) (l : List UInt8), unitsF f (k + n) l = shiftU n (unitsF f k l) := by
  induction f with
  | zero => intro n k l; rfl
  | succ f ih =>
    intro n k l
    cases l with
    | nil => rfl
    | cons a l =>
      rw [unitsF, unitsF, show k + n + (uniOf (a :: l)).2 = k + (uniOf (a :: l)).2 + n by omega, ih]
      rfl
theorem units_rest (L : List UInt8) (n : Nat) : unitsAt L n = shiftU n (unitsOf (L.drop n)) := by
  rw [unitsOf, unitsAt, unitsAt, List.drop_zero, Nat.sub_zero, List.length_drop]
  have := unitsF_shift (L.length - n) n 0 (L.drop n)
  rw [Nat.zero_add] at this
  exact this
/-- The units of the whole: those of the beginning, then those of the rest. -/
theorem units_pieces (A B : List UInt8) : unitsOf (A ++ B) = unitsOf (A.take (A.length - cutOf A)) ++ shiftU (A.length - cutOf A) (unitsOf (A.drop (A.length - cutOf A) ++ B)) := by
  have hc := cutOf_le A
  have h := units_head A B _ 0 (Nat.le_refl _) (Nat.zero_le _)
  rw [units_rest (A ++ B) (A.length - cutOf A), List.drop_append_of_le_length (by omega)] at h
  exact h
end Go.Proofs.YtlfeiadgahdgoaaGreatDoor
namespace Go.Proofs.YtlfeiadgahdgoaaGreatDoor
open Go.RowKit Go.Shelf Go.Lib
theorem index_at (c : UInt8) (r : List UInt8) : ∀ (x : List UInt8), c ∉ x → index (x ++ c :: r) [c] = (x.length : Int)
  | [], _ => by rw [List.nil_append, index_eq]; rfl
  | a :: x, h => by
    have h1 : a ≠ c := fun e => h (by rw [e]; exact List.mem_cons_self)
    have ih := index_at c r x (fun hm => h (List.mem_cons_of_mem _ hm))
    rw [List.cons_append, index_ne a c _ h1, ih, if_neg (by simp), List.length_cons]
    omega
theorem cut_at (c : UInt8) (x r : List UInt8) (h : c ∉ x) : Lib.cut (x ++ c :: r) [c] = (x, r, true) := by
  unfold Lib.cut
  rw [index_at c r x h, if_pos (by omega)]
  simp
theorem cut_none : Lib.cut [] [10] = ([], [], false) := by decide
theorem suffix_not {x : List UInt8} {c : UInt8} (h : x.getLast? ≠ some c) : Lib.hasSuffix x [c] = false := by
  unfold Lib.hasSuffix
  rw [Bool.eq_false_iff]
  intro hs
  obtain ⟨t, ht⟩ := List.isSuffixOf_iff_suffix.1 hs
  exact h (by rw [← ht]; simp)
theorem cutN_at {x r : List UInt8} (h10 : (10 : UInt8) ∉ x) (h13 : x.getLast? ≠ some 13) : cutN (x ++ 10 :: r) = x := by
  unfold cutN
  rw [cut_at 10 x r h10, if_pos rfl]
  unfold Lib.trimSuffix
  rw [suffix_not h13, if_neg (by decide)]
theorem parA_line {S : List Sec} {n : Nat} {x r : List UInt8} (h10 : (10 : UInt8) ∉ x) (h13 : x.getLast? ≠ some 13) : parA S n (x ++ 10 :: r) = match lineS S (lineB x) with
    | .stop i => .stop (n + 1) i
    | .go S' => parA S' (n + 1) r := by
  rw [parA_step, cutN_at h10 h13, cut_at 10 x r h10]
  cases lineS S (lineB x) with
  | stop i => rfl
  | go S' => simp
theorem parA_end (S : List Sec) (n : Nat) : parA S n [] = .ok S := by
  rw [parA_step]
  have e : lineB (cutN []) = [] := by decide
  rw [e, cut_none]
  unfold lineS
  rw [if_pos rfl]
  simp
/-- Neither a comment nor an escape. -/
def calm (b : UInt8) : Bool := b != 35 && b != 92
theorem noC_app : ∀ (x r : List UInt8), (∀ b ∈ x, calm b = true) → noC (x ++ r) = x ++ noC r
  | [], _, _ => rfl
  | a :: x, r, h => by
    have ha := h a List.mem_cons_self
    simp only [calm, Bool.and_eq_true, bne_iff_ne, ne_eq] at ha
    rw [List.cons_append, noC_else _ ha.1 ha.2, noC_app x r (fun b hb => h b (List.mem_cons_of_mem _ hb)), List.cons_append]
theorem noC_nil : noC [] = [] := by simp [noC]
theorem noC_calm {x : List UInt8} (h : ∀ b ∈ x, calm b = true) : noC x = x := by
  have := noC_app x [] h
  rw [List.append_nil, noC_nil, List.append_nil] at this
  exact this
def blankB (b : UInt8) : Bool := [32, 9].contains b
theorem trimL_id {a : UInt8} {x : List UInt8} (h : blankB a = false) : Lib.trimLeftS (a :: x) [32, 9] = a :: x := by
  unfold Lib.trimLeftS
  rw [List.dropWhile_cons, if_neg (by unfold blankB at h; rw [h]; decide)]
theorem trimL_one {x : List UInt8} : Lib.trimLeftS (32 :: x) [32, 9] = Lib.trimLeftS x [32, 9] := by
  unfold Lib.trimLeftS
  rw [List.dropWhile_cons, if_pos (by decide)]
theorem trimR_id {b : UInt8} {x : List UInt8} (h : blankB b = false) : Lib.trimRightS (x ++ [b]) [32, 9] = x ++ [b] := by
  unfold Lib.trimRightS
  rw [List.reverse_append, List.reverse_singleton, List.singleton_append, List.dropWhile_cons, if_neg (by unfold blankB at h; rw [h]; decide)]
  simp
theorem trimS_id {a b : UInt8} {x y : List UInt8} (e : a :: x = y ++ [b]) (ha : blankB a = false) (hb : blankB b = false) : Lib.trimS (a :: x) [32, 9] = a :: x := by
  unfold Lib.trimS
  rw [e, trimR_id hb, ← e, trimL_id ha]
/-- Bytes of a tag. -/
theorem fine_calm (b : UInt8) : fine b = true → calm b = true ∧ b ≠ 10 ∧ b ≠ 13 ∧ blankB b = false ∧ b ≠ 91 ∧ b ≠ 93 := all256 (p := fun b => fine b = true → calm b = true ∧ b ≠ 10 ∧ b ≠ 13 ∧ blankB b = false ∧ b ≠ 91 ∧ b ≠ 93) (by decide +kernel) b
structure TagL (l : List UInt8) : Prop where
  tag : tagF l = some l
  fine : ∀ b ∈ l, fine b = true
  ne : l ≠ []
theorem tagL_of {s : ByteArray} (h : isTagB s = true) : TagL s.data.toList := by
  have h0 : tagF s.data.toList = some s.data.toList := of_decide_eq_true h
  refine ⟨h0, validP_fine (tagF_le h0).2.1, fun e => ?_⟩
  have := (tag_two h).1
  rw [← bsize, e] at this
  simp at this
theorem ends {l : List UInt8} (h : l ≠ []) : ∃ a x y b, l = a :: x ∧ l = y ++ [b] := by
  obtain ⟨a, x, rfl⟩ : ∃ a x, l = a :: x := by cases l with
    | nil => exact absurd rfl h
    | cons a x => exact ⟨a, x, rfl⟩
  exact ⟨a, x, _, _, rfl, (List.dropLast_concat_getLast h).symm⟩
theorem TagL.trimS {l : List UInt8} (h : TagL l) : Lib.trimS l [32, 9] = l := by
  obtain ⟨a, x, y, b, e1, e2⟩ := ends h.ne
  have ha := h.fine a (by rw [e1]; simp)
  have hb := h.fine b (by rw [e2]; simp)
  rw [e1]
  exact trimS_id (e1.symm.trans e2) (fine_calm a ha).2.2.2.1 (fine_calm b hb).2.2.2.1
theorem TagL.trimL {l : List UInt8} (h : TagL l) : Lib.trimLeftS l [32, 9] = l := by
  obtain ⟨a, x, y, b, e1, _⟩ := ends h.ne
  rw [e1]
  exact trimL_id (fine_calm a (h.fine a (by rw [e1]; simp))).2.2.2.1
theorem hasL_of {S : List Sec} {t : ByteArray} (h : ∀ s ∈ S, s.loc ≠ t) : ¬ hasL S t = true := fun hh => by
  unfold hasL at hh
  obtain ⟨s, hs, e⟩ := List.any_eq_true.1 hh
  exact h s hs (of_decide_eq_true e)
theorem last_app (x : List UInt8) (b : UInt8) : (x ++ [b]).getLast? = some b := by simp
/-- A head's line. -/
theorem line_head {S : List Sec} {n : Nat} {loc : ByteArray} {r : List UInt8} (ht : isTagB loc = true) (hl : S.length < 500) (hd : ∀ s ∈ S, s.loc ≠ loc) : parA S n ([91] ++ loc.data.toList ++ [93, 10] ++ r) = parA (S ++ [⟨loc, ⟨#[]⟩, []⟩]) (n + 1) r := by
  have hT := tagL_of ht
  have e0 : [91] ++ loc.data.toList ++ [93, 10] ++ r = (91 :: loc.data.toList ++ [93]) ++ 10 :: r := by simp
  rw [e0, parA_line]
  rotate_left
  · intro hm
    rw [List.mem_append, List.mem_cons, List.mem_singleton] at hm
    rcases hm with (h | h) | h
    · cases h
    · exact (fine_calm _ (hT.fine _ h)).2.1 rfl
    · cases h
  · rw [last_app]; decide
  have e1 : noC (91 :: loc.data.toList ++ [93]) = 91 :: loc.data.toList ++ [93] := noC_calm (fun b hb => by
    rw [List.mem_append, List.mem_cons, List.mem_singleton] at hb
    rcases hb with (h | h) | h
    · subst h; decide
    · exact (fine_calm _ (hT.fine _ h)).1
    · subst h; decide)
  have e2 : lineB (91 :: loc.data.toList ++ [93]) = 91 :: loc.data.toList ++ [93] := by
    unfold lineB
    rw [e1]
    exact trimS_id (y := 91 :: loc.data.toList) rfl (by decide) (by decide)
  have e3 : lineS S (91 :: loc.data.toList ++ [93]) = .go (S ++ [⟨loc, ⟨#[]⟩, []⟩]) := by
    unfold lineS
    rw [if_neg (by simp), if_pos (by simp [Lib.hasPrefix])]
    have e4 : Lib.trimPrefix (91 :: loc.data.toList ++ [93]) [91] = loc.data.toList ++ [93] := by simp [Lib.trimPrefix, Lib.hasPrefix]
    rw [e4]
    unfold headS
    have e5 : Lib.hasSuffix (loc.data.toList ++ [93]) [93] = true := List.isSuffixOf_iff_suffix.2 ⟨_, rfl⟩
    have e6 : Lib.trimSuffix (loc.data.toList ++ [93]) [93] = loc.data.toList := by unfold Lib.trimSuffix; rw [if_pos e5]; simp
    have e7 : strOf loc.data.toList = loc := rfl
    rw [if_pos e5, e6, hT.trimS, hT.tag]
    simp only
    rw [if_pos hl, e7, if_neg (hasL_of hd)]
  rw [e2, e3]
/-- A parent's line. -/
theorem line_par {P : List Sec} {n : Nat} {loc par : ByteArray} {r : List UInt8} (ht : isTagB par = true) (hr : loc ≠ rootS) : parA (P ++ [⟨loc, ⟨#[]⟩, []⟩]) n ([112, 97, 114, 101, 110, 116, 32] ++ par.data.toList ++ [10] ++ r) = parA (P ++ [⟨loc, par, []⟩]) (n + 1) r := by
  have hT := tagL_of ht
  obtain ⟨a, x, y, b, q1, q2⟩ := ends hT.ne
  have e0 : [112, 97, 114, 101, 110, 116, 32] ++ par.data.toList ++ [10] ++ r = ([112, 97, 114, 101, 110, 116, 32] ++ par.data.toList) ++ 10 :: r := by simp
  have hb : b ∈ par.data.toList := by rw [q2]; simp
  have hl : [112, 97, 114, 101, 110, 116, 32] ++ par.data.toList = ([112, 97, 114, 101, 110, 116, 32] ++ y) ++ [b] := by rw [q2, List.append_assoc]
  rw [e0, parA_line]
  rotate_left
  · intro hm
    rcases List.mem_append.1 hm with h | h
    · revert h; decide
    · exact (fine_calm _ (hT.fine _ h)).2.1 rfl
  · rw [hl, last_app]
    intro h
    injection h with h
    exact (fine_calm _ (hT.fine _ hb)).2.2.1 h
  have e1 : noC ([112, 97, 114, 101, 110, 116, 32] ++ par.data.toList) = [112, 97, 114, 101, 110, 116, 32] ++ par.data.toList := noC_calm (fun c hc => by
    rcases List.mem_append.1 hc with h | h
    · clear hc
      revert h c
      decide
    · exact (fine_calm _ (hT.fine _ h)).1)
  have e2 : lineB ([112, 97, 114, 101, 110, 116, 32] ++ par.data.toList) = [112, 97, 114, 101, 110, 116, 32] ++ par.data.toList := by
    unfold lineB
    rw [e1]
    have hl2 : (112 : UInt8) :: ([97, 114, 101, 110, 116, 32] ++ par.data.toList) = ([112, 97, 114, 101, 110, 116, 32] ++ y) ++ [b] := hl
    exact trimS_id hl2 (by decide) (fine_calm b (hT.fine b hb)).2.2.2.1
  have e3 : lineS (P ++ [⟨loc, ⟨#[]⟩, []⟩]) ([112, 97, 114, 101, 110, 116, 32] ++ par.data.toList) = .go (P ++ [⟨loc, par, []⟩]) := by
    unfold lineS
    rw [if_neg (by simp), if_neg (by simp [Lib.hasPrefix, List.isPrefixOf]), if_pos (by simp [Lib.hasPrefix, parW, List.isPrefixOf])]
    have e4 : Lib.trimPrefix ([112, 97, 114, 101, 110, 116, 32] ++ par.data.toList) parW = 32 :: par.data.toList := by simp [Lib.trimPrefix, Lib.hasPrefix, parW, List.isPrefixOf]
    have e7 : strOf par.data.toList = par := rfl
    rw [e4]
    unfold parS
    rw [trimL_one, hT.trimL, if_pos (by simp), hT.tag]
    simp only [List.getLast?_append, List.getLast?_singleton, Option.some_or, List.dropLast_concat]
    rw [if_neg (show ¬ loc = (⟨#[114, 111, 111, 116]⟩ : ByteArray) from hr), e7]
    simp
  rw [e2, e3]
end Go.Proofs.YtlfeiadgahdgoaaGreatDoor
namespace Go.Proofs.YtlfeiadgahdgoaaGreatDoor
open Go.RowKit Go.Shelf Go.Lib
/-- The bytes of a well-formed sequence are those of its point. -/
theorem good_take_enc {l : List UInt8} {p m : Nat} (h : goodOf l = some (p, m)) : encL p = l.take m ∧ scalarP (p : Int) = true := by
  rw [← refGood_eq] at h
  cases l with
  | nil => cases h
  | cons a r =>
    rw [ref_cons a r _ rfl] at h
    split at h
    · cases h
    · split at h
      · cases h
      · unfold refTest at h
        split at h
        · rename_i hc
          injection h with h
          injection h with h1 h2
          rw [← h1, ← h2]
          refine ⟨hc.2, ?_⟩
          have hs := (scalar_iff _).1 hc.1
          rw [show (((ptL (a :: r) ((a.toNat : Int) - offL (sizeL a.toNat)) (sizeL a.toNat - 1)).toNat : Nat) : Int) = ptL (a :: r) ((a.toNat : Int) - offL (sizeL a.toNat)) (sizeL a.toNat - 1) by omega]
          exact hc.1
        · cases h
theorem good_ascii (a : UInt8) (r : List UInt8) (h : a.toNat < 128) : goodOf (a :: r) = some (a.toNat, 1) := by
  rw [← refGood_eq, ref_cons a r 1 (size1 h), if_neg (by decide), if_neg (by omega), test1 a r h]
theorem uni_ascii (a : UInt8) (r : List UInt8) (h : a.toNat < 128) : uniOf (a :: r) = ((a.toNat : Int), 1) := by
  unfold uniOf
  rw [good_ascii a r h]
/-- A point as it is written; true: at an end of its entry. -/
def wrP (q : Nat × Bool) : List UInt8 :=
  if q.1 = 92 then [92, 92] else if q.1 = 35 then [92, 35] else if q.1 = 32 ∧ q.2 = true then [92, 115] else if q.1 < 32 ∨ q.1 = 127 then [92, 117, 123] ++ hexL q.1 ++ [125] else encL q.1
def wrQ (qs : List (Nat × Bool)) : List UInt8 := qs.flatMap wrP
theorem wrQ_cons (q : Nat × Bool) (qs : List (Nat × Bool)) : wrQ (q :: qs) = wrP q ++ wrQ qs := rfl
theorem hex_all : ∀ i : Fin 128, (125 : UInt8) ∉ hexL i.val ∧ 1 ≤ (hexL i.val).length ∧ (∀ c ∈ hexL i.val, isHx c = true) ∧ hexN (hexL i.val) = i.val ∧ (∀ c ∈ hexL i.val, calm c = true ∧ c ≠ 10) := by decide +kernel
theorem hex_ok {p : Nat} (h : p < 128) : (125 : UInt8) ∉ hexL p ∧ 1 ≤ (hexL p).length ∧ (∀ c ∈ hexL p, isHx c = true) ∧ hexN (hexL p) = p ∧ (∀ c ∈ hexL p, calm c = true ∧ c ≠ 10) := hex_all ⟨p, h⟩
theorem esc_pre (b : UInt8) (r : List UInt8) : (uniOf (92 :: b :: r)).1 = 92 := by rw [uni_ascii 92 _ (by decide)]; rfl
/-- What is written for a point is read as it. -/
theorem pnt_wr {q : Nat × Bool} (hs : scalarP (q.1 : Int) = true) (r : List UInt8) : pntF (wrP q ++ r) = some (q.1, r) := by
  obtain ⟨p, e⟩ := q
  simp only at hs
  unfold wrP
  simp only
  split
  · rename_i h
    subst h
    unfold pntF
    rw [List.cons_append, List.cons_append, List.nil_append, if_pos (esc_pre 92 r)]
    simp [escF, Lib.hasPrefix, Lib.trimPrefix, List.isPrefixOf]
  · rename_i h92
    split
    · rename_i h
      subst h
      unfold pntF
      rw [List.cons_append, List.cons_append, List.nil_append, if_pos (esc_pre 35 r)]
      simp [escF, Lib.hasPrefix, Lib.trimPrefix, List.isPrefixOf]
    · rename_i h35
      split
      · rename_i h
        obtain ⟨rfl, _⟩ := h
        unfold pntF
        rw [List.cons_append, List.cons_append, List.nil_append, if_pos (esc_pre 115 r)]
        simp [escF, Lib.hasPrefix, Lib.trimPrefix, List.isPrefixOf]
      · split
        · rename_i h
          obtain ⟨x1, x2, x3, x4, _⟩ := hex_ok (p := p) (by omega)
          have hlen := hexL_len p
          have e0 : [92, 117, 123] ++ hexL p ++ [125] ++ r = 92 :: 117 :: 123 :: (hexL p ++ 125 :: r) := by simp
          rw [e0]
          unfold pntF
          rw [if_pos (esc_pre 117 _)]
          have hp : Lib.hasPrefix (92 :: 117 :: 123 :: (hexL p ++ 125 :: r)) [92, 117, 123] = true := by simp [Lib.hasPrefix, List.isPrefixOf]
          have ht : Lib.trimPrefix (92 :: 117 :: 123 :: (hexL p ++ 125 :: r)) [92, 117, 123] = hexL p ++ 125 :: r := by unfold Lib.trimPrefix; rw [if_pos hp]; rfl
          have hc : numC (92 :: 117 :: 123 :: (hexL p ++ 125 :: r)) = (hexL p, r, true) := by unfold numC; rw [ht]; exact cut_at 125 _ _ x1
          unfold escF
          rw [if_neg (by simp [Lib.hasPrefix, List.isPrefixOf]), if_neg (by simp [Lib.hasPrefix, List.isPrefixOf]), if_neg (by simp [Lib.hasPrefix, List.isPrefixOf])]
          unfold numF
          rw [hc, if_pos ⟨hp, rfl, by simp only; omega, x2, x3⟩, x4]
        · rename_i hp
          have hg := good_enc p hs r
          unfold pntF
          have hu : uniOf (encL p ++ r) = ((p : Int), (encL p).length) := by unfold uniOf; rw [hg]
          rw [hu, if_neg (by simp only; omega), if_neg (by simp only; omega)]
          simp
theorem encL_ne (p : Nat) : encL p ≠ [] := fun e => by have := encL_pos p; rw [e] at this; simp at this
theorem wrP_ne (q : Nat × Bool) : wrP q ≠ [] := by
  unfold wrP
  repeat' split
  all_goals first | exact encL_ne _ | simp
theorem pnts_wrQ : ∀ (qs : List (Nat × Bool)), (∀ q ∈ qs, scalarP (q.1 : Int) = true) → pntsOf (wrQ qs) = some (qs.map (·.1))
  | [], _ => rfl
  | q :: qs, h => by
    have hne : wrQ (q :: qs) ≠ [] := by rw [wrQ_cons]; exact fun e => wrP_ne q (List.append_eq_nil_iff.1 e).1
    rw [pnts_step hne, wrQ_cons, pnt_wr (h q (.head _)) (wrQ qs)]
    simp only
    rw [pnts_wrQ qs (fun x hx => h x (.tail _ hx))]
    rfl
theorem encL_byte {p : Nat} (hs : scalarP (p : Int) = true) : ∀ b ∈ encL p, (p < 128 ∧ b.toNat = p) ∨ 128 ≤ b.toNat := by
  have := (scalar_iff _).1 hs
  intro b hb
  unfold encL at hb
  split at hb
  · rw [List.mem_singleton] at hb
    subst hb
    rw [UInt8.toNat_ofNat']
    omega
  · split at hb
    · simp only [List.mem_cons, List.not_mem_nil, or_false] at hb
      right
      rcases hb with rfl | rfl <;> rw [UInt8.toNat_ofNat'] <;> omega
    · split at hb
      · simp only [List.mem_cons, List.not_mem_nil, or_false] at hb
        right
        rcases hb with rfl | rfl | rfl <;> rw [UInt8.toNat_ofNat'] <;> omega
      · simp only [List.mem_cons, List.not_mem_nil, or_false] at hb
        right
        rcases hb with rfl | rfl | rfl | rfl <;> rw [UInt8.toNat_ofNat'] <;> omega
theorem byte_of {b : UInt8} {c : UInt8} (h : b = c) : b.toNat = c.toNat := by rw [h]
/-- No end of a line in what is written. -/
theorem wrP_no10 {q : Nat × Bool} (hs : scalarP (q.1 : Int) = true) : (10 : UInt8) ∉ wrP q := by
  intro hm
  unfold wrP at hm
  split at hm
  · revert hm; decide
  · split at hm
    · revert hm; decide
    · split at hm
      · revert hm; decide
      · split at hm
        · rename_i h
          rcases List.mem_append.1 hm with h1 | h1
          · rcases List.mem_append.1 h1 with h2 | h2
            · revert h2; decide
            · exact ((hex_ok (p := q.1) (by omega)).2.2.2.2 _ h2).2 rfl
          · revert h1; decide
        · rcases encL_byte hs 10 hm with ⟨_, h1⟩ | h1
          · simp at h1; omega
          · simp at h1
theorem wrQ_no10 : ∀ (qs : List (Nat × Bool)), (∀ q ∈ qs, scalarP (q.1 : Int) = true) → (10 : UInt8) ∉ wrQ qs := fun qs h hm => by
  obtain ⟨q, hq, hb⟩ := List.mem_flatMap.1 hm
  exact wrP_no10 (h q hq) hb
theorem wrP_noC {q : Nat × Bool} (hs : scalarP (q.1 : Int) = true) (r : List UInt8) : noC (wrP q ++ r) = wrP q ++ noC r := by
  unfold wrP
  split
  · exact noC_esc 92 r
  · split
    · exact noC_esc 35 r
    · split
      · exact noC_esc 115 r
      · split
        · rename_i h
          have e0 : [92, 117, 123] ++ hexL q.1 ++ [125] ++ r = 92 :: 117 :: ((123 :: hexL q.1 ++ [125]) ++ r) := by simp
          rw [e0, noC_esc, noC_app (123 :: hexL q.1 ++ [125]) r (fun b hb => by
            rw [List.mem_append, List.mem_cons, List.mem_singleton] at hb
            rcases hb with (h1 | h1) | h1
            · subst h1; decide
            · exact ((hex_ok (p := q.1) (by omega)).2.2.2.2 b h1).1
            · subst h1; decide)]
          simp
        · rename_i h1 h2 h3 h4
          refine noC_app _ _ (fun b hb => ?_)
          unfold calm
          rcases encL_byte hs b hb with ⟨_, h5⟩ | h5
          · have n1 : b ≠ 35 := fun e => h2 (by rw [← h5, e]; rfl)
            have n2 : b ≠ 92 := fun e => h1 (by rw [← h5, e]; rfl)
            simp [n1, n2]
          · have n1 : b ≠ 35 := fun e => by rw [e] at h5; simp at h5
            have n2 : b ≠ 92 := fun e => by rw [e] at h5; simp at h5
            simp [n1, n2]
theorem wrQ_noC : ∀ (qs : List (Nat × Bool)), (∀ q ∈ qs, scalarP (q.1 : Int) = true) → noC (wrQ qs) = wrQ qs
  | [], _ => noC_nil
  | q :: qs, h => by rw [wrQ_cons, wrP_noC (h q (.head _)), wrQ_noC qs (fun x hx => h x (.tail _ hx))]
/-- At an end of an entry no blank stands, nor an end of a line. -/
theorem plain_ends {p : Nat} (hs : scalarP (p : Int) = true) (h1 : ¬ p < 32) (h2 : p ≠ 32) (b : UInt8) (hb : b ∈ encL p) : blankB b = false ∧ b ≠ 13 := by
  have hx : b ≠ 32 ∧ b ≠ 9 ∧ b ≠ 13 := by
    rcases encL_byte hs b hb with ⟨_, h5⟩ | h5
    · exact ⟨fun e => by rw [e] at h5; simp at h5; omega, fun e => by rw [e] at h5; simp at h5; omega, fun e => by rw [e] at h5; simp at h5; omega⟩
    · exact ⟨fun e => by rw [e] at h5; simp at h5, fun e => by rw [e] at h5; simp at h5, fun e => by rw [e] at h5; simp at h5⟩
  refine ⟨?_, hx.2.2⟩
  unfold blankB
  simp [hx.1, hx.2.1]
theorem wrP_ends {p : Nat} (hs : scalarP (p : Int) = true) : ∃ a x y b, wrP (p, true) = a :: x ∧ wrP (p, true) = y ++ [b] ∧ blankB a = false ∧ blankB b = false ∧ b ≠ 13 := by
  unfold wrP
  simp only
  split
  · exact ⟨92, [92], [92], 92, rfl, rfl, by decide, by decide, by decide⟩
  · split
    · exact ⟨92, [35], [92], 35, rfl, rfl, by decide, by decide, by decide⟩
    · split
      · exact ⟨92, [115], [92], 115, rfl, rfl, by decide, by decide, by decide⟩
      · rename_i h32
        split
        · exact ⟨92, [117, 123] ++ hexL p ++ [125], [92, 117, 123] ++ hexL p, 125, by simp, rfl, by decide, by decide, by decide⟩
        · rename_i hp
          obtain ⟨a, x, y, b, e1, e2⟩ := ends (encL_ne p)
          have n32 : p ≠ 32 := fun e => h32 (by simp [e])
          have ha := plain_ends hs (by omega) n32 a (by rw [e1]; simp)
          have hb := plain_ends hs (by omega) n32 b (by rw [e2]; simp)
          exact ⟨a, x, y, b, e1, e2, ha.1, hb.1, hb.2⟩
end Go.Proofs.YtlfeiadgahdgoaaGreatDoor
