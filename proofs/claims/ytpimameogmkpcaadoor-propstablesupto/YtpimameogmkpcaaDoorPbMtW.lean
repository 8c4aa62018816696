/-
  The walks of the Table's methods: Class.
-/
import Derived.Test.YtpimameogmkpcaaDoorPbNwW
namespace Go.Proofs.YtpimameogmkpcaaDoor
open Go.RowKit Go.Shelf
theorem flatB_at : ∀ (L : List (List Int)) (q j : Nat) (hq : q < L.length) (_ : ∀ b ∈ L, b.length = 128) (_ : j < 128) (x : Int), L[q][j]? = some x → (flatB L)[q * 128 + j]? = some (.int .u8 x)
  | b :: L, 0, j, _, hl, hj, x, hx => by
    have hb := hl b (by simp)
    have e : flatB (b :: L) = b.map (Value.int .u8) ++ flatB L := rfl
    simp only [List.getElem_cons_zero] at hx
    rw [e, Nat.zero_mul, Nat.zero_add, List.getElem?_append_left (by rw [List.length_map]; omega), List.getElem?_map, hx]
    rfl
  | b :: L, q + 1, j, hq, hl, hj, x, hx => by
    have hb := hl b (by simp)
    have e : flatB (b :: L) = b.map (Value.int .u8) ++ flatB L := rfl
    rw [e, List.getElem?_append_right (by rw [List.length_map]; omega), List.length_map, hb, show (q + 1) * 128 + j - 128 = q * 128 + j by omega]
    exact flatB_at L q j (by simpa using hq) (fun c hc => hl c (by simp [hc])) hj x (by simpa using hx)
theorem ord_at (ss : List Sp) (k j : Nat) (hk : k < 8704) (hj : j < 128) : ∃ q : Nat, q = (ord (blkOf (cls ss)) 8704).idxOf (blkOf (cls ss) k) ∧ q < (ord (blkOf (cls ss)) 8704).length ∧ q ≤ 8704 ∧ (flatB (ord (blkOf (cls ss)) 8704))[q * 128 + j]? = some (.int .u8 (cls ss (128 * (k : Int) + (j : Int)))) := by
  have hm := ord_mem (blkOf (cls ss)) 8704 k hk
  have hlt := List.idxOf_lt_length_of_mem hm
  refine ⟨_, rfl, hlt, by have := ord_len (blkOf (cls ss)) 8704; omega, ?_⟩
  refine flatB_at _ _ j hlt (fun b hb => by obtain ⟨i, _, rfl⟩ := ord_sub _ _ b hb; exact blkOf_len _ _) hj _ ?_
  rw [List.getElem_idxOf hlt]
  simp [blkOf, hj]
theorem cls_out {N : Int} {ss : List Sp} (h : Rise N ss) (p : Int) (hp : p < 0 ∨ 1114111 < p) : cls ss p = 0 := by
  have := cls_tail (l := []) (m := ss) (p := p) (fun s hs => (hits_not p s).2 (by have := h.one s hs; omega))
  rw [List.nil_append] at this
  rw [this]; rfl
set_option maxRecDepth 10000 in
set_option maxHeartbeats 800000 in
theorem class_any (N : Int) (w : World) (lo T : Nat) (NL : List ByteArray) (ss : List Sp) (c : Array Value) (vN vB : Value) (p : Int) (hR : Rise N ss) (h0 : 0 ≤ N) (hN : N ≤ 254) (h : TabAt w lo T NL ss c vN vB) :
    Calls Tryd.prog 10 #[.pointer (some ⟨T, 0, none⟩), .int .i64 p] w fun e w' => e = .returned (.int .i64 (cls ss p)) ∧ Below w.heap.size w w' := by
  by_cases hp0 : p < 0
  · have HV := hid0 (cls_out hR p (.inl hp0))
    clear h
    go_enter Tryd.func10, Tryd.ntmps10
    go_wp2
    go_ret
    exact ⟨by rw [HV.out]; rfl, Below.refl _ _⟩
  · by_cases hp1 : p > 1114111
    · have HV := hid0 (cls_out hR p (.inr hp1))
      clear h
      go_enter Tryd.func10, Tryd.ntmps10
      go_wp2
      go_ret
      exact ⟨by rw [HV.out]; rfl, Below.refl _ _⟩
    · obtain ⟨k, j, hkj, hj⟩ : ∃ k j : Nat, p = 128 * (k : Int) + (j : Int) ∧ j < 128 := ⟨(p / 128).toNat, (p % 128).toNat, by omega, by omega⟩
      have hk : k < 8704 := by omega
      obtain ⟨q, hq, hql, hqb, hqx⟩ := ord_at ss k j hk hj
      obtain ⟨g, cap, cur, rfl, _⟩ : ∃ g cap cur, vB = .slice (some ⟨g, 0, none⟩) (ord (blkOf (cls ss)) 8704).length cap ∧ w.heap[g]? = some (.cells cur 70 (0, 0)) := by
        rcases h.own.2 with ⟨_, hn⟩ | ⟨g, cap, cur, hv, _, hr, _⟩
        · omega
        · exact ⟨g, cap, cur, hv, hr⟩
      have c1 : w.cell? ⟨T, 8705, none⟩ = some (.slice (some ⟨g, 0, none⟩) (ord (blkOf (cls ss)) 8704).length cap) := by rw [cell_of_row _ _ _ _ _ _ h.row]; exact h.last
      have c2 : w.cell? ⟨T, 1 + k, none⟩ = some (.int .u16 (q : Int)) := by rw [cell_of_row _ _ _ _ _ _ h.row, h.which k hk, ← hq]
      have hpos : q * 128 + j < (ord (blkOf (cls ss)) 8704).length * 128 := by omega
      have c3 : w.cell? ⟨g, q * 128 + j, none⟩ = some (.int .u8 (cls ss p)) := by
        rw [World.ownsRow.cellAt h.own (q * 128 + j) hpos, hkj]
        exact hqx
      have hcb := cls_bounds hR h0 p
      have hcv : IntKind.i64.wrap (cls ss p) = cls ss p := by simp [IntKind.wrap, IntKind.bits, IntKind.signed]; omega
      have hd1 : p.tdiv 128 = (k : Int) := by rw [Int.tdiv_eq_ediv_of_nonneg (by omega)]; omega
      have hd2 : p.tmod 128 = (j : Int) := by rw [Int.tmod_eq_emod_of_nonneg (by omega)]; omega
      have hw1 : IntKind.i64.wrap (k : Int) = (k : Int) := by simp [IntKind.wrap, IntKind.bits, IntKind.signed]; omega
      have hkI0 : (0 : Int) ≤ (k : Int) := by omega
      have hkI : (k : Int) < 8704 := by omega
      have hjI0 : (0 : Int) ≤ (j : Int) := by omega
      have hjI : (j : Int) < 128 := by omega
      have hqI0 : (0 : Int) ≤ (q : Int) := by omega
      have hqI : (q : Int) < ((ord (blkOf (cls ss)) 8704).length : Int) := by omega
      clear h hqx hq hcb hkj hpos
      generalize (ord (blkOf (cls ss)) 8704).length = n at *
      generalize cls ss p = x at *
      go_enter Tryd.func10, Tryd.ntmps10
      go_wp2
      go_region_held3 (fun w' => w'.cell? ⟨T, 8705, none⟩ = some (.slice (some ⟨g, 0, none⟩) n cap) ∧ w'.cell? ⟨T, 1 + k, none⟩ = some (.int .u16 (q : Int)) ∧ w'.cell? ⟨g, q * 128 + j, none⟩ = some (.int .u8 x)) (go_keep) (fail)
      go_wp2
      go_ret
      exact ⟨rfl, (Below.refl _ _).drew⟩
/-- Units in memory by their points. -/
structure UP (w : World) (a : Option Addr) (ps : List Int) : Prop where
  at' : ∀ k (h : k < ps.length), ∃ b off, a = some ⟨b, off, none⟩ ∧ b < w.heap.size ∧ w.cell? ⟨b, off + k * 3, none⟩ = some (.int .i64 ps[k]) ∧ (∃ u, w.cell? ⟨b, off + k * 3 + 1, none⟩ = some (.int .i64 u)) ∧ (∃ u, w.cell? ⟨b, off + k * 3 + 2, none⟩ = some (.int .i64 u))
theorem UP.below {w w' : World} {a : Option Addr} {l : List Int} {B : Nat} (h : UP w a l) (hb : Below B w w') (ha : ∀ p, a = some p → p.block < B) : UP w' a l := ⟨fun k hk => by
  obtain ⟨b, off, rfl, hlt, h0, ⟨u1, h1⟩, ⟨u2, h2⟩⟩ := h.at' k hk
  have hB := ha _ rfl
  exact ⟨b, off, rfl, Nat.lt_of_lt_of_le hlt hb.size, (hb.cell (p := ⟨b, off + k * 3, none⟩) hB).trans h0, ⟨u1, (hb.cell (p := ⟨b, off + k * 3 + 1, none⟩) hB).trans h1⟩, ⟨u2, (hb.cell (p := ⟨b, off + k * 3 + 2, none⟩) hB).trans h2⟩⟩⟩
theorem TabAt.below {w w' : World} {lo T : Nat} {NL : List ByteArray} {ss : List Sp} {c : Array Value} {vN vB : Value} (h : TabAt w lo T NL ss c vN vB) (hb : Below w.heap.size w w') : TabAt w' lo T NL ss c vN vB := by
  have hg : w.grownBy w' none := ⟨hb.os, hb.tape, hb.output, hb.size, fun k hk _ => hb.block k hk⟩
  exact ⟨h.low, (hb.block T (Array.getElem?_eq_some_iff.1 h.row).1).trans h.row, h.size, h.zero, World.ownsRow.kept h.names hg (by cases hv : vN.ownBlock <;> simp), h.which, h.last, World.ownsRow.kept h.own hg (by cases hv : vB.ownBlock <;> simp)⟩
def OwnI (w : World) (base : Nat) (v : Value) (ps : List Int) : Prop := w.ownsRow base 3 1 v ps.length (ps.map (Value.int .i64))
theorem infoInt : (Tryd.prog.info? 3).map (fun i => (i.zero, i.size, i.bytes)) = some (some (.int .i64 0), 1, 8) := by kernel_rfl
theorem made_zero (n : Nat) : (madeCells (Value.int .i64 0).cells (n * 1)).toList = (List.replicate n (0 : Int)).map (Value.int .i64) := by
  rw [Nat.mul_one]
  simp only [madeCells, Value.cells]
  refine List.ext_getElem (by simp) (fun k _ _ => by simp [Nat.mod_one])
/-- The classes of the first k points, 0 behind them. -/
def clsTo (ss : List Sp) (ps : List Int) (k : Nat) : List Int := (ps.take k).map (cls ss) ++ List.replicate (ps.length - k) 0
theorem clsTo_len (ss : List Sp) (ps : List Int) (k : Nat) (h : k ≤ ps.length) : (clsTo ss ps k).length = ps.length := by simp [clsTo]; omega
theorem clsTo_all (ss : List Sp) (ps : List Int) : clsTo ss ps ps.length = ps.map (cls ss) := by simp [clsTo]
theorem clsTo_next (ss : List Sp) (ps : List Int) (k : Nat) (h : k < ps.length) : clsTo ss ps (k + 1) = (clsTo ss ps k).set k (cls ss ps[k]) := by
  unfold clsTo
  rw [List.set_append_right _ _ (by simp; omega), List.take_add_one, List.getElem?_eq_getElem h, show ps.length - k = (ps.length - (k + 1)) + 1 by omega, List.replicate_succ, List.map_append]
  simp [Nat.min_eq_left (Nat.le_of_lt h)]
set_option maxRecDepth 10000 in
set_option maxHeartbeats 800000 in
theorem classes_any (N : Int) (w : World) (lo T : Nat) (NL : List ByteArray) (ss : List Sp) (c : Array Value) (vN vB : Value) (ps : List Int) (a : Option Addr) (cap : Nat) (hl : ps.length ≤ 1000000000) (hR : Rise N ss) (h0 : 0 ≤ N) (hN : N ≤ 254) (h : TabAt w lo T NL ss c vN vB) (ha : UP w a ps) (hab : ∀ p, a = some p → p.block < w.heap.size) :
    Calls Tryd.prog 11 #[.pointer (some ⟨T, 0, none⟩), .slice a ps.length cap] w fun e w' => ∃ v, e = .returned v ∧ OwnI w' w.heap.size v (ps.map (cls ss)) ∧ Below w.heap.size w w' := by
  obtain ⟨i0, hi, hz0, hz1, hz2⟩ := info_parts infoInt
  have HR := hid0 hR
  have HT := hid0 h
  have HA := hid0 ha
  have HAB := hid0 hab
  clear hR h ha hab
  go_enter Tryd.func11, Tryd.ntmps11
  go_wp2_with (at_make; refine wpList_make_full _ rfl _ _ 26 rfl w.heap.size 3 i0 (.int .i64 0) 1 Tryd.underlying26 hi hz0 hz1 .i64 .i64 _ _ ps.length rfl rfl rfl rfl (by rw [hz2]; omega) (by unfold maxLen; omega) (Nat.le_refl _) ?_; intro w1 hown1 hgrow1; have HO1 := hid0 hown1; have HG1 := hid0 hgrow1; clear hown1 hgrow1)
  have HB1 : Hid (Below w.heap.size w w1) := hid0 ((Below.refl w.heap.size w).grown HG1.out (Nat.le_refl _) (fun k hk => by cases hk))
  have HO2 : Hid (w1.ownsRow w.heap.size 3 1 (.slice (some ⟨w.heap.size, 0, none⟩) ps.length ps.length) ps.length ((clsTo ss ps 0).map (Value.int .i64))) := hid0 (by have h := HO1.out; rw [made_zero] at h; exact h)
  clear HO1 HG1
  go_loopw [13] (fun i wr => ∃ k : Nat, k ≤ ps.length ∧ i = .int .i64 (k : Int) ∧ Hid (wr.ownsRow w.heap.size 3 1 (.slice (some ⟨w.heap.size, 0, none⟩) ps.length ps.length) ps.length ((clsTo ss ps k).map (Value.int .i64))) ∧ Hid (Below w.heap.size w wr)) (fun i _ => ps.length - (intOf i).toNat)
  case atStart => exact ⟨0, Nat.zero_le _, rfl, HO2, HB1⟩
  case round =>
    clear HO2 HB1
    obtain ⟨k, hk, rfl, HO, HB⟩ := hrel
    have hbs := HB.out.size
    by_cases hlt : k < ps.length
    · obtain ⟨b, off, rfl, hbw, c0, ⟨u1, c1⟩, ⟨u2, c2⟩⟩ := HA.out.at' k hlt
      have d0 := (HB.out.cell (p := ⟨b, off + k * 3, none⟩) hbw).trans c0
      have d1 := (HB.out.cell (p := ⟨b, off + k * 3 + 1, none⟩) hbw).trans c1
      have d2 := (HB.out.cell (p := ⟨b, off + k * 3 + 2, none⟩) hbw).trans c2
      have hkI : (k : Int) < (ps.length : Int) := by omega
      have hkI0 : (0 : Int) ≤ (k : Int) := by omega
      have hG : w.heap.size < wr.heap.size := (World.ownsRow.lt HO.out w.heap.size rfl).2
      have HCS : Hid (clsTo ss ps (k + 1) = (clsTo ss ps k).set k (cls ss ps[k])) := hid0 (clsTo_next ss ps k hlt)
      obtain ⟨p, hp⟩ : ∃ p, ps[k] = p := ⟨_, rfl⟩
      rw [hp] at d0 HCS
      have HB2 : Hid (Below w.heap.size w (wr.alloc (.cells #[.int .i64 p, .int .i64 u1, .int .i64 u2] 43))) := hid0 (HB.out.alloc (by omega) _)
      have HO2 : Hid ((wr.alloc (.cells #[.int .i64 p, .int .i64 u1, .int .i64 u2] 43)).ownsRow w.heap.size 3 1 (.slice (some ⟨w.heap.size, 0, none⟩) ps.length ps.length) ps.length ((clsTo ss ps k).map (Value.int .i64))) := hid0 (World.ownsRow.alloc HO.out _)
      have HCL := hid0 (class_any N (wr.alloc (.cells #[.int .i64 p, .int .i64 u1, .int .i64 u2] 43)) lo T NL ss c vN vB p HR.out h0 hN (HT.out.below HB2.out))
      have HLN : Hid ((clsTo ss ps k).length = ps.length) := hid0 (clsTo_len ss ps k hk)
      have HW3 : Hid (∀ w3, Below (wr.alloc (.cells #[.int .i64 p, .int .i64 u1, .int .i64 u2] 43)).heap.size (wr.alloc (.cells #[.int .i64 p, .int .i64 u1, .int .i64 u2] 43)) w3 → w3.ownsRow w.heap.size 3 1 (.slice (some ⟨w.heap.size, 0, none⟩) ps.length ps.length) ps.length ((clsTo ss ps k).map (Value.int .i64)) ∧ Below w.heap.size w w3 ∧ (∃ u, w3.cell? ⟨w.heap.size, k, none⟩ = some u) ∧ w3.frozen? ⟨w.heap.size, k, none⟩ = false) := hid0 (fun w3 h3 => by
        have g1 := World.ownsRow.kept HO2.out (row := none) (w' := w3) ⟨h3.os, h3.tape, h3.output, h3.size, fun k hk _ => h3.block k hk⟩ (.inr (by simp [Value.ownBlock]))
        refine ⟨g1, Below.later HB2.out h3, ?_, World.ownsRow.frozenAt g1 k⟩
        rw [World.ownsRow.cellAt g1 k (by omega)]
        exact ⟨_, List.getElem?_eq_getElem (by rw [List.length_map, HLN.out]; exact hlt)⟩)
      clear c0 c1 c2 hp HA HO HB2 HO2 HT
      go_wp2_with (go_at_call 10; refine HCL.out.mono ?_; rintro e w3 ⟨rfl, hb3⟩; obtain ⟨g1, g2, ⟨u3, g3⟩, g4⟩ := HW3.out w3 hb3; have HO3 := hid0 g1; have HB3 := hid0 g2; clear hb3 g1 g2)
      have HO4 : Hid ((w3.setCell ⟨w.heap.size, k, none⟩ (.int .i64 (cls ss p))).ownsRow w.heap.size 3 1 (.slice (some ⟨w.heap.size, 0, none⟩) ps.length ps.length) ps.length ((clsTo ss ps (k + 1)).map (Value.int .i64))) := hid0 (by
        have h := (World.ownsRow.stored HO3.out k (.int .i64 (cls ss p))).1
        rw [HCS.out, List.map_set]
        exact h)
      have HB4 : Hid (Below w.heap.size w (w3.setCell ⟨w.heap.size, k, none⟩ (.int .i64 (cls ss p)))) := hid0 (HB3.out.setCell (Nat.le_refl _) _)
      go_roundw
      case rel => exact ⟨k + 1, by omega, by go_num, HO4, HB4⟩
      case measure => simp [intOf]; omega
    · have hkI : ¬ (k : Int) < (ps.length : Int) := by omega
      have HE : Hid (OwnI wr w.heap.size (.slice (some ⟨w.heap.size, 0, none⟩) ps.length ps.length) (ps.map (cls ss))) := hid0 (by
        have h := HO.out
        rw [show k = ps.length by omega, clsTo_all] at h
        unfold OwnI
        rw [List.length_map]
        exact h)
      go_wp2
      go_ret
      exact ⟨_, rfl, HE.out, HB.out⟩
end Go.Proofs.YtpimameogmkpcaaDoor
