/-
  TwFM, TwFW, TwGW.
-/
import Derived.Test.YtbmoeoinhlkmbaaDoorMdc
namespace Go.Proofs.YtbmoeoinhlkmbaaDoor
open Go.RowKit Go.Shelf Go.Lib Go.Maps
def slV (a : Nat → Option Addr) (n cp : Nat → Nat) (j : Nat) : Value := .slice (a j) (n j) (cp j)
def mkF (j : Nat) : Fd := (-10 - (j : Int), 0, 0)
/-- Four lists, each in memory of its own. -/
structure Lon (w : World) (base : Nat) (v : Nat → Value) (c : Nat → List Fd) : Prop where
  own : ∀ j, j < 4 → OwnF w base (v j) (c j)
  apart : ∀ i j, i < 4 → j < 4 → i ≠ j → ∀ g, (v i).ownBlock = some g → (v j).ownBlock ≠ some g
theorem cellsF_set (L : List Fd) (f : Fd) : ∀ k, k < L.length → cellsF (L.set k f) = (((cellsF L).set (k * 3) (.int .i64 f.1)).set (k * 3 + 1) (.int .i64 f.2.1)).set (k * 3 + 2) (.int .i64 f.2.2) := by
  induction L with
  | nil => intro k h; simp at h
  | cons u us ih =>
    intro k h
    have e : ∀ u us, cellsF (u :: us) = .int .i64 u.1 :: .int .i64 u.2.1 :: .int .i64 u.2.2 :: cellsF us := fun _ _ => rfl
    cases k with
    | zero => rw [List.set_cons_zero, e, e]; rfl
    | succ k =>
      rw [List.set_cons_succ, e, e, ih k (by simpa using h), show (k + 1) * 3 = k * 3 + 1 + 1 + 1 by omega, show k * 3 + 1 + 1 + 1 + 1 = (k * 3 + 1) + 1 + 1 + 1 by omega, show k * 3 + 1 + 1 + 1 + 2 = (k * 3 + 2) + 1 + 1 + 1 by omega]
      simp only [List.set_cons_succ]
/-- They are written full up to the place k of the list i. -/
structure Fil (w : World) (base : Nat) (v : Nat → Value) (n : Nat → Nat) (i k : Nat) (c : Nat → List Fd) : Prop where
  lon : Lon w base v c
  len : ∀ j, j < 4 → (c j).length = n j
  is : ∀ j, j < 4 → ∀ q, q < n j → (j < i ∨ j = i ∧ q < k) → (c j)[q]? = some (mkF j)
theorem Fil.next {w : World} {base : Nat} {v : Nat → Value} {n : Nat → Nat} {i k : Nat} {c : Nat → List Fd} (h : Fil w base v n i k c) (hk : n i ≤ k) : Fil w base v n (i + 1) 0 c :=
  ⟨h.lon, h.len, fun j hj q hq hs => h.is j hj q hq (by
    rcases hs with hs | hs
    · by_cases e : j = i
      · subst e; exact .inr ⟨rfl, by omega⟩
      · exact .inl (by omega)
    · omega)⟩
theorem OwnF.slice {w : World} {base : Nat} {a : Option Addr} {n cap : Nat} {L : List Fd} (h : OwnF w base (.slice a n cap) L) (hn : L.length = n) (h0 : 0 < n) : ∃ g, a = some ⟨g, 0, none⟩ ∧ base ≤ g ∧ g < w.heap.size := by
  unfold OwnF at h
  rw [hn] at h
  obtain ⟨g, cap', e, h1, h2, _⟩ := own_form h h0
  injection e with e1
  exact ⟨g, e1, h1, h2⟩
/-- One place is written. -/
theorem Fil.put {w : World} {base : Nat} {a : Nat → Option Addr} {n cp : Nat → Nat} {i k : Nat} {c : Nat → List Fd} (h : Fil w base (slV a n cp) n i k c) (hi : i < 4) (hk : k < n i) :
    ∃ g, a i = some ⟨g, 0, none⟩ ∧ (slV a n cp i).ownBlock = some g ∧ (∃ u0 u1 u2, w.cell? ⟨g, k * 3, none⟩ = some (.int .i64 u0) ∧ w.cell? ⟨g, k * 3 + 1, none⟩ = some (.int .i64 u1) ∧ w.cell? ⟨g, k * 3 + 2, none⟩ = some (.int .i64 u2)) ∧
      (∀ j, w.frozen? ⟨g, j, none⟩ = false) ∧
      ∃ c', Fil (((w.setCell ⟨g, k * 3, none⟩ (.int .i64 (-10 - (i : Int)))).setCell ⟨g, k * 3 + 1, none⟩ (.int .i64 0)).setCell ⟨g, k * 3 + 2, none⟩ (.int .i64 0)) base (slV a n cp) n i (k + 1) c' := by
  have ho := h.lon.own i hi
  have hl := h.len i hi
  have hkc : k < (c i).length := by omega
  obtain ⟨g, ha, hg1, hg2⟩ := OwnF.slice (a := a i) (cap := cp i) ho hl (by omega)
  have hvi : slV a n cp i = .slice (some ⟨g, 0, none⟩) (n i) (cp i) := by unfold slV; rw [ha]
  have hvb : (slV a n cp i).ownBlock = some g := by rw [hvi]; rfl
  rw [hvi] at ho
  have ho' : w.ownsRow base 35 3 (.slice (some ⟨g, 0, none⟩) (n i) (cp i)) (n i) (cellsF (c i)) := by unfold OwnF at ho; rw [hl] at ho; exact ho
  obtain ⟨q0, q1, q2⟩ := cellsF_at (c i) k hkc
  refine ⟨g, ha, hvb, ⟨_, _, _, (World.ownsRow.cellAt ho' (k * 3) (by omega)).trans q0, (World.ownsRow.cellAt ho' (k * 3 + 1) (by omega)).trans q1, (World.ownsRow.cellAt ho' (k * 3 + 2) (by omega)).trans q2⟩, fun j => World.ownsRow.frozenAt ho' j, fun j => if j = i then (c i).set k (mkF i) else c j, ⟨⟨fun j hj => ?_, h.lon.apart⟩, fun j hj => ?_, fun j hj q hq hs => ?_⟩⟩
  · by_cases e : j = i
    · subst e
      rw [if_pos rfl, hvi]
      unfold OwnF
      rw [List.length_set, hl, cellsF_set _ _ _ hkc]
      exact (World.ownsRow.stored (World.ownsRow.stored (World.ownsRow.stored ho' _ _).1 _ _).1 _ _).1
    · rw [if_neg e]
      refine own_blk (h.lon.own j hj) (fun b hb => ?_)
      have hbg : b ≠ g := fun e2 => h.lon.apart i j hi hj (fun e3 => e e3.symm) g hvb (by rw [← e2]; exact hb)
      rw [setCell_block_ne (by exact hbg), setCell_block_ne (by exact hbg), setCell_block_ne (by exact hbg)]
  · by_cases e : j = i
    · subst e; rw [if_pos rfl, List.length_set]; exact hl
    · rw [if_neg e]; exact h.len j hj
  · by_cases e : j = i
    · subst e
      rw [if_pos rfl, List.getElem?_set]
      by_cases e2 : k = q
      · subst e2; rw [if_pos rfl, if_pos hkc]
      · rw [if_neg e2]
        exact h.is j hj q hq (.inr ⟨rfl, by omega⟩)
    · rw [if_neg e]
      exact h.is j hj q hq (.inl (by omega))
theorem FA.only {w w' : World} {S : Nat → Prop} {a : Option Addr} {L : List Fd} (h : FA w a L) (ho : Only w w' S) (hs : ∀ p, a = some p → ¬ S p.block) : FA w' a L := ⟨fun k hk => by
  obtain ⟨b, off, rfl, h1, c0, c1, c2⟩ := h.at' k hk
  have hn := hs ⟨b, off, none⟩ rfl
  exact ⟨b, off, rfl, Nat.lt_of_lt_of_le h1 ho.size, (ho.cell (p := ⟨b, off + k * 3, none⟩) h1 hn).trans c0, (ho.cell (p := ⟨b, off + k * 3 + 1, none⟩) h1 hn).trans c1, (ho.cell (p := ⟨b, off + k * 3 + 2, none⟩) h1 hn).trans c2⟩⟩
/-- While they are grown: w0 is the world in which that began. -/
structure Gro (w0 w : World) (base : Nat) (a : Nat → Option Addr) (n cp : Nat → Nat) (c : Nat → List Fd) (i : Nat) : Prop where
  fa : ∀ j, j < 4 → FA w (a j) (c j)
  own : ∀ j, j < 4 → i ≤ j → OwnF w base (slV a n cp j) (c j)
/-- The one that is grown. -/
structure Grs (w0 w : World) (base : Nat) (a : Nat → Option Addr) (n cp : Nat → Nat) (c : Nat → List Fd) (i k : Nat) (u : Value) (cc : List Fd) : Prop where
  gro : Gro w0 w base a n cp c (i + 1)
  len : cc.length = n i + k
  own : OwnF w base u cc
  blk : u.ownBlock = (slV a n cp i).ownBlock ∨ ∃ g, u.ownBlock = some g ∧ w0.heap.size ≤ g
section
variable {w0 w w2 : World} {base : Nat} {a : Nat → Option Addr} {n cp : Nat → Nat} {c : Nat → List Fd} {i k : Nat} {u u2 : Value} {cc : List Fd}
theorem Gro.first (h : Gro w0 w base a n cp c i) (hi : i < 4) (hl : (c i).length = n i) : Grs w0 w base a n cp c i 0 (slV a n cp i) (c i) :=
  ⟨⟨h.fa, fun j hj hij => h.own j hj (by omega)⟩, hl, h.own i hi (Nat.le_refl _), .inl rfl⟩
theorem slV_blk {p : Addr} {j : Nat} (hj : a j = some p) (ho : OwnF w base (slV a n cp j) (c j)) : (slV a n cp j).ownBlock = some p.block ∧ p.block < w.heap.size := by
  have h0 := ho
  rcases ho.2 with ⟨e, _⟩ | ⟨g, cap, cur, e, _⟩
  · unfold slV at e
    injection e with e1
    rw [hj] at e1
    cases e1
  · have e' := e
    unfold slV at e
    injection e with e1
    rw [hj] at e1
    injection e1 with e1
    subst e1
    have : (slV a n cp j).ownBlock = some g := by rw [e']; rfl
    exact ⟨this, (World.ownsRow.lt h0 g this).2⟩
/-- One more is put behind. -/
theorem Grs.snoc (hL : Lon w0 base (slV a n cp) c) (hn : ∀ j, j < 4 → (c j).length = n j) (hi : i < 4) (h : Grs w0 w base a n cp c i k u cc) (hs0 : w0.heap.size ≤ w.heap.size) {o : Obj} {f : Fd}
    (hown : w2.ownsRow base 35 3 u2 (n i + k + 1) (cellsF cc ++ [.int .i64 f.1, .int .i64 f.2.1, .int .i64 f.2.2])) (hg : (w.alloc o).grownBy w2 u.ownBlock) (hat : u2.ownBlock = u.ownBlock ∨ u2.ownBlock = some (w.alloc o).heap.size)
    (hfr : ∀ g j x, u.ownBlock = some g → j < (n i + k) * 3 → (w.alloc o).cell? ⟨g, j, none⟩ = some x → w2.cell? ⟨g, j, none⟩ = some x) :
    Grs w0 w2 base a n cp c i (k + 1) u2 (cc ++ [f]) ∧ Only w w2 (fun b => u.ownBlock = some b) := by
  have ho1 : Only w w2 (fun b => u.ownBlock = some b) := ((Only.alloc w o (fun k => u.ownBlock = some k))).trans (T := fun k => u.ownBlock = some k) ⟨hg.os, hg.tape, hg.output, hg.size, fun k hk hn => hg.block k hk (fun e => hn e.symm)⟩ (fun i hi => .inl hi)
  have haw : ∀ j, j < 4 → j ≠ i → ∀ b, (slV a n cp j).ownBlock = some b → u.ownBlock ≠ some b := fun j hj hji b hb e => by
    rcases h.blk with e1 | ⟨g, e1, e2⟩
    · rw [e1] at e
      exact hL.apart i j hi hj (fun e3 => hji e3.symm) b e hb
    · rw [e1] at e
      injection e with e
      have := (World.ownsRow.lt (hL.own j hj) b hb).2
      omega
  refine ⟨⟨⟨fun j hj => ?_, fun j hj hij => own_blk (h.gro.own j hj hij) (fun b hb => ho1.block b (World.ownsRow.lt (h.gro.own j hj hij) b hb).2 (haw j hj (by omega) b hb))⟩, by rw [List.length_append, h.len]; rfl, ?_, ?_⟩, ho1⟩
  · by_cases e : j = i
    · subst e
      refine ⟨fun q hq => ?_⟩
      obtain ⟨b, off, ea, h1, c0, c1, c2⟩ := (h.gro.fa j hj).at' q hq
      have hb := slV_blk ea (hL.own j hj)
      have hoff : off = 0 := by
        obtain ⟨g, e2, _⟩ := OwnF.slice (a := a j) (cap := cp j) (hL.own j hj) (hn j hj) (by have := hn j hj; omega)
        rw [ea] at e2
        injection e2 with e2
        injection e2
      subst hoff
      have hq3 := hn j hj
      refine ⟨b, 0, ea, Nat.lt_of_lt_of_le h1 ho1.size, ?_⟩
      by_cases eu : u.ownBlock = some b
      · exact ⟨hfr b _ _ eu (by omega) (cell_alloc c0 o), hfr b _ _ eu (by omega) (cell_alloc c1 o), hfr b _ _ eu (by omega) (cell_alloc c2 o)⟩
      · exact ⟨(ho1.cell (p := ⟨b, 0 + q * 3, none⟩) h1 eu).trans c0, (ho1.cell (p := ⟨b, 0 + q * 3 + 1, none⟩) h1 eu).trans c1, (ho1.cell (p := ⟨b, 0 + q * 3 + 2, none⟩) h1 eu).trans c2⟩
    · exact (h.gro.fa j hj).only ho1 (fun p hp => haw j hj e p.block (slV_blk hp (hL.own j hj)).1)
  · unfold OwnF
    rw [cellsF_snoc, List.length_append, h.len]
    exact hown
  · rcases hat with e | e
    · rw [e]; exact h.blk
    · exact .inr ⟨_, e, by simp; omega⟩
theorem Grs.done (h : Grs w0 w base a n cp c i k u cc) : Gro w0 w base a n cp c (i + 1) := h.gro
end
end Go.Proofs.YtbmoeoinhlkmbaaDoor
namespace Go.Proofs.YtbmoeoinhlkmbaaDoor
open Go.RowKit Go.Shelf Go.Lib Go.Maps
theorem cell3_new' (w : World) (a b c : Value) (t : TypeId) : ∀ j u, [a, b, c][j]? = some u → (w.alloc (.cells #[a, b, c] t)).cell? ((⟨w.heap.size, 0, none⟩ : Addr).add j) = some u := by
  intro j u h
  rw [Addr.add_lit, cell_of_row _ w.heap.size _ _ _ _ (heap_alloc_new w _), Nat.zero_add]
  simpa using h
theorem Lon.fa {w : World} {base : Nat} {a : Nat → Option Addr} {n cp : Nat → Nat} {c : Nat → List Fd} (h : Lon w base (slV a n cp) c) {j : Nat} (hj : j < 4) : FA w (a j) (c j) := by
  obtain ⟨a', cap, e, hfa⟩ := (h.own j hj).fa
  unfold slV at e
  injection e with e1
  rw [e1]
  exact hfa
set_option maxRecDepth 10000 in
set_option maxHeartbeats 2000000 in
theorem lone_any (G base : Nat) (a : Nat → Option Addr) (n cp : Nat → Nat) (c : Nat → List Fd) (w : World) (hc : ∀ j, j < 4 → w.cell? ⟨G, j, none⟩ = some (.slice (a j) (n j) (cp j))) (hL : Lon w base (slV a n cp) c) (hn : ∀ j, j < 4 → (c j).length = n j) (hm : ∀ j, j < 4 → n j ≤ 33000000000) (hGo : ∀ j, j < 4 → (slV a n cp j).ownBlock ≠ some G) (hb : base ≤ w.heap.size) :
    Calls Tryd.prog 10 #[.slice (some ⟨G, 0, none⟩) 4 4] w fun r w' => r = .returned (.bool true) ∧ Only w w' (fun b => ∃ j, j < 4 ∧ (slV a n cp j).ownBlock = some b) := by
  obtain ⟨i0, hi0, hz0, hz1, hz2⟩ := info_parts infoF
  obtain ⟨S, hS⟩ : ∃ S : Nat → Prop, S = fun b => ∃ j, j < 4 ∧ (slV a n cp j).ownBlock = some b := ⟨_, rfl⟩
  have HX : Hid (∀ V : World, Only w V S → ∀ j, j < 4 → V.cell? ⟨G, j, none⟩ = some (.slice (a j) (n j) (cp j))) := hid0 (fun V hV j hj => (hV.cell (p := ⟨G, j, none⟩) (World.block_lt_of_cell? w _ (hc j hj)) (by
    rw [hS]
    rintro ⟨j', h1, h2⟩
    exact hGo j' h1 h2)).trans (hc j hj))
  have HF0 : Hid (Fil w base (slV a n cp) n 0 0 c) := hid0 ⟨hL, hn, fun j _ q _ hs => by omega⟩
  have HM := hid0 hm
  have HS : Hid (∀ j, j < 4 → ∀ g, (slV a n cp j).ownBlock = some g → S g) := hid0 (fun j hj g hg => by rw [hS]; exact ⟨j, hj, hg⟩)
  have HB := hid0 hb
  rw [← hS]
  clear hc hL hn hm hGo hb hS
  go_enter Tryd.func10, Tryd.ntmps10
  go_wp2
  go_loopw [3] (fun x wr => ∃ (i : Nat) (c' : Nat → List Fd), i ≤ 4 ∧ x = .int .i64 (i : Int) ∧ Hid (Fil wr base (slV a n cp) n i 0 c') ∧ Hid (Only w wr S)) (fun x _ => 4 - (intOf x).toNat)
  case atStart => exact ⟨0, c, Nat.zero_le _, rfl, HF0, hid0 (Only.refl _ _)⟩
  case round =>
    clear HF0
    obtain ⟨i, c', hi4, rfl, HF, HO⟩ := hrel
    by_cases hlt : i < 4
    · have hiI : (i : Int) < 4 := by omega
      have hiI0 : (0 : Int) ≤ (i : Int) := by omega
      obtain ⟨z, hz⟩ : ∃ z : Int, -10 - (i : Int) = z := ⟨_, rfl⟩
      have hzw : IntKind.i64.wrap (-10 - (i : Int)) = z := by rw [← hz]; simp [IntKind.wrap, IntKind.bits, IntKind.signed]; omega
      have HZ := hid0 hz
      have hni : n i ≤ 33000000000 := HM.out i hlt
      clear hz
      go_wp2
      go_loopw [4] (fun x wr => ∃ (k : Nat) (c' : Nat → List Fd), k ≤ n i ∧ x = .int .i64 (k : Int) ∧ Hid (Fil wr base (slV a n cp) n i k c') ∧ Hid (Only w wr S)) (fun x _ => n i - (intOf x).toNat)
      case atStart => exact ⟨0, c', Nat.zero_le _, rfl, HF, HO⟩
      case round =>
        clear HF HO
        obtain ⟨k, c2, hk, rfl, HF, HO⟩ := hrel
        have x0 : wr.cell? ⟨G, i, none⟩ = some (.slice (a i) (n i) (cp i)) := HX.out wr HO.out i hlt
        by_cases hkn : k < n i
        · have hkI : (k : Int) < (n i : Int) := by omega
          have hkI0 : (0 : Int) ≤ (k : Int) := by omega
          obtain ⟨g, ha, hvb, ⟨u0, u1, u2, d0, d1, d2⟩, hfz, c3, hF3⟩ := HF.out.put hlt hkn
          rw [HZ.out] at hF3
          have f0 := hfz (k * 3)
          have f1 := hfz (k * 3 + 1)
          have f2 := hfz (k * 3 + 2)
          rw [ha] at x0
          have HF3 := hid0 hF3
          have HO3 : Hid (Only w (((wr.setCell ⟨g, k * 3, none⟩ (.int .i64 z)).setCell ⟨g, k * 3 + 1, none⟩ (.int .i64 0)).setCell ⟨g, k * 3 + 2, none⟩ (.int .i64 0)) S) := hid0 (by
            have hSg := HS.out i hlt g hvb
            refine ((HO.out.trans (Only.setCell _ _ _ _) ?_).trans (Only.setCell _ _ _ _) ?_).trans (Only.setCell _ _ _ _) ?_ <;> exact (fun b hb => .inl (by rw [hb]; exact hSg)))
          clear hfz hF3 hvb ha HF HO
          go_wp2
          go_roundw
          case rel => exact ⟨k + 1, c3, hkn, by go_num, HF3, HO3⟩
          case measure => simp [intOf]; omega
        · have hkI : ¬ (k : Int) < (n i : Int) := by omega
          have HF3 := hid0 (HF.out.next (by omega))
          go_wp2
          go_roundw
          case rel => exact ⟨i + 1, c2, hlt, by go_num, HF3, HO⟩
          case measure => simp [intOf]; omega
    · have hiI : ¬ (i : Int) < 4 := by omega
      have hi44 : i = 4 := by omega
      obtain ⟨W0, hW0⟩ : ∃ W0, W0 = wr := ⟨_, rfl⟩
      have HL := hid0 HF.out.lon
      have HLn := hid0 HF.out.len
      have HIs : Hid (∀ j, j < 4 → ∀ q, q < n j → (c' j)[q]? = some (mkF j)) := hid0 (fun j hj q hq => HF.out.is j hj q hq (.inl (by omega)))
      have HG0 : Hid (Gro W0 wr base a n cp c' 0) := hid0 ⟨fun j hj => HL.out.fa hj, fun j hj _ => HL.out.own j hj⟩
      rw [← hW0] at HL
      have HW0 : Hid (W0.heap.size ≤ wr.heap.size) := hid0 (by rw [hW0]; exact Nat.le_refl _)
      have HBW : Hid (base ≤ wr.heap.size) := hid0 (Nat.le_trans HB.out HO.out.size)
      have HWw : Hid (w.heap.size ≤ W0.heap.size) := hid0 (by rw [hW0]; exact HO.out.size)
      clear hW0 HF hi44
      go_wp2
      go_loopw [5, 6] (fun x y wr => ∃ i gn : Nat, i ≤ 4 ∧ y = .int .i64 (i : Int) ∧ x = .int .i64 (gn : Int) ∧ 64 * i ≤ gn ∧ gn ≤ 40000000000 * i ∧ Hid (Gro W0 wr base a n cp c' i) ∧ Hid (Only w wr S) ∧ Hid (W0.heap.size ≤ wr.heap.size) ∧ Hid (base ≤ wr.heap.size)) (fun _ y _ => 4 - (intOf y).toNat)
      case atStart => exact ⟨0, 0, Nat.zero_le _, rfl, rfl, by omega, by omega, HG0, HO, HW0, HBW⟩
      case round =>
        clear HG0 HO HW0 HBW
        obtain ⟨i, gn, hi4, rfl, rfl, hg1, hg2, HG, HO, HW0, HBW⟩ := hrel
        by_cases hlt : i < 4
        · have hiI : (i : Int) < 4 := by omega
          have hiI0 : (0 : Int) ≤ (i : Int) := by omega
          have hni : n i ≤ 33000000000 := HM.out i hlt
          have x0 : wr.cell? ⟨G, i, none⟩ = some (.slice (a i) (n i) (cp i)) := HX.out wr HO.out i hlt
          have HG1 : Hid (Grs W0 wr base a n cp c' i 0 (.slice (a i) (n i) (cp i)) (c' i)) := hid0 (HG.out.first hlt (HLn.out i hlt))
          go_wp2
          go_loopw [7, 8] (fun u y wr => ∃ (k : Nat) (cc : List Fd), k ≤ 64 ∧ y = .int .i64 (k : Int) ∧ Hid (Grs W0 wr base a n cp c' i k u cc) ∧ Hid (Only w wr S) ∧ Hid (W0.heap.size ≤ wr.heap.size) ∧ Hid (base ≤ wr.heap.size)) (fun _ y _ => 64 - (intOf y).toNat)
          case atStart => exact ⟨0, c' i, Nat.zero_le _, rfl, HG1, HO, HW0, HBW⟩
          case round =>
            clear HG1 HG HO HW0 HBW x0
            obtain ⟨k, cc, hk, rfl, HG, HO, HW0, HBW⟩ := hrel
            by_cases hkn : k < 64
            · have hkI : (k : Int) < 64 := by omega
              have HOO : Hid (wr.ownsRow base 35 3 u7 (n i + k) (cellsF cc)) := hid0 (by have h := HG.out.own; unfold OwnF at h; rw [HG.out.len] at h; exact h)
              have hbw := HBW.out
              go_wp2_with (at_builtin; go_loud ((
                refine wpList_append_own_front _ (by rfl) _ _ 36 (by rfl) base 35 i0 (.agg #[.int .i64 0, .int .i64 0, .int .i64 0]) 3 24 Tryd.underlying36 hi0 hz0 hz1 hz2 rfl (by decide) _ (n i + k) (cellsF cc) (by rfl) (World.ownsRow.alloc HOO.out _) ⟨wr.heap.size, 0, none⟩ 1 1 [.int .i64 (-5), .int .i64 0, .int .i64 0] (by rfl) (by rfl) (cell3_new' _ _ _ _ _) (by simp [Value.oneCell']) (by unfold maxLen; omega) (by omega) (by simp; omega) ?_
                intro v2 w2 hown2 hgrow2 hat2 hfr2
                have hsn := Grs.snoc HL.out HLn.out hlt HG.out HW0.out (f := (-5, 0, 0)) hown2 hgrow2 hat2 hfr2
                have HG2 := hid0 hsn.1
                have HO2 : Hid (Only w w2 S) := hid0 (HO.out.trans hsn.2 (fun b hb => by
                  rcases HG.out.blk with e | ⟨g, e, e2⟩
                  · rw [e] at hb; exact .inl (HS.out i hlt b hb)
                  · rw [e] at hb
                    injection hb with hb
                    exact .inr (by rw [← hb]; exact Nat.le_trans HWw.out e2)))
                have HW2 : Hid (W0.heap.size ≤ w2.heap.size) := hid0 (Nat.le_trans HW0.out hsn.2.size)
                have HBW2 : Hid (base ≤ w2.heap.size) := hid0 (Nat.le_trans hbw hsn.2.size)
                clear hown2 hgrow2 hat2 hfr2 hsn)))
              go_roundw
              case rel => exact ⟨k + 1, _, hkn, by go_num, HG2, HO2, HW2, HBW2⟩
              case measure => simp [intOf]; omega
            · have hkI : ¬ (k : Int) < 64 := by omega
              obtain ⟨au, cu, hu, _⟩ := HG.out.own.fa
              obtain ⟨m, hmm⟩ : ∃ m, cc.length = m := ⟨_, rfl⟩
              have hm2 : m = n i + 64 := by rw [← hmm, HG.out.len]; omega
              rw [hmm] at hu
              subst hu
              have HG2 := hid0 HG.out.done
              obtain ⟨g2, hg3⟩ : ∃ g2, g2 = gn + m := ⟨_, rfl⟩
              have hgI : (gn : Int) + (m : Int) = (g2 : Int) := by omega
              have hq1 : 64 * (i + 1) ≤ g2 := by omega
              have hq2 : g2 ≤ 40000000000 * (i + 1) := by omega
              clear hmm hm2 hg3 HG
              go_wp2
              go_roundw
              case rel => exact ⟨i + 1, g2, hlt, by go_num, by go_num, hq1, hq2, HG2, HO, HW0, HBW⟩
              case measure => simp [intOf]; omega
        · have hiI : ¬ (i : Int) < 4 := by omega
          have hi44 : i = 4 := by omega
          have hgI : (gn : Int) ≥ 256 := by omega
          obtain ⟨W1, hW1⟩ : ∃ W1, W1 = wr := ⟨_, rfl⟩
          have HFa : Hid (∀ j, j < 4 → FA W1 (a j) (c' j)) := hid0 (by rw [hW1]; exact HG.out.fa)
          have HX1 : Hid (∀ j, j < 4 → W1.cell? ⟨G, j, none⟩ = some (.slice (a j) (n j) (cp j))) := hid0 (by rw [hW1]; exact HX.out wr HO.out)
          have HO1 : Hid (Only w W1 S) := hid0 (by rw [hW1]; exact HO.out)
          subst hW1
          clear hi44 HG HO hg1 hg2
          go_wp2
          go_loopw [9] (fun y wr => ∃ i : Nat, i ≤ 4 ∧ y = .int .i64 (i : Int) ∧ wr = W1) (fun y _ => 4 - (intOf y).toNat)
          case atStart => exact ⟨0, Nat.zero_le _, rfl, rfl⟩
          case round =>
            obtain ⟨i, hi4, rfl, rfl⟩ := hrel
            by_cases hlt : i < 4
            · have hiI : (i : Int) < 4 := by omega
              have hiI0 : (0 : Int) ≤ (i : Int) := by omega
              have x0 := HX1.out i hlt
              obtain ⟨z, hz⟩ : ∃ z : Int, -10 - (i : Int) = z := ⟨_, rfl⟩
              have hzw : IntKind.i64.wrap (-10 - (i : Int)) = z := by rw [← hz]; simp [IntKind.wrap, IntKind.bits, IntKind.signed]; omega
              have HZ := hid0 hz
              have hni : n i ≤ 33000000000 := HM.out i hlt
              clear hz
              go_wp2
              go_loopw [10] (fun y wx => ∃ k : Nat, k ≤ n i ∧ y = .int .i64 (k : Int) ∧ wx = wr) (fun y _ => n i - (intOf y).toNat)
              case atStart => exact ⟨0, Nat.zero_le _, rfl, rfl⟩
              case round =>
                obtain ⟨k, hk, rfl, rfl⟩ := hrel
                by_cases hkn : k < n i
                · have hkI : (k : Int) < (n i : Int) := by omega
                  have hkI0 : (0 : Int) ≤ (k : Int) := by omega
                  have hkc : k < (c' i).length := by rw [HLn.out i hlt]; exact hkn
                  obtain ⟨b, off, ea, _, d0, d1, d2⟩ := (HFa.out i hlt).at' k hkc
                  have hck : (c' i)[k] = mkF i := by
                    have h := HIs.out i hlt k hkn
                    rw [List.getElem?_eq_getElem hkc] at h
                    injection h
                  rw [hck] at d0 d1 d2
                  unfold mkF at d0 d1 d2
                  dsimp only at d0 d1 d2
                  rw [HZ.out] at d0
                  rw [ea] at x0
                  clear hck ea
                  go_wp2
                  go_roundw
                  case rel => exact ⟨k + 1, hkn, by go_num, trivial⟩
                  case measure => simp [intOf]; omega
                · have hkI : ¬ (k : Int) < (n i : Int) := by omega
                  go_wp2
                  go_roundw
                  case rel => exact ⟨i + 1, hlt, by go_num, trivial⟩
                  case measure => simp [intOf]; omega
            · have hiI : ¬ (i : Int) < 4 := by omega
              go_wp2
              go_ret
              exact ⟨rfl, HO1.out⟩
end Go.Proofs.YtbmoeoinhlkmbaaDoor
namespace Go.Proofs.YtbmoeoinhlkmbaaDoor
open Go.RowKit Go.Shelf Go.Lib Go.Maps
structure LkO (w : World) (L : List (List Int)) (l : List Int) (aE aW : Option Addr) (cE cW : Nat) : Prop where
  e : RwA w aE L
  w' : IA w aW l
  cap : l.length ≤ cW
  el : ∀ r ∈ L, r.length ≤ 1000000000
  ll : l.length ≤ 100000000
  li : ∀ c ∈ l, inI c
def E1 : List (List Int) := [[120]]
theorem new1 : newE E1 = none := by decide
theorem all1 : allK E1 [120, 1, 120] ([120, 1, 120] : List Int).length = [(0, 0, 1), (0, 2, 3)] := by decide
theorem rows1 (w : World) : ∃ w5, (w.alloc (.cells #[.int .i64 120] 3)).alloc (.cells #[.slice (some ⟨w.heap.size, 0, none⟩) 1 1] 23) = w5 ∧ Below w.heap.size w w5 ∧ RwA w5 (some ⟨w.heap.size + 1, 0, none⟩) E1 := by
  obtain ⟨w1, h1⟩ : ∃ w1, w.alloc (.cells #[.int .i64 120] 3) = w1 := ⟨_, rfl⟩
  rw [h1]
  have s1 : w1.heap.size = w.heap.size + 1 := by rw [← h1]; simp
  have b1 : Below w.heap.size w w1 := by rw [← h1]; exact (Below.refl _ _).alloc (Nat.le_refl _) _
  refine ⟨_, rfl, b1.alloc (by omega) _, ?_⟩
  generalize hw5 : w1.alloc (.cells #[.slice (some ⟨w.heap.size, 0, none⟩) 1 1] 23) = w5
  have b5 : Below w1.heap.size w1 w5 := by rw [← hw5]; exact (Below.refl _ _).alloc (Nat.le_refl _) _
  have i1 : IA w5 (some ⟨w.heap.size, 0, none⟩) [120] := (by rw [← h1]; exact ia_new w [120] _ rfl : IA w1 (some ⟨w.heap.size, 0, none⟩) [120]).past b5
  have hr : w5.heap[w.heap.size + 1]? = some (.cells #[.slice (some ⟨w.heap.size, 0, none⟩) 1 1] 23 (0, 0)) := by
    rw [← hw5, ← s1]
    exact heap_alloc_new _ _
  have hlt := (Array.getElem?_eq_some_iff.1 hr).1
  refine ⟨fun k hk => ⟨_, 0, rfl, hlt, ?_⟩⟩
  rw [cell_of_row _ _ _ _ _ _ hr, Nat.zero_add]
  have hk4 : k < 1 := hk
  obtain rfl : k = 0 := by omega
  exact ⟨_, 1, rfl, i1⟩
theorem fa1 (w : World) : FA (w.alloc (.cells #[.int .i64 0, .int .i64 0, .int .i64 1, .int .i64 0, .int .i64 2, .int .i64 3] 35)) (some ⟨w.heap.size, 0, none⟩) [(0, 0, 1), (0, 2, 3)] := ⟨fun k hk => by
  have hr := heap_alloc_new w (.cells #[.int .i64 0, .int .i64 0, .int .i64 1, .int .i64 0, .int .i64 2, .int .i64 3] 35)
  have hlt := (Array.getElem?_eq_some_iff.1 hr).1
  refine ⟨_, 0, rfl, hlt, ?_⟩
  have hk4 : k < 2 := hk
  rcases (show k = 0 ∨ k = 1 by omega) with rfl | rfl <;> (rw [cell_of_row _ _ _ _ _ _ hr, cell_of_row _ _ _ _ _ _ hr, cell_of_row _ _ _ _ _ _ hr]; exact ⟨rfl, rfl, rfl⟩)⟩
theorem OwnF.two {w : World} {base : Nat} {v : Value} {L : List Fd} (h : OwnF w base v L) : ∃ a cap, v = .slice a L.length cap ∧ FA w a L ∧ OwnF w base (.slice a L.length cap) L := by
  obtain ⟨a, cap, e, hfa⟩ := h.fa
  exact ⟨a, cap, e, hfa, by rw [← e]; exact h⟩
theorem OwnF.lower {w : World} {base base' : Nat} {v : Value} {L : List Fd} (h : OwnF w base v L) (hb : base' ≤ base) : OwnF w base' v L := owns_lower h hb
def f4 {α : Type} (x0 x1 x2 x3 : α) : Nat → α
  | 0 => x0
  | 1 => x1
  | 2 => x2
  | _ => x3
/-- The four answers. -/
theorem lon4 {w wa ws wl wb : World} {a0 a1 a2 a3 : Option Addr} {k0 k1 k2 k3 base : Nat} {c0 c1 c2 c3 : List Fd} (h0 : OwnF wa base (.slice a0 c0.length k0) c0) (h1 : OwnF ws wa.heap.size (.slice a1 c1.length k1) c1) (h2 : OwnF wl ws.heap.size (.slice a2 c2.length k2) c2) (h3 : OwnF wb wl.heap.size (.slice a3 c3.length k3) c3)
    (b0 : base ≤ wa.heap.size) (b1 : Below wa.heap.size wa ws) (b2 : Below ws.heap.size ws wl) (b3 : Below wl.heap.size wl wb) (b4 : Below wb.heap.size wb w) : Lon w base (slV (f4 a0 a1 a2 a3) (f4 c0.length c1.length c2.length c3.length) (f4 k0 k1 k2 k3)) (f4 c0 c1 c2 c3) := by
  have s1 := b1.size
  have s2 := b2.size
  have s3 := b3.size
  have o0 : ∀ g, (Value.slice a0 c0.length k0).ownBlock = some g → base ≤ g ∧ g < wa.heap.size := fun g e => World.ownsRow.lt h0 g e
  have o1 : ∀ g, (Value.slice a1 c1.length k1).ownBlock = some g → wa.heap.size ≤ g ∧ g < ws.heap.size := fun g e => World.ownsRow.lt h1 g e
  have o2 : ∀ g, (Value.slice a2 c2.length k2).ownBlock = some g → ws.heap.size ≤ g ∧ g < wl.heap.size := fun g e => World.ownsRow.lt h2 g e
  have o3 : ∀ g, (Value.slice a3 c3.length k3).ownBlock = some g → wl.heap.size ≤ g ∧ g < wb.heap.size := fun g e => World.ownsRow.lt h3 g e
  refine ⟨fun j hj => ?_, fun i j hi hj hij g e1 e2 => ?_⟩
  · rcases (show j = 0 ∨ j = 1 ∨ j = 2 ∨ j = 3 by omega) with rfl | rfl | rfl | rfl
    · exact (((h0.past b1).past b2).past b3).past b4
    · exact (((h1.past b2).past b3).past b4).lower (by omega)
    · exact ((h2.past b3).past b4).lower (by omega)
    · exact (h3.past b4).lower (by omega)
  · have hb : ∀ j, j < 4 → (slV (f4 a0 a1 a2 a3) (f4 c0.length c1.length c2.length c3.length) (f4 k0 k1 k2 k3) j).ownBlock = some g → (j = 0 ∧ g < wa.heap.size) ∨ (j = 1 ∧ wa.heap.size ≤ g ∧ g < ws.heap.size) ∨ (j = 2 ∧ ws.heap.size ≤ g ∧ g < wl.heap.size) ∨ (j = 3 ∧ wl.heap.size ≤ g) := fun j hj e => by
      rcases (show j = 0 ∨ j = 1 ∨ j = 2 ∨ j = 3 by omega) with rfl | rfl | rfl | rfl
      · exact .inl ⟨rfl, (o0 g e).2⟩
      · exact .inr (.inl ⟨rfl, o1 g e⟩)
      · exact .inr (.inr (.inl ⟨rfl, o2 g e⟩))
      · exact .inr (.inr (.inr ⟨rfl, (o3 g e).1⟩))
    have q1 := hb i hi e1
    have q2 := hb j hj e2
    omega
set_option maxRecDepth 10000 in
set_option maxHeartbeats 1600000 in
theorem trieOwn_any (A : Nat → Addr) (L : List (List Int)) (l : List Int) (at' : Int) (aE aW : Option Addr) (cE cW : Nat) (w : World) (h : LkO w L l aE aW cE cW) (hs : Se3 w A) :
    Calls Tryd.prog 3 #[.agg #[.slice aE L.length cE, .slice aW l.length cW, .int .i64 at']] w fun e w' => e = .returned (.bool true) ∧ Below w.heap.size w w' := by
  obtain ⟨w0, hw0, hb0, h0⟩ : ∃ w0, w.alloc (.cells #[.slice aE L.length cE, .slice aW l.length cW, .int .i64 at'] 25) = w0 ∧ Below w.heap.size w w0 ∧ w0.heap[w.heap.size]? = some (.cells #[.slice aE L.length cE, .slice aW l.length cW, .int .i64 at'] 25 (0, 0)) := ⟨_, rfl, (Below.refl _ _).alloc (Nat.le_refl _) _, heap_alloc_new _ _⟩
  have hz0 : w0.heap.size = w.heap.size + 1 := by rw [← hw0]; simp
  have HC : Hid (∀ V : World, Below w0.heap.size w0 V → V.cell? ⟨w.heap.size, 0, none⟩ = some (.slice aE L.length cE) ∧ V.cell? ⟨w.heap.size, 1, none⟩ = some (.slice aW l.length cW)) := hid0 (fun V hV => by
    have hr := (hV.block w.heap.size (by omega)).trans h0
    exact ⟨by rw [cell_of_row _ _ _ _ _ _ hr]; rfl, by rw [cell_of_row _ _ _ _ _ _ hr]; rfl⟩)
  have HIn : Hid (∀ V : World, Below w0.heap.size w0 V → RwA V aE L ∧ IA V aW l ∧ Se3 V A ∧ Below w.heap.size w V) := hid0 (fun V hV => by
    have hq := hb0.trans (hV.mono (by omega))
    exact ⟨h.e.past hq, h.w'.past hq, hs.past hq, hq⟩)
  have HH := hid0 h
  have HRN := hid0 (refNew_any L aE cE w0 (HIn.out w0 (Below.refl _ _)).1 h.el)
  have hpn := @run_eql_pointer_nil Tryd.prog
  have hll := h.ll
  have hcap := h.cap
  have HLL : Hid (newE L = none → L.length ≤ 2000) := hid0 (fun hq => by
    unfold newE at hq
    split at hq
    · cases hq
    · omega)
  have c0 := HC.out w0 (Below.refl _ _)
  obtain ⟨x0, x1⟩ := c0
  clear h hs hb0 h0 hz0
  cases hne : newE L with
  | some j =>
    have HE := hid0 hne
    have HNw := hid0 (fun (w1 : World) (hb : Below w0.heap.size w0 w1) => new_any A L aE cE w1 (HIn.out w1 hb).1 (HIn.out w1 hb).2.2.1 (fun e he => by have := HH.out.el e he; omega))
    clear hne
    go_enter Tryd.func3, Tryd.ntmps3
    go_wp2_with (first
      | (go_at_call 5; go_loud ((
          refine HRN.out.mono ?_
          rintro r w1 ⟨hb, hr⟩
          obtain rfl : r = .returned (.tuple #[.pointer none, .int .i64 ((j : Int) + 1)]) := by
            rcases hr with ⟨k, hk, h2⟩ | ⟨hk, _⟩
            · rw [HE.out] at hk; injection hk with hk; rw [hk]; exact h2
            · rw [HE.out] at hk; cases hk
          have HB1 := hid0 hb
          obtain ⟨x0, x1⟩ := HC.out w1 hb
          clear hb hr HRN)))
      | (go_at_call 6; go_loud ((
          refine (HNw.out w1 HB1.out).mono ?_
          rintro r w2 ⟨hb, hr⟩
          obtain rfl : r = .returned (.tuple #[.pointer none, .iface 70 (.pointer (some (A j)))]) := by
            rcases hr with ⟨k, hk, h2⟩ | ⟨hk, _⟩
            · rw [HE.out] at hk; injection hk with hk; rw [hk]; exact h2
            · rw [HE.out] at hk; cases hk
          have HB2 : Hid (Below w0.heap.size w0 w2) := hid0 (HB1.out.trans (hb.mono HB1.out.size))
          clear hb hr)))
      | fail)
    go_ret
    exact ⟨rfl, (HIn.out _ HB2.out).2.2.2⟩
  | none =>
    have HE := hid0 hne
    have hL2 := HLL.out hne
    have HNw := hid0 (fun (w1 : World) (hb : Below w0.heap.size w0 w1) => new_any A L aE cE w1 (HIn.out w1 hb).1 (HIn.out w1 hb).2.2.1 (fun e he => by have := HH.out.el e he; omega))
    clear hne HLL
    go_enter Tryd.func3, Tryd.ntmps3
    go_upto_region 5 with (first
      | (go_at_call 5; go_loud ((
          refine HRN.out.mono ?_
          rintro r w1 ⟨hb, hr⟩
          obtain ⟨U, aU, cU, rfl, hRT⟩ : ∃ U a c, r = .returned (.tuple #[.pointer (some ⟨U, 0, none⟩), .int .i64 0]) ∧ RTr w1 U L a c := by
            rcases hr with ⟨k, hk, h2⟩ | ⟨_, h2⟩
            · rw [HE.out] at hk; cases hk
            · exact h2
          have HB1 := hid0 hb
          have HRT := hid0 hRT
          obtain ⟨x0, x1⟩ := HC.out w1 hb
          clear hb hr HRN hRT)))
      | (go_at_call 6; go_loud ((
          refine (HNw.out w1 HB1.out).mono ?_
          rintro r w2 ⟨hb, hr⟩
          obtain ⟨hG, T, hi, bk, mp, rfl, ht⟩ : Good L ∧ ∃ T hi bk mp, r = .returned (.tuple #[.pointer (some ⟨T, 0, none⟩), .nilIface]) ∧ TrieAt w2 w1.heap.size hi T L bk mp := by
            rcases hr with ⟨k, hk, _⟩ | ⟨_, h1, h2⟩
            · rw [HE.out] at hk; cases hk
            · exact ⟨h1, h2⟩
          have HT := hid0 ht
          have HG := hid0 hG
          have HR2 := hid0 (HRT.out.past hb)
          have HB2 : Hid (Below w0.heap.size w0 w2) := hid0 (HB1.out.trans (hb.mono HB1.out.size))
          clear hb hr hG ht HRT)))
      | fail)
    clear x0 x1 HNw hw0
    obtain ⟨w3, hfold, hb3, hr3⟩ := rows1 w2
    have HB3 : Hid (Below w0.heap.size w0 w3) := hid0 (HB2.out.trans (hb3.mono HB2.out.size))
    have HT3 := hid0 (Tr.past HT.out hb3)
    have HR3 := hid0 (HR2.out.past hb3)
    have HN1 : Hid (Calls Tryd.prog 6 #[.slice (some ⟨w2.heap.size + 1, 0, none⟩) 1 1] w3 fun r w' => NewR w3 E1 A r w') := hid0 (new_any A E1 _ 1 w3 hr3 (HIn.out w3 HB3.out).2.2.1 (fun e he => by
      have : ∀ e ∈ E1, e.length ≤ 3 := by decide
      have := this e he
      omega))
    clear hb3 hr3 HT HR2
    go_upto_region 6 with (go_at_call 6; go_loud ((
      refine HN1.out.mono ?_
      rintro r w4 ⟨hb, hr⟩
      obtain ⟨hG, T2, hi2, bk2, mp2, rfl, ht⟩ : Good E1 ∧ ∃ T hi bk mp, r = .returned (.tuple #[.pointer (some ⟨T, 0, none⟩), .nilIface]) ∧ TrieAt w4 w3.heap.size hi T E1 bk mp := by
        rcases hr with ⟨k, hk, _⟩ | ⟨_, h1, h2⟩
        · rw [new1] at hk; cases hk
        · exact ⟨h1, h2⟩
      have HT2 := hid0 ht
      have HG2 := hid0 hG
      have HT4 := hid0 (Tr.past HT3.out hb)
      have HR4 := hid0 (HR3.out.past hb)
      have HB4 : Hid (Below w0.heap.size w0 w4) := hid0 (HB3.out.trans (hb.mono HB3.out.size))
      clear hb hr hG ht HN1)))
    clear hfold HT3 HR3
    go_upto_region 8 with (fail)
    obtain ⟨w5, hfold, hb5, hf5⟩ : ∃ w5, w4.alloc (.cells #[.int .i64 0, .int .i64 0, .int .i64 1, .int .i64 0, .int .i64 2, .int .i64 3] 35) = w5 ∧ Below w4.heap.size w4 w5 ∧ FA w5 (some ⟨w4.heap.size, 0, none⟩) [(0, 0, 1), (0, 2, 3)] := ⟨_, rfl, (Below.refl _ _).alloc (Nat.le_refl _) _, fa1 w4⟩
    have HB5 : Hid (Below w0.heap.size w0 w5) := hid0 (HB4.out.trans (hb5.mono HB4.out.size))
    have HF5 := hid0 hf5
    have HRA := hid0 (refAll_any l aW cW (HR4.out.past hb5) HG.out hL2 (HIn.out w5 HB5.out).2.1 (by omega) hcap)
    have HLn := hid0 (allK_len HG.out.len l l.length)
    obtain ⟨x0, x1⟩ := HC.out w5 HB5.out
    have HT5 := hid0 (Tr.past HT4.out hb5)
    have HT25 := hid0 (Tr.past HT2.out hb5)
    clear hb5 hf5 HT4 HT2 HR4
    obtain ⟨LA, hLA⟩ : ∃ LA, allK L l l.length = LA := ⟨_, rfl⟩
    rw [hLA] at HRA HLn
    have HLA := hid0 hLA
    have hla : LA.length ≤ 3200000000 := by have := HLn.out; omega
    clear hLA HLn
    go_upto_region 10 with (go_at_call 7; go_loud ((
      refine HRA.out.mono ?_
      rintro r wd ⟨v, rfl, ho, hb⟩
      obtain ⟨ad, cd, rfl, hfa⟩ := ho.fa
      have HFd := hid0 hfa
      have HB6 : Hid (Below w0.heap.size w0 wd) := hid0 (HB5.out.trans (hb.mono HB5.out.size))
      have HTd := hid0 (Tr.past HT5.out hb)
      have HTe := hid0 (Tr.past HT25.out hb)
      have HFt := hid0 (HF5.out.past hb)
      clear ho hb hfa HRA)))
    clear hfold x0 x1 HT5 HT25 HF5
    generalize w4.heap.size = P4 at *
    -- what All answers, from wd on
    have HAl : Hid (∀ V : World, Below wd.heap.size wd V → Calls Tryd.prog 8 #[.pointer (some ⟨T, 0, none⟩), .slice aW l.length cW] V fun r w' => AllR V LA r w') := hid0 (fun V hV => by
      have hq := HB6.out.trans (hV.mono HB6.out.size)
      rw [← HLA.out]
      exact all_any l aW cW (Tr.past HTd.out hV) HG.out (HIn.out V hq).2.1 HH.out.li (by omega) (Nat.le_trans HTd.out.hs hV.size) (by omega))
    have HAo : Hid (∀ V : World, Below wd.heap.size wd V → Calls Tryd.prog 8 #[.pointer (some ⟨T2, 0, none⟩), .slice (some ⟨V.heap.size, 0, none⟩) 3 3] (V.alloc (.cells #[.int .i64 120, .int .i64 1, .int .i64 120] 3)) fun r w' => ∃ v, r = .returned v ∧ OwnF w' V.heap.size v [(0, 0, 1), (0, 2, 3)] ∧ Below V.heap.size V w') := hid0 (fun V hV => by
      have hb : Below V.heap.size V (V.alloc (.cells #[.int .i64 120, .int .i64 1, .int .i64 120] 3)) := (Below.refl _ _).alloc (Nat.le_refl _) _
      have hq := Below.later hV hb
      have hc := all_any [120, 1, 120] _ 3 (Tr.past HTe.out hq) HG2.out (ia_new V [120, 1, 120] _ rfl) (fun c hc => inI_small (by
        have : ∀ c ∈ ([120, 1, 120] : List Int), 0 ≤ c ∧ c ≤ 1000000 := by decide
        exact this c hc)) (by simp) (Nat.le_trans HTe.out.hs hq.size) (by decide)
      rw [all1] at hc
      exact hc.mono (by
        rintro r w' ⟨v, e, ho, hb2⟩
        exact ⟨v, e, ho.lower hb.size, Below.later hb hb2⟩))
    have HXd : Hid (∀ V : World, Below wd.heap.size wd V → V.cell? ⟨w.heap.size, 1, none⟩ = some (.slice aW l.length cW)) := hid0 (fun V hV => (HC.out V (HB6.out.trans (hV.mono HB6.out.size))).2)
    have HBw : Hid (∀ V : World, Below wd.heap.size wd V → Below w.heap.size w V) := hid0 (fun V hV => (HIn.out V (HB6.out.trans (hV.mono HB6.out.size))).2.2.2)
    clear HTd HTe HC HIn HH HG HG2 HLA
    have x1 := HXd.out wd (Below.refl _ _)
    have HA0 := hid0 (HAl.out wd (Below.refl _ _))
    go_upto_region 11 with (go_at_call 8; go_loud ((
      refine HA0.out.mono ?_
      rintro r wa ⟨v, rfl, ho, hb⟩
      obtain ⟨a0, k0, rfl, hfa, ho⟩ := ho.two
      have HF0 := hid0 hfa
      have HO0 := hid0 ho
      have HBa := hid0 hb
      clear ho hb hfa HA0)))
    clear x1
    have x1 := HXd.out wa HBa.out
    have HA1 := hid0 (HAl.out wa HBa.out)
    go_upto_region 12 with (go_at_call 8; go_loud ((
      refine HA1.out.mono ?_
      rintro r ws ⟨v, rfl, ho, hb⟩
      obtain ⟨a1, k1, rfl, hfa, ho⟩ := ho.two
      have HF1 := hid0 hfa
      have HO1 := hid0 ho
      have HBs := hid0 hb
      clear ho hb hfa HA1)))
    clear x1
    have HBs' := hid0 (Below.later HBa.out HBs.out)
    have HA2 := hid0 (HAo.out ws HBs'.out)
    go_upto_region 13 with (go_at_call 8; go_loud ((
      refine HA2.out.mono ?_
      rintro r wl ⟨v, rfl, ho, hb⟩
      obtain ⟨a2, k2, rfl, hfa, ho⟩ := ho.two
      have HF2 := hid0 hfa
      have HO2 := hid0 ho
      have HBl := hid0 hb
      clear ho hb hfa HA2)))
    have HBl' := hid0 (Below.later HBs'.out HBl.out)
    have x1 := HXd.out wl HBl'.out
    have HA3 := hid0 (HAl.out wl HBl'.out)
    go_upto_region 14 with (go_at_call 8; go_loud ((
      refine HA3.out.mono ?_
      rintro r wb ⟨v, rfl, ho, hb⟩
      obtain ⟨a3, k3, rfl, hfa, ho⟩ := ho.two
      have HF3 := hid0 hfa
      have HO3 := hid0 ho
      have HBb := hid0 hb
      clear ho hb hfa HA3)))
    clear x1
    have HBb' := hid0 (Below.later HBl'.out HBb.out)
    have HSf : Hid (∀ V : World, Below wb.heap.size wb V → ∀ X : Array Value, (X = #[.slice a0 LA.length k0, .slice ad LA.length cd] ∨ X = #[.slice a1 LA.length k1, .slice ad LA.length cd] ∨ X = #[.slice a3 LA.length k3, .slice ad LA.length cd] ∨ X = #[.slice a2 2 k2, .slice (some ⟨P4, 0, none⟩) 2 2]) → Calls Tryd.prog 9 X V fun r w' => r = .returned (.bool true) ∧ Below wb.heap.size wb w') := hid0 (fun V hV X hX => by
      have key : ∀ (M : List Fd) (p q : Option Addr) (cp cq : Nat), M.length ≤ 140737488355328 → FA V p M → FA V q M → Calls Tryd.prog 9 #[.slice p M.length cp, .slice q M.length cq] V fun r w' => r = .returned (.bool true) ∧ Below wb.heap.size wb w' := fun M p q cp cq h1 h2 h3 => (same_fa M p q cp cq V h1 h2 h3).mono (by
        rintro r w' ⟨rfl, n1, rfl⟩
        exact ⟨rfl, below_drew' hV n1⟩)
      have hd : FA V ad LA := HFd.out.past (Below.later HBb'.out hV)
      rcases hX with rfl | rfl | rfl | rfl
      · exact key LA a0 ad k0 cd (by omega) ((((HF0.out.past HBs.out).past HBl.out).past HBb.out).past hV) hd
      · exact key LA a1 ad k1 cd (by omega) (((HF1.out.past HBl.out).past HBb.out).past hV) hd
      · exact key LA a3 ad k3 cd (by omega) (HF3.out.past hV) hd
      · exact key [(0, 0, 1), (0, 2, 3)] a2 _ k2 2 (by simp) ((HF2.out.past HBb.out).past hV) (HFt.out.past (Below.later HBb'.out hV)))
    have HLo : Hid (∀ V : World, Below wb.heap.size wb V → Calls Tryd.prog 10 #[.slice (some ⟨V.heap.size, 0, none⟩) 4 4] (V.alloc (.cells #[.slice a0 LA.length k0, .slice a1 LA.length k1, .slice a2 2 k2, .slice a3 LA.length k3] 36)) fun r w' => r = .returned (.bool true) ∧ Below wd.heap.size wd w') := hid0 (fun V hV => by
      have hb : Below V.heap.size V (V.alloc (.cells #[.slice a0 LA.length k0, .slice a1 LA.length k1, .slice a2 2 k2, .slice a3 LA.length k3] 36)) := (Below.refl _ _).alloc (Nat.le_refl _) _
      have hlo := lon4 HO0.out HO1.out HO2.out HO3.out HBa.out.size HBs.out HBl.out HBb.out (Below.later hV hb)
      have hr := heap_alloc_new V (.cells #[.slice a0 LA.length k0, .slice a1 LA.length k1, .slice a2 2 k2, .slice a3 LA.length k3] 36)
      have hbs := HBb'.out.size
      have hvs := hV.size
      refine (lone_any V.heap.size wd.heap.size _ _ _ _ _ (fun j hj => ?_) hlo (fun j hj => ?_) (fun j hj => ?_) (fun j hj e => ?_) (by simp; omega)).mono ?_
      · rw [cell_of_row _ _ _ _ _ _ hr]
        rcases (show j = 0 ∨ j = 1 ∨ j = 2 ∨ j = 3 by omega) with rfl | rfl | rfl | rfl <;> rfl
      · rcases (show j = 0 ∨ j = 1 ∨ j = 2 ∨ j = 3 by omega) with rfl | rfl | rfl | rfl <;> rfl
      · rcases (show j = 0 ∨ j = 1 ∨ j = 2 ∨ j = 3 by omega) with rfl | rfl | rfl | rfl
        · exact Nat.le_trans hla (by omega)
        · exact Nat.le_trans hla (by omega)
        · exact (show (2 : Nat) ≤ 33000000000 by omega)
        · exact Nat.le_trans hla (by omega)
      · have h4 := lon4 HO0.out HO1.out HO2.out HO3.out HBa.out.size HBs.out HBl.out HBb.out (Below.refl wb.heap.size wb)
        have := (World.ownsRow.lt (h4.own j hj) V.heap.size e).2
        omega
      · rintro r w' ⟨rfl, ho⟩
        refine ⟨rfl, ((Below.later HBb'.out (Below.later hV hb))).trans (ho.below (by simp; omega) ?_)⟩
        rintro b ⟨j, hj, e⟩
        exact (World.ownsRow.lt (hlo.own j hj) b e).1)
    have HB9 : Hid (Below wb.heap.size wb wb) := hid0 (Below.refl _ _)
    clear HF0 HF1 HF2 HF3 HO0 HO1 HO2 HO3
    go_upto_region 16 with (first
      | (go_at_call 9; go_loud ((
          refine (HSf.out _ HB9.out _ (by first | (left; with_reducible rfl) | (right; left; with_reducible rfl) | (right; right; left; with_reducible rfl) | (right; right; right; with_reducible rfl))).mono ?_
          rintro r w9 ⟨rfl, hb9⟩
          clear HB9
          have HB9 := hid0 hb9
          clear hb9)))
      | (go_at_call 10; go_loud ((
          refine (HLo.out _ HB9.out).mono ?_
          rintro r wz ⟨rfl, hbz⟩
          have HBz := hid0 hbz
          clear hbz HB9)))
      | fail)
    clear HSf HLo
    have x1 := HXd.out wz HBz.out
    have HA4 := hid0 (HAl.out wz HBz.out)
    go_upto_region 17 with (go_at_call 8; go_loud ((
      refine HA4.out.mono ?_
      rintro r wy ⟨v, rfl, ho, hb⟩
      obtain ⟨a5, k5, rfl, hfa, ho⟩ := ho.two
      have HF5 := hid0 hfa
      have HBy := hid0 hb
      clear ho hb hfa HA4)))
    clear x1
    have HBy' := hid0 (Below.later HBz.out HBy.out)
    have HA5 := hid0 (HAo.out wy HBy'.out)
    go_upto_region 18 with (go_at_call 8; go_loud ((
      refine HA5.out.mono ?_
      rintro r wx ⟨v, rfl, ho, hb⟩
      obtain ⟨a6, k6, rfl, hfa, ho⟩ := ho.two
      have HF6 := hid0 hfa
      have HBx := hid0 hb
      clear ho hb hfa HA5)))
    have HBx' := hid0 (Below.later HBy'.out HBx.out)
    have HSf : Hid (∀ V : World, Below wx.heap.size wx V → ∀ X : Array Value, (X = #[.slice a5 LA.length k5, .slice ad LA.length cd] ∨ X = #[.slice a6 2 k6, .slice (some ⟨P4, 0, none⟩) 2 2]) → Calls Tryd.prog 9 X V fun r w' => r = .returned (.bool true) ∧ Below wx.heap.size wx w') := hid0 (fun V hV X hX => by
      have key : ∀ (M : List Fd) (p q : Option Addr) (cp cq : Nat), M.length ≤ 140737488355328 → FA V p M → FA V q M → Calls Tryd.prog 9 #[.slice p M.length cp, .slice q M.length cq] V fun r w' => r = .returned (.bool true) ∧ Below wx.heap.size wx w' := fun M p q cp cq h1 h2 h3 => (same_fa M p q cp cq V h1 h2 h3).mono (by
        rintro r w' ⟨rfl, n1, rfl⟩
        exact ⟨rfl, below_drew' hV n1⟩)
      rcases hX with rfl | rfl
      · exact key LA a5 ad k5 cd (by omega) ((HF5.out.past HBx.out).past hV) (HFd.out.past (Below.later HBx'.out hV))
      · exact key [(0, 0, 1), (0, 2, 3)] a6 _ k6 2 (by simp) (HF6.out.past hV) (HFt.out.past (Below.later HBx'.out hV)))
    have HB9 : Hid (Below wx.heap.size wx wx) := hid0 (Below.refl _ _)
    clear HF5 HF6
    go_wp2_with (go_at_call 9; go_loud ((
      refine (HSf.out _ HB9.out _ (by first | (left; with_reducible rfl) | (right; with_reducible rfl))).mono ?_
      rintro r w9 ⟨rfl, hb9⟩
      clear HB9
      have HB9 := hid0 hb9
      clear hb9)))
    go_ret
    exact ⟨rfl, HBw.out _ (Below.later HBx'.out HB9.out)⟩
end Go.Proofs.YtbmoeoinhlkmbaaDoor
