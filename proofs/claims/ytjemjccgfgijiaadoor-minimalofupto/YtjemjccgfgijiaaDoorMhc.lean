/-
  MjDW, MjEM, MjEW, MjFM, MjHW, MjIW2, MjJW, MjFW, MjGM, ShelfM.
-/
import Derived.Test.YtjemjccgfgijiaaDoorMha
import Derived.Test.YtjemjccgfgijiaaDoorMhb
import Derived.Laws.IdiomStrings
import Derived.Laws.BytesString
import Derived.Maps.OwnSet
import Derived.Maps.OwnOps
import Derived.StringKeys
import Derived.Laws.MakeOwn
import Derived.Shelf.Sort.Plain
import Derived.Shelf.Slices.CompactI
import Derived.Shelf.Slices.Clone
import Derived.Ground.Names2Prog
import Derived.Test.YtjemjccgfgijiaaDoorProg
namespace Go.Proofs.YtjemjccgfgijiaaDoor
open Go.RowKit Go.Shelf
def cellsOf (l : List UInt8) : List Value := l.map fun c => .int .u8 (c.toNat : Int)
/-- A slice of bytes of the call's own. -/
def OwnB (w : World) (base : Nat) (v : Value) (l : List UInt8) : Prop := w.ownsRow base 5 1 v l.length (cellsOf l)
theorem infoU8 : (Tryd.prog.info? 5).map (fun i => (i.zero, i.size, i.bytes)) = some (some (.int .u8 0), 1, 1) := by kernel_rfl
theorem toStr {w : World} {base : Nat} {v : Value} {l : List UInt8} (h : OwnB w base v l) : (convert 100 9 v).run Tryd.prog w = .ok (.string ⟨l.toArray⟩) w := by
  have h0 := h
  rcases h.2 with ⟨rfl, hn⟩ | ⟨g, cap, cur, rfl, _⟩
  · have : l = [] := List.length_eq_zero_iff.1 hn
    subst this
    rw [run_convert_bytes_string w 100 9 5 none 0 0 Tryd.underlying100 Tryd.underlying5 Tryd.underlying9]; rfl
  · refine run_convert_bytes_back (P := Tryd.prog) w 100 9 5 ⟨g, 0, none⟩ cap l Tryd.underlying100 Tryd.underlying5 Tryd.underlying9 (fun j hj => ?_)
    rw [Addr.add_lit, Nat.zero_add, World.ownsRow.cellAt h0 j (by omega)]
    simp [cellsOf, hj]
/-- Bytes put behind. -/
structure Apd (w w' : World) (lo : Nat) (v v' : Value) (l : List UInt8) : Prop where
  own : OwnB w' lo v' l
  frm : Only w w' (fun k => v.ownBlock = some k)
  at' : ∀ k, v'.ownBlock = some k → v.ownBlock = some k ∨ w.heap.size ≤ k
theorem apd_more {w wr w2 : World} {lo : Nat} {v u v' : Value} {l : List UInt8} {c : UInt8} {o : Obj} (h : Apd w wr lo v u l) (hown : w2.ownsRow lo 5 1 v' (l.length + 1) (cellsOf l ++ [.int .u8 (c.toNat : Int)])) (hg : (wr.alloc o).grownBy w2 u.ownBlock) (hat : v'.ownBlock = u.ownBlock ∨ v'.ownBlock = some (wr.alloc o).heap.size) : Apd w w2 lo v v' (l ++ [c]) := by
  refine ⟨?_, h.frm.trans ((Only.alloc wr o (fun k => u.ownBlock = some k)).trans (Only.ofGrown hg) (fun _ h => .inl h)) (fun k hk => h.at' k hk), fun k hk => ?_⟩
  · unfold OwnB
    rw [List.length_append, List.length_singleton]
    have e : cellsOf (l ++ [c]) = cellsOf l ++ [.int .u8 (c.toNat : Int)] := by simp [cellsOf]
    rw [e]
    exact hown
  · rcases hat with e | e
    · exact h.at' k (by rw [← e]; exact hk)
    · rw [e] at hk
      cases hk
      right
      have := h.frm.size
      simp
      omega
set_option maxRecDepth 10000 in
set_option maxHeartbeats 1600000 in
theorem addNumber_any (lo n : Nat) (v : Value) (l : List UInt8) (w : World) (ho : OwnB w lo v l) (hl : l.length ≤ 100000000000) (hn : n < 9223372036854775808) (hlo : lo ≤ w.heap.size) :
    Calls Tryd.prog 66 #[v, .int .i64 (n : Int)] w fun e w' => ∃ v', e = .returned v' ∧ Apd w w' lo v v' (l ++ encN n) := by
  obtain ⟨i0, hi, hz0, hz1, hz2⟩ := info_parts infoU8
  have HA : Hid (Apd w w lo v v l) := hid0 ⟨ho, Only.refl _ _, fun k hk => .inl hk⟩
  clear ho
  go_enter Tryd.func66, Tryd.ntmps66
  go_wp2
  go_loopw [0, 1] (fun u i wr => ∃ (m : Nat) (p : List UInt8), i = .int .i64 (m : Int) ∧ m < 9223372036854775808 ∧ p.length ≤ 100000000020 ∧ Hid (p ++ encN m = l ++ encN n) ∧ Hid (Apd w wr lo v u p)) (fun _ i _ => (intOf i).toNat)
  case atStart => exact ⟨n, l, rfl, hn, by omega, hid0 rfl, HA⟩
  case round =>
    obtain ⟨m, p, rfl, hm, hp, HE, HP⟩ := hrel
    have HO : Hid (∀ o : Obj, (wr.alloc o).ownsRow lo 5 1 u0 p.length (cellsOf p)) := hid0 (fun o => World.ownsRow.alloc HP.out.own o)
    have hlo2 : lo ≤ wr.heap.size := Nat.le_trans hlo HP.out.frm.size
    obtain ⟨au, cu, hu0⟩ : ∃ au cu, u0 = .slice au p.length cu := by
      rcases HP.out.own.2 with ⟨e, hn⟩ | ⟨g, cap, cur, e, _⟩
      · exact ⟨none, 0, by rw [e, hn]⟩
      · exact ⟨_, _, e⟩
    subst hu0
    by_cases hb : m < 128
    · have hbI : (m : Int) < 128 := by omega
      have hw8 : IntKind.u8.wrap (m : Int) = (m : Int) := by rw [IntKind.wrap_u8']; omega
      have hc : ((UInt8.ofNat m).toNat : Int) = (m : Int) := by rw [u8_toN m (by omega)]
      have HNx : Hid (∀ (v' : Value) (w2 : World), w2.ownsRow lo 5 1 v' (p.length + 1) (cellsOf p ++ [.int .u8 (m : Int)]) → (wr.alloc (.cells #[.int .u8 (m : Int)] 5)).grownBy w2 (Value.slice au p.length cu).ownBlock → (v'.ownBlock = (Value.slice au p.length cu).ownBlock ∨ v'.ownBlock = some (wr.alloc (.cells #[.int .u8 (m : Int)] 5)).heap.size) → Apd w w2 lo v v' (l ++ encN n)) := hid0 (fun v' w2 h1 h2 h3 => by
        have := apd_more (c := UInt8.ofNat m) HP.out (by rw [hc]; exact h1) h2 h3
        rw [← HE.out, encN_small hb]
        exact this)
      clear hc HE HP
      go_wp2_with (at_builtin; go_loud ((refine wpList_append_own_at _ rfl _ _ 100 rfl lo 5 i0 (.int .u8 0) 1 1 Tryd.underlying100 hi hz0 hz1 hz2 rfl (by decide) (.slice au p.length cu) p.length (cellsOf p) rfl (HO.out _) ⟨wr.heap.size, 0, none⟩ 1 1 [.int .u8 (m : Int)] rfl rfl (cell_one_new _ _ _) (by simp [Value.oneCell']) (by unfold maxLen; omega) (by omega) (by simp; omega) ?_; intro v' w2 hown hgrow _ hat; have HN := hid0 (HNx.out _ _ hown hgrow hat); clear hown hgrow hat)))
      go_ret
      exact ⟨_, rfl, HN.out⟩
    · have hbI : ¬ (m : Int) < 128 := by omega
      have hbI2 : (128 : Int) ≤ (m : Int) := by omega
      obtain ⟨x, hx⟩ : ∃ x, x = m % 256 := ⟨_, rfl⟩
      obtain ⟨y, hy⟩ : ∃ y, y = m % 128 + 128 := ⟨_, rfl⟩
      have hw8 : IntKind.u8.wrap (m : Int) = (x : Int) := by rw [IntKind.wrap_u8']; omega
      have hor : bits .or .u8 (x : Int) 128 = (y : Int) := by
        have h1 := u8_or_nat x 128 (by omega) (by omega)
        have h2 : ∀ x, x < 256 → x ||| 128 = x % 128 + 128 := by decide
        rw [h2 x (by omega)] at h1
        have e : ((128 : Nat) : Int) = 128 := rfl
        rw [e] at h1
        rw [h1]
        omega
      have hc : ((UInt8.ofNat (m % 128 + 128)).toNat : Int) = (y : Int) := by rw [u8_toN _ (by omega), hy]
      have HNx : Hid (∀ (v' : Value) (w2 : World), w2.ownsRow lo 5 1 v' (p.length + 1) (cellsOf p ++ [.int .u8 (y : Int)]) → (wr.alloc (.cells #[.int .u8 (y : Int)] 5)).grownBy w2 (Value.slice au p.length cu).ownBlock → (v'.ownBlock = (Value.slice au p.length cu).ownBlock ∨ v'.ownBlock = some (wr.alloc (.cells #[.int .u8 (y : Int)] 5)).heap.size) → Apd w w2 lo v v' (p ++ [UInt8.ofNat (m % 128 + 128)])) := hid0 (fun v' w2 h1 h2 h3 => apd_more (c := UInt8.ofNat (m % 128 + 128)) HP.out (by rw [hc]; exact h1) h2 h3)
      have HE2 : Hid (p ++ [UInt8.ofNat (m % 128 + 128)] ++ encN (m / 128) = l ++ encN n) := hid0 (by rw [← HE.out, encN_big hb]; simp)
      have HL2 : Hid ((p ++ [UInt8.ofNat (m % 128 + 128)]).length ≤ 100000000020) := hid0 (by
        have h1 := congrArg List.length HE2.out
        simp only [List.length_append] at h1 ⊢
        have h2 := encN_ten hn
        omega)
      clear hc HE HP hx hy
      go_wp2_with (at_builtin; go_loud ((refine wpList_append_own_at _ rfl _ _ 100 rfl lo 5 i0 (.int .u8 0) 1 1 Tryd.underlying100 hi hz0 hz1 hz2 rfl (by decide) (.slice au p.length cu) p.length (cellsOf p) rfl (HO.out _) ⟨wr.heap.size, 0, none⟩ 1 1 [.int .u8 (y : Int)] rfl rfl (cell_one_new _ _ _) (by simp [Value.oneCell']) (by unfold maxLen; omega) (by omega) (by simp; omega) ?_; intro v' w2 hown hgrow _ hat; have HN := hid0 (HNx.out _ _ hown hgrow hat); clear hown hgrow hat)))
      go_roundw
      case rel => exact ⟨m / 128, _, by go_num, by omega, HL2.out, HE2, HN⟩
      case measure => simp [intOf]; omega
/-- What cutAll leaves. -/
def CutsW (w : World) (lo l0 h0 j0 j1 P R L C n : Nat) (cl : Nat → Nat) (sp : List (Nat × Nat)) (Ls : List (List Nat)) (wt : Nat → Nat) (T : Nat) (w' : World) : Prop := ∃ ro' pl' cl' vs' sp' vq' q', Pt w' lo l0 h0 j0 j1 P R L C n ro' pl' cl' vs' sp' vq' q' ∧ Prt n ro' pl' cl' sp' ∧ CutsR n Ls cl cl' q' sp.length sp'.length wt T ∧ Only w w' (gapF lo l0 h0 j0 j1)
/-- Lists of states in memory, in the gap. -/
structure GapL (w : World) (l0 h0 : Nat) (a : Option Addr) (Ls : List (List Nat)) : Prop where
  at' : ∀ k (h : k < Ls.length), ∃ b off, a = some ⟨b, off, none⟩ ∧ b < w.heap.size ∧ l0 ≤ b ∧ b < h0 ∧ ∃ a1 c1, w.cell? ⟨b, off + k, none⟩ = some (.slice a1 (Ls[k]).length c1) ∧ IA w a1 (natI Ls[k]) ∧ ∀ p, a1 = some p → l0 ≤ p.block ∧ p.block < h0
theorem GapL.keep {w W : World} {lo l0 h0 j0 j1 : Nat} {a : Option Addr} {Ls : List (List Nat)} (h : GapL w l0 h0 a Ls) (hb : Only w W (gapF lo l0 h0 j0 j1)) : GapL W l0 h0 a Ls := ⟨fun k hk => by
  obtain ⟨b, off, rfl, h1, h2, h3, a1, c1, h4, h5, h6⟩ := h.at' k hk
  refine ⟨b, off, rfl, Nat.lt_of_lt_of_le h1 hb.size, h2, h3, a1, c1, (hb.cell (p := ⟨b, off + k, none⟩) h1 (fun s => ?_)).trans h4, gap_ia h5 hb h6, h6⟩
  have := s.2.1
  simp only at *
  omega⟩
set_option maxRecDepth 10000 in
set_option maxHeartbeats 1600000 in
theorem cutAll_any (lo l0 h0 j0 j1 P R L C n : Nat) (ro pl cl : Nat → Nat) (vs : Value) (sp : List (Nat × Nat)) (vq : Value) (Ls : List (List Nat)) (aL : Option Addr) (cL : Nat) (wt : Nat → Nat) (T : Nat) (w : World) (hp : Pt w lo l0 h0 j0 j1 P R L C n ro pl cl vs sp vq []) (hr : Prt n ro pl cl sp) (hL : Cutlist n cl Ls) (ha : GapL w l0 h0 aL Ls) (hn : n ≤ 2200000) (hl : Ls.length ≤ n) (hT : ∀ l : List Nat, l.Nodup → (∀ x ∈ l, x < n) → (l.map wt).sum ≤ T) :
    Calls Tryd.prog 50 #[.pointer (some ⟨P, 0, none⟩), .slice aL Ls.length cL] w fun e w' => e = .returned (.tuple #[]) ∧ CutsW w lo l0 h0 j0 j1 P R L C n cl sp Ls wt T w' := by
  have HA := hid0 ha
  have HL := hid0 hL
  have HT := hid0 hT
  have H0 : Hid (CutsW w lo l0 h0 j0 j1 P R L C n cl sp (Ls.take 0) wt T w) := hid0 ⟨ro, pl, cl, vs, sp, vq, [], hp, hr, cutsR_nil _ _ _ _ _, Only.refl _ _⟩
  clear ha hL hT hp hr
  go_enter Tryd.func50, Tryd.ntmps50
  go_wp2
  go_loopw [8] (fun i wr => ∃ k : Nat, k ≤ Ls.length ∧ i = .int .i64 (k : Int) ∧ Hid (CutsW w lo l0 h0 j0 j1 P R L C n cl sp (Ls.take k) wt T wr)) (fun i _ => Ls.length - (intOf i).toNat)
  case atStart => exact ⟨0, Nat.zero_le _, rfl, H0⟩
  case round =>
    obtain ⟨k, hk, rfl, HC⟩ := hrel
    by_cases hlt : k < Ls.length
    · have hkI : (k : Int) < (Ls.length : Int) := by omega
      have hk0 : (0 : Int) ≤ (k : Int) := by omega
      obtain ⟨ro', pl', cl', vs', sp', vq', q', h1, h2, h3, h4⟩ := HC.out
      obtain ⟨b, off, rfl, _, _, _, a1, c1, d1, i1, g1⟩ := (HA.out.keep h4).at' k hlt
      have hq : q'.length ≤ 5000000000000 := by
        have h5 := h3.len
        rw [List.length_take, Nat.min_eq_left (Nat.le_of_lt hlt)] at h5
        have h6 : k * n ≤ 2200000 * 2200000 := Nat.mul_le_mul (by omega) hn
        omega
      have HCt := hid0 (cut_any lo l0 h0 j0 j1 P R L C n ro' pl' cl' vs' sp' vq' q' Ls[k] a1 c1 wr h1 h2 (h3.next HL.out hlt) i1 g1 (by omega) hq)
      have HNx : Hid (∀ w2, CutW wr lo l0 h0 j0 j1 P R L C n cl' sp' q' Ls[k] w2 → CutsW w lo l0 h0 j0 j1 P R L C n cl sp (Ls.take (k + 1)) wt T w2) := hid0 (fun w2 hc => by
        obtain ⟨ro2, pl2, cl2, vs2, sp2, vq2, add, e1, e2, e3, e4⟩ := hc
        refine ⟨ro2, pl2, cl2, vs2, sp2, vq2, _, e1, e2, ?_, h4.trans e4 (fun i hi => .inl hi)⟩
        rw [List.take_succ_eq_append_getElem hlt]
        exact h3.snoc e3 HT.out)
      clear h1 h2 h3 h4 i1 g1 hq HC
      generalize Ls[k] = S at *
      go_wp2_with (go_at_call 64; go_loud ((refine HCt.out.mono ?_; rintro e w2 ⟨rfl, hc2⟩; have HC2 := hid0 (HNx.out w2 hc2); clear hc2)))
      go_roundw
      case rel => exact ⟨k + 1, by omega, by go_num, HC2⟩
      case measure => simp [intOf]; omega
    · obtain rfl : k = Ls.length := by omega
      have hkI : ¬ (Ls.length : Int) < (Ls.length : Int) := by omega
      have HF : Hid (CutsW w lo l0 h0 j0 j1 P R L C n cl sp Ls wt T wr) := hid0 (by have := HC.out; rw [List.take_length] at this; exact this)
      clear HC
      go_wp2
      go_returns
      exact ⟨rfl, HF.out⟩
set_option maxRecDepth 10000 in
set_option maxHeartbeats 800000 in
theorem take_any (lo l0 h0 j0 j1 P R L C n : Nat) (ro pl cl : Nat → Nat) (vs : Value) (sp : List (Nat × Nat)) (vq : Value) (q : List Nat) (w : World) (hp : Pt w lo l0 h0 j0 j1 P R L C n ro pl cl vs sp vq q) :
    Calls Tryd.prog 53 #[.pointer (some ⟨P, 0, none⟩)] w fun e w' => e = .returned vq ∧ Pt w' lo l0 h0 j0 j1 P R L C n ro pl cl vs sp (.slice none 0 0) [] ∧ OwnI w' lo vq (natI q) ∧ Only w w' (fun b => b = P) ∧ w'.heap.size = w.heap.size := by
  obtain ⟨aq, cq, hvq, _⟩ := hp.queue.ia
  rw [natI_len] at hvq
  subst hvq
  obtain ⟨_, _, _, _, c4⟩ := hp.cell
  have f4 := hp.frozen 4
  obtain ⟨n1, n2, n3, n4, n5, n6⟩ := hp.ne
  obtain ⟨w1, hw1⟩ : ∃ w1, w1 = w.setCell ⟨P, 4, none⟩ (.slice none 0 0) := ⟨_, rfl⟩
  have hO : Only w w1 (fun b => b = P) := by rw [hw1]; exact Only.setCell _ _ _ _
  have key : ∀ b, b ≠ P → w1.heap[b]? = w.heap[b]? := fun b hb => by rw [hw1]; exact Below.heap_setCell _ _ _ _ hb
  have hq1 : OwnI w1 lo (.slice aq q.length cq) (natI q) := own_blk hp.queue (fun k hk => key _ (by
    obtain ⟨cs, hc⟩ := own_ty hp.queue hk
    exact blk_ne hc hp.blk (by decide)))
  have hP1 : Pt w1 lo l0 h0 j0 j1 P R L C n ro pl cl vs sp (.slice none 0 0) [] := ⟨by rw [hw1]; exact heap_setCell_same _ _ 4 _ _ _ hp.blk, hp.row.keep (key _ (Ne.symm n1)), hp.place.keep (key _ (Ne.symm n2)), hp.class'.keep (key _ (Ne.symm n3)), own_blk hp.spans (fun k hk => key _ (by
    obtain ⟨cs, hc⟩ := own_ty hp.spans hk
    exact blk_ne hc hp.blk (by decide))), World.ownsRow_nil _ _ _ _, hp.gs, (fun k hk => nomatch hk), hp.ne, hp.g4, (fun k hk => nomatch hk), Nat.le_trans hp.big hO.size, hp.lol, Nat.le_trans hp.bj hO.size⟩
  have HF := hid0 (And.intro hP1 (And.intro hq1 (And.intro hO (show w1.heap.size = w.heap.size by rw [hw1]; simp [World.setCell]))))
  have g1 := hw1.symm
  clear hw1 hO key hq1 hP1 hp
  go_enter Tryd.func53, Tryd.ntmps53
  go_wp2
  go_ret
  exact ⟨rfl, HF.out⟩
end Go.Proofs.YtjemjccgfgijiaaDoor
namespace Go.Proofs.YtjemjccgfgijiaaDoor
open Go.RowKit Go.Shelf Go.Lib Go.Maps
/-- Numbers in memory, in a block from lo on. -/
structure IQ (w : World) (lo : Nat) (a : Option Addr) (L : List Int) : Prop where
  at' : ∀ k (h : k < L.length), ∃ b off, a = some ⟨b, off, none⟩ ∧ lo ≤ b ∧ b < w.heap.size ∧ w.cell? ⟨b, off + k, none⟩ = some (.int .i64 L[k])
theorem IQ.ia {w : World} {lo : Nat} {a : Option Addr} {L : List Int} (h : IQ w lo a L) : IA w a L := ⟨fun k hk => by
  obtain ⟨b, off, e, _, h1, h2⟩ := h.at' k hk
  exact ⟨b, off, e, h1, h2⟩⟩
theorem IQ.keep {w w' : World} {lo : Nat} {a : Option Addr} {L : List Int} (h : IQ w lo a L) (hs : w.heap.size ≤ w'.heap.size) (hk : ∀ k, lo ≤ k → k < w.heap.size → w'.heap[k]? = w.heap[k]?) : IQ w' lo a L := ⟨fun k hk' => by
  obtain ⟨b, off, e, h0, h1, h2⟩ := h.at' k hk'
  exact ⟨b, off, e, h0, by omega, (World.cell?_of_block (w := w) (hk b h0 h1)).trans h2⟩⟩
/-- Lists of numbers likewise. -/
structure RwQ (w : World) (lo : Nat) (a : Option Addr) (L : List (List Int)) : Prop where
  at' : ∀ k (h : k < L.length), ∃ b off, a = some ⟨b, off, none⟩ ∧ lo ≤ b ∧ b < w.heap.size ∧ ∃ a1 c1, w.cell? ⟨b, off + k, none⟩ = some (.slice a1 (L[k]).length c1) ∧ IQ w lo a1 L[k]
theorem RwQ.rwa {w : World} {lo : Nat} {a : Option Addr} {L : List (List Int)} (h : RwQ w lo a L) : RwA w a L := ⟨fun k hk => by
  obtain ⟨b, off, e, _, h1, a1, c1, h2, h3⟩ := h.at' k hk
  exact ⟨b, off, e, h1, a1, c1, h2, h3.ia⟩⟩
theorem RwQ.keep {w w' : World} {lo : Nat} {a : Option Addr} {L : List (List Int)} (h : RwQ w lo a L) (hs : w.heap.size ≤ w'.heap.size) (hk : ∀ k, lo ≤ k → k < w.heap.size → w'.heap[k]? = w.heap[k]?) : RwQ w' lo a L := ⟨fun k hk' => by
  obtain ⟨b, off, e, h0, h1, a1, c1, h2, h3⟩ := h.at' k hk'
  exact ⟨b, off, e, h0, by omega, a1, c1, (World.cell?_of_block (w := w) (hk b h0 h1)).trans h2, h3.keep hs hk⟩⟩
theorem OwnI.iq {w : World} {base : Nat} {v : Value} {L : List Int} (h : OwnI w base v L) : ∃ a cap, v = .slice a L.length cap ∧ IQ w base a L := by
  have h0 := h
  rcases h.2 with ⟨rfl, hn⟩ | ⟨g, cap, cur, rfl, hg, hr, hc, _⟩
  · exact ⟨none, 0, by rw [hn], ⟨fun k hk => by omega⟩⟩
  · refine ⟨_, cap, rfl, ⟨fun k hk => ⟨g, 0, rfl, hg, (World.ownsRow.lt h0 g rfl).2, ?_⟩⟩⟩
    have := World.ownsRow.cellAt h0 k (by omega)
    rw [Nat.zero_add, this]
    simp [hk]
theorem OwnI.past {w w' : World} {base : Nat} {v : Value} {L : List Int} (h : OwnI w base v L) (hb : Below w.heap.size w w') : OwnI w' base v L := own_blk h (fun k hk => hb.block k (World.ownsRow.lt h k hk).2)
theorem row_later {w w' : World} {base : Nat} {t : TypeId} {size n : Nat} {v : Value} {xs : List Value} (h : w.ownsRow base t size v n xs) (hb : Below w.heap.size w w') : w'.ownsRow base t size v n xs := own_blk h (fun k hk => hb.block k (World.ownsRow.lt h k hk).2)
abbrev Lot := List (Value × List Int)
structure Bag (w : World) (base : Nat) (v : Value) (ps : Lot) : Prop where
  outer : w.ownsRow base 25 1 v ps.length (ps.map (·.1))
  row : ∀ x ∈ ps, OwnI w base x.1 x.2
  apart : ps.Pairwise fun x y => ∀ g, x.1.ownBlock = some g → y.1.ownBlock ≠ some g
  away : ∀ x ∈ ps, ∀ g, v.ownBlock = some g → x.1.ownBlock ≠ some g
theorem Bag.nil (w : World) (base : Nat) : Bag w base (.slice none 0 0) [] := ⟨World.ownsRow_nil _ _ _ _, by simp, List.Pairwise.nil, by simp⟩
theorem Bag.later {w w' : World} {base : Nat} {v : Value} {ps : Lot} (h : Bag w base v ps) (hb : Below w.heap.size w w') : Bag w' base v ps :=
  ⟨row_later h.outer hb, fun x hx => (h.row x hx).past hb, h.apart, h.away⟩
/-- All lists empty. -/
theorem Bag.made {w : World} {base : Nat} {v : Value} {n : Nat} (h : w.ownsRow base 25 1 v n (List.replicate n (.slice none 0 0))) : Bag w base v (List.replicate n (.slice none 0 0, [])) := by
  refine ⟨?_, ?_, ?_, ?_⟩
  · rw [List.length_replicate, List.map_replicate]; exact h
  · intro x hx
    rw [List.eq_of_mem_replicate hx]
    exact World.ownsRow_nil _ _ _ _
  · rw [List.pairwise_replicate]
    right
    intro g hg
    cases hg
  · intro x hx g _ hxg
    rw [List.eq_of_mem_replicate hx] at hxg
    cases hxg
/-- One list is another one. -/
theorem Bag.set {W w1 : World} {base g n c : Nat} {ps : Lot} (h : Bag W base (.slice (some ⟨g, 0, none⟩) n c) ps) (hn : n = ps.length) (y : Nat) (hy : y < ps.length) {v' : Value} {l' : List Int}
    (hk : ∀ k, k < W.heap.size → (ps[y]).1.ownBlock ≠ some k → w1.heap[k]? = W.heap[k]?) (hv : OwnI w1 base v' l') (hnew : ∀ q, v'.ownBlock = some q → (ps[y]).1.ownBlock = some q ∨ W.heap.size ≤ q) :
    Bag (w1.setCell ⟨g, y, none⟩ v') base (.slice (some ⟨g, 0, none⟩) n c) (ps.set y (v', l')) := by
  subst hn
  have hmem : ps[y] ∈ ps := List.getElem_mem hy
  have hgl := World.ownsRow.lt h.outer g rfl
  have hvg : ∀ q, v'.ownBlock = some q → q ≠ g := fun q hq e => by
    subst e
    rcases hnew q hq with h1 | h1
    · exact h.away _ hmem q rfl h1
    · omega
  have hyg : (ps[y]).1.ownBlock ≠ some g := h.away _ hmem g rfl
  have hout1 : w1.ownsRow base 25 1 (.slice (some ⟨g, 0, none⟩) ps.length c) ps.length (ps.map (·.1)) := own_blk h.outer (fun k hk' => by
    have e : g = k := by simpa [Value.ownBlock] using hk'
    subst e
    exact hk g hgl.2 hyg)
  have hother : ∀ {t : TypeId} {size m : Nat} {u : Value} {xs : List Value}, w1.ownsRow base t size u m xs → (∀ q, u.ownBlock = some q → q ≠ g) → (w1.setCell ⟨g, y, none⟩ v').ownsRow base t size u m xs := by
    intro t size m u xs ho hne
    exact own_blk ho (fun q hq => Below.heap_setCell w1 _ _ q (hne q hq))
  refine ⟨?_, ?_, ?_, ?_⟩
  · have h1 := (World.ownsRow.stored hout1 y v').1
    rw [List.length_set, List.map_set]
    exact h1
  · intro x hx
    obtain ⟨j, hj, rfl⟩ := List.getElem_of_mem hx
    have hj2 : j < ps.length := by simpa using hj
    rw [List.getElem_set]
    split
    · exact hother hv hvg
    · rename_i hne
      have hr := h.row _ (List.getElem_mem hj2)
      refine hother (own_blk hr (fun q hq => hk q (World.ownsRow.lt hr q hq).2 ?_)) (fun q hq e => ?_)
      · intro hyq
        have := List.pairwise_iff_getElem.1 h.apart
        rcases Nat.lt_or_gt_of_ne hne with hlt | hlt
        · exact this y j hy hj2 hlt q hyq hq
        · exact this j y hj2 hy hlt q hq hyq
      · subst e
        exact h.away _ (List.getElem_mem hj2) q rfl hq
  · rw [List.pairwise_iff_getElem]
    intro i j hi hj hij q hiq hjq
    have hi2 : i < ps.length := by simpa using hi
    have hj2 : j < ps.length := by simpa using hj
    have ap := List.pairwise_iff_getElem.1 h.apart
    rw [List.getElem_set] at hiq hjq
    split at hiq
    · rename_i e
      subst e
      rw [if_neg (by omega)] at hjq
      rcases hnew q hiq with h1 | h1
      · exact ap y j hi2 hj2 hij q h1 hjq
      · have := (World.ownsRow.lt (h.row _ (List.getElem_mem hj2)) q hjq).2; omega
    · split at hjq
      · rename_i e
        subst e
        rcases hnew q hjq with h1 | h1
        · exact ap i y hi2 hj2 hij q hiq h1
        · have := (World.ownsRow.lt (h.row _ (List.getElem_mem hi2)) q hiq).2; omega
      · exact ap i j hi2 hj2 hij q hiq hjq
  · intro x hx q hq hxq
    have e : g = q := by simpa [Value.ownBlock] using hq
    subst e
    obtain ⟨j, hj, rfl⟩ := List.getElem_of_mem hx
    have hj2 : j < ps.length := by simpa using hj
    rw [List.getElem_set] at hxq
    split at hxq
    · exact hvg g hxq rfl
    · exact h.away _ (List.getElem_mem hj2) g rfl hxq
theorem Bag.cells {w : World} {base g n c : Nat} {ps : Lot} (h : Bag w base (.slice (some ⟨g, 0, none⟩) n c) ps) (hn : n = ps.length) (j : Nat) (hj : j < ps.length) : w.cell? ⟨g, j, none⟩ = some (ps[j]).1 ∧ w.frozen? ⟨g, j, none⟩ = false := by
  subst hn
  refine ⟨?_, World.ownsRow.frozenAt h.outer j⟩
  rw [World.ownsRow.cellAt h.outer j (by omega)]
  simp [hj]
theorem Bag.rwq {w : World} {base : Nat} {v : Value} {ps : Lot} (h : Bag w base v ps) : ∃ a c, v = .slice a (ps.map (·.2)).length c ∧ RwQ w base a (ps.map (·.2)) := by
  have h0 := h.outer
  rcases h0.2 with ⟨hv, hn⟩ | ⟨g, cap, cur, hv, hg, _⟩
  · have hps : ps = [] := List.eq_nil_of_length_eq_zero (by omega)
    subst hps
    exact ⟨none, 0, hv, ⟨fun k hk => by simp at hk⟩⟩
  · refine ⟨some ⟨g, 0, none⟩, cap, by rw [hv, List.length_map], ⟨fun k hk => ?_⟩⟩
    have hk' : k < ps.length := by simpa using hk
    obtain ⟨a1, c1, e1, hq⟩ := (h.row ps[k] (List.getElem_mem hk')).iq
    rw [hv] at h0
    refine ⟨g, 0, rfl, hg, (World.ownsRow.lt h0 g rfl).2, a1, c1, ?_, ?_⟩
    · rw [Nat.zero_add, World.ownsRow.cellAt h0 k (by omega)]
      simp [hk', e1]
    · simp only [List.getElem_map]
      exact hq
/-- One more, made behind the others. -/
theorem Bag.snoc {W wr w1 : World} {base : Nat} {v v' x : Value} {ps : Lot} {l : List Int} {o : Obj} {n : Nat} (hn : n = ps.length) (h : Bag W base v ps) (hk : Below W.heap.size W wr) (hx : OwnI wr W.heap.size x l) (hbase : base ≤ W.heap.size)
    (hown' : w1.ownsRow base 25 1 v' (n + 1) (ps.map (·.1) ++ [x])) (hgrow : (wr.alloc o).grownBy w1 v.ownBlock) (hat : v'.ownBlock = v.ownBlock ∨ v'.ownBlock = some (wr.alloc o).heap.size) {w : World} (hb : Below base w W) :
    Bag w1 base v' (ps ++ [(x, l)]) ∧ Below base w w1 := by
  subst hn
  have h2 := h.later hk
  have hs := hk.size
  have hxl := World.ownsRow.lt hx
  have hxa : ∀ g, v.ownBlock = some g → x.ownBlock ≠ some g := fun g hg hxg => by
    have e1 := (World.ownsRow.lt h.outer g hg).2
    have e2 := (hxl g hxg).1
    omega
  have old : ∀ (u : Value) (m : List Int) (b : Nat), OwnI wr b u m → (∀ g, v.ownBlock = some g → u.ownBlock ≠ some g) → OwnI w1 b u m := fun u m b hu hne => by
    refine World.ownsRow.kept (World.ownsRow.alloc hu o) hgrow ?_
    cases e : u.ownBlock with
    | none => exact .inl rfl
    | some g => exact .inr fun hc => hne g hc.symm e
  refine ⟨⟨?_, ?_, ?_, ?_⟩, ?_⟩
  · rw [List.length_append, List.map_append]
    exact hown'
  · intro y hy
    rcases List.mem_append.1 hy with hy | hy
    · exact old _ _ _ (h2.row y hy) (h.away y hy)
    · rw [List.mem_singleton] at hy
      subst hy
      exact owns_lower (old _ _ _ hx hxa) hbase
  · rw [List.pairwise_append]
    refine ⟨h.apart, List.pairwise_singleton _ _, ?_⟩
    intro y hy z hz g hg hzg
    rw [List.mem_singleton] at hz
    subst hz
    have e1 := (World.ownsRow.lt (h.row y hy) g hg).2
    have e2 := (hxl g hzg).1
    omega
  · intro y hy g hg hyg
    have hlt : g < wr.heap.size := by
      rcases List.mem_append.1 hy with hy | hy
      · exact (World.ownsRow.lt (h2.row y hy) g hyg).2
      · rw [List.mem_singleton] at hy
        subst hy
        exact (hxl g hyg).2
    rcases hat with hat | hat
    · rw [hat] at hg
      rcases List.mem_append.1 hy with hy | hy
      · exact h.away y hy g hg hyg
      · rw [List.mem_singleton] at hy
        subst hy
        exact hxa g hg hyg
    · rw [hat] at hg
      simp at hg
      omega
  · refine ((hb.trans (hk.mono hbase)).alloc ?_ o).grown hgrow ?_ (fun k hk' => (World.ownsRow.lt h.outer k hk').1)
    · omega
    · simp; omega
theorem Bag.grown {W w2 : World} {o : Obj} {base g n c : Nat} {ps : Lot} (h : Bag W base (.slice (some ⟨g, 0, none⟩) n c) ps) (hn : n = ps.length) (y : Nat) (hy : y < ps.length) {row : Option Nat} (hrow : row = (ps[y]).1.ownBlock) (hgrow : (W.alloc o).grownBy w2 row) :
    w2.cell? ⟨g, y, none⟩ = some (ps[y]).1 ∧ w2.frozen? ⟨g, y, none⟩ = false ∧ ∀ k, k < W.heap.size → (ps[y]).1.ownBlock ≠ some k → w2.heap[k]? = W.heap[k]? := by
  subst hn hrow
  have hb : ∀ k, k < W.heap.size → (ps[y]).1.ownBlock ≠ some k → w2.heap[k]? = W.heap[k]? := fun k hk hne => (hgrow.block k (by simp; omega) (fun e => hne e.symm)).trans (heap_alloc_old W o hk)
  have hgl := (World.ownsRow.lt h.outer g rfl).2
  have hne : (ps[y]).1.ownBlock ≠ some g := h.away _ (List.getElem_mem hy) g rfl
  have ho : w2.ownsRow base 25 1 (.slice (some ⟨g, 0, none⟩) ps.length c) ps.length (ps.map (·.1)) := own_blk h.outer (fun k hk => by
    have e : g = k := by simpa [Value.ownBlock] using hk
    subst e
    exact hb g hgl hne)
  refine ⟨?_, World.ownsRow.frozenAt ho y, hb⟩
  rw [World.ownsRow.cellAt ho y (by omega)]
  simp [hy]
theorem lawS : Keyed Tryd.prog 9 := string_keyed Tryd.underlying9
def strB (k : List UInt8) : ByteArray := ⟨k.toArray⟩
def keyS (k : List UInt8) : Lit := .string k
theorem keyS_inj {a b : List UInt8} (h : keyS a = keyS b) : a = b := by unfold keyS at h; injection h
theorem keyS_is (k : List UInt8) : WideAt.IsKeyLit (keyS k) := trivial
/-- A map that has the texts ks, each with its number. -/
structure SaysS (D : DataW Unit) (ks : List (List UInt8)) : Prop where
  has : ∀ c, Maps.has D (keyS c) = decide (c ∈ ks)
  at' : ∀ i (h : i < ks.length), D.atKey (keyS ks[i]) (.lit (.int .i64 0)) = .lit (.int .i64 (i : Int))
  off : ∀ c, c ∉ ks → D.atKey (keyS c) (.lit (.int .i64 0)) = .lit (.int .i64 0)
theorem saysS_nil : SaysS (.map []) [] := ⟨fun c => by rfl, fun i h => absurd h (Nat.not_lt_zero _), fun c _ => rfl⟩
theorem saysS_put {D : DataW Unit} {ks : List (List UInt8)} (h : SaysS D ks) (hT : Tidy D) {c : List UInt8} (hc : c ∉ ks) : SaysS (D.put (keyS c) (.lit (.int .i64 (ks.length : Int)))) (ks ++ [c]) where
  has := fun d => by
    by_cases e : d = c
    · subst e
      rw [has_put_same hT.isMap (keyS_is _)]
      simp
    · rw [has_put_other (fun he => e (keyS_inj he)), h.has]
      simp [e]
  at' := fun i hi => by
    by_cases e : i < ks.length
    · rw [List.getElem_append_left e, atKey_put_other (fun he => hc (by rw [← keyS_inj he]; exact List.getElem_mem e)), h.at' i e]
    · have e2 : i = ks.length := by simp at hi; omega
      subst e2
      rw [List.getElem_append_right (Nat.le_refl _)]
      simp only [Nat.sub_self, List.getElem_cons_zero]
      exact atKey_put_same hT.isMap (keyS_is _) _ _
  off := fun d hd => by
    rw [List.mem_append, not_or] at hd
    rw [atKey_put_other (fun he => hd.2 (by rw [keyS_inj he]; simp))]
    exact h.off d hd.1
/-- The block B is the map of the texts ks. -/
def MapS (w : World) (B : Nat) (ks : List (List UInt8)) : Prop := ∃ D, w.ownsMap Tryd.prog 9 (plainElem Tryd.prog 3) B ks.length D ∧ SaysS D ks
theorem MapS.lt {w : World} {B : Nat} {ks : List (List UInt8)} (h : MapS w B ks) : B < w.heap.size := by
  obtain ⟨D, h1, _⟩ := h
  exact h1.lt
theorem MapS.keep {w w' : World} {B : Nat} {ks : List (List UInt8)} (h : MapS w B ks) (hb : w'.heap[B]? = w.heap[B]?) : MapS w' B ks := by
  obtain ⟨D, ⟨es, clock, h1, h2⟩, hs⟩ := h
  exact ⟨D, ⟨es, clock, hb.trans h1, h2⟩, hs⟩
theorem MapS.isMap {w : World} {B : Nat} {ks : List (List UInt8)} (h : MapS w B ks) : ∃ es clock, w.heap[B]? = some (.map es clock) := by
  obtain ⟨D, ⟨es, clock, h1, h2⟩, hs⟩ := h
  exact ⟨es, clock, h1⟩
theorem MapS.made (w : World) : MapS (w.alloc (.map #[] 0)) w.heap.size [] := ⟨_, World.ownsMap_made w _ _ _, saysS_nil⟩
set_option maxRecDepth 100000 in
theorem keyOf_strB (k : List UInt8) (hk : k.length ≤ 1000000000000) : keyOf Tryd.prog 9 (.string (strB k)) = some (keyS k) := by
  have := Go.WideMaps.keyOf_string_mk (P := Tryd.prog) Tryd.underlying9 (s := strB k) (by unfold maxLen; simp [strB, ByteArray.size]; omega)
  simpa [strB, keyS] using this
set_option maxRecDepth 100000 in
theorem MapS.look {w : World} {B : Nat} {ks : List (List UInt8)} (h : MapS w B ks) {i : Nat} (hi : i < ks.length) (hk : ks[i].length ≤ 1000000000000) :
    (Instr.lookup 103 (.map (some B)) (.string (strB ks[i])) true).run Tryd.prog w = .ok (.tuple #[.int .i64 (i : Int), .bool true]) w := by
  obtain ⟨D, h1, hs⟩ := h
  obtain ⟨v, ps, hrun, hv⟩ := h1.look_ok (t := 103) lawS Tryd.underlying103 (Tryd.zeroValue3 w) (plainElem_int Tryd.underlying3 (by decide)) (keyOf_strB ks[i] hk)
  obtain ⟨c, rfl, hcc, _⟩ := plainElem_int_inv Tryd.underlying3 hv
  have e := congrArg Prod.fst hcc
  have e2 := hs.at' i hi
  simp only [e2] at e
  injection e with e
  injection e with _ e
  have h3 := hs.has ks[i]
  rw [hrun, ← e, h3, decide_eq_true (List.getElem_mem hi)]
set_option maxRecDepth 100000 in
theorem MapS.lookNot {w : World} {B : Nat} {ks : List (List UInt8)} (h : MapS w B ks) {d : List UInt8} (hd : d ∉ ks) (hk : d.length ≤ 1000000000000) :
    (Instr.lookup 103 (.map (some B)) (.string (strB d)) true).run Tryd.prog w = .ok (.tuple #[.int .i64 0, .bool false]) w := by
  obtain ⟨D, h1, hs⟩ := h
  obtain ⟨v, ps, hrun, hv⟩ := h1.look_ok (t := 103) lawS Tryd.underlying103 (Tryd.zeroValue3 w) (plainElem_int Tryd.underlying3 (by decide)) (keyOf_strB d hk)
  obtain ⟨c, rfl, hcc, _⟩ := plainElem_int_inv Tryd.underlying3 hv
  have e := congrArg Prod.fst hcc
  have e2 := hs.off d hd
  simp only [e2] at e
  injection e with e
  injection e with _ e
  have h3 := hs.has d
  rw [hrun, ← e, h3, decide_eq_false hd]
set_option maxRecDepth 100000 in
theorem MapS.put {w : World} {B : Nat} {ks : List (List UInt8)} (h : MapS w B ks) {d : List UInt8} (hd : d ∉ ks) (hk : d.length ≤ 1000000000000) (hn : ks.length ≤ 1000000000000) :
    ∃ w', (Instr.mapUpdate 103 (.map (some B)) (.string (strB d)) (.int .i64 (ks.length : Int))).run Tryd.prog w = .ok () w' ∧ MapS w' B (ks ++ [d]) ∧ w.grownBy w' (some B) := by
  obtain ⟨D, h1, hs⟩ := h
  have hw : (Lit.int .i64 (ks.length : Int)).wf = true := by simp [Lit.wf, IntKind.min, IntKind.max, IntKind.signed, IntKind.bits]; omega
  obtain ⟨w', hrun, h2, h3⟩ := h1.update (t := 103) lawS Tryd.underlying103 (by unfold maxLen; omega) (keyOf_strB d hk) (plainElem_int Tryd.underlying3 hw)
  refine ⟨w', hrun, ⟨_, ?_, saysS_put hs (h1.tidy lawS) hd⟩, h3⟩
  rw [List.length_append]
  exact h2
/-- Groups in memory. -/
structure Gp (W : World) (lo GB MB : Nat) (vl : Value) (ks : List (List UInt8)) (ps : Lot) (Ls : List (List Nat)) : Prop where
  blk : W.heap[GB]? = some (.cells #[.map (some MB), vl] 105 (0, 0))
  mp : MapS W MB ks
  bag : Bag W lo vl ps
  pl : ps.map (·.2) = Ls.map natI
  len : ks.length = Ls.length
  lo' : lo ≤ GB ∧ lo ≤ MB
theorem Gp.plen {W : World} {lo GB MB : Nat} {vl : Value} {ks : List (List UInt8)} {ps : Lot} {Ls : List (List Nat)} (h : Gp W lo GB MB vl ks ps Ls) : ps.length = Ls.length := by
  have := congrArg List.length h.pl
  simpa using this
theorem Gp.cell {W : World} {lo GB MB : Nat} {vl : Value} {ks : List (List UInt8)} {ps : Lot} {Ls : List (List Nat)} (h : Gp W lo GB MB vl ks ps Ls) : W.cell? ⟨GB, 0, none⟩ = some (.map (some MB)) ∧ W.cell? ⟨GB, 1, none⟩ = some vl ∧ (∀ o, W.frozen? ⟨GB, o, none⟩ = false) ∧ GB < W.heap.size := by
  refine ⟨?_, ?_, fun o => by simp [World.frozen?, h.blk], (Array.getElem?_eq_some_iff.1 h.blk).1⟩ <;> (rw [cell_of_row _ _ _ _ _ _ h.blk]; rfl)
/-- Only blocks of bytes have changed. -/
theorem Gp.bytes {W W' : World} {lo GB MB : Nat} {vl : Value} {ks : List (List UInt8)} {ps : Lot} {Ls : List (List Nat)} {S : Nat → Prop} (h : Gp W lo GB MB vl ks ps Ls) (ho : Only W W' S) (hS : ∀ k, S k → ∃ cs, W.heap[k]? = some (.cells cs 5 (0, 0))) : Gp W' lo GB MB vl ks ps Ls := by
  have key : ∀ {b : Nat} {cb : Array Value} {tb : TypeId}, W.heap[b]? = some (.cells cb tb (0, 0)) → tb ≠ 5 → W'.heap[b]? = W.heap[b]? := fun {b cb tb} hb ht => ho.block _ (Array.getElem?_eq_some_iff.1 hb).1 (fun e => by
    obtain ⟨cs, hc⟩ := hS b e
    exact blk_ne hb hc ht rfl)
  refine ⟨(key h.blk (by decide)).trans h.blk, h.mp.keep (ho.block _ h.mp.lt (fun e => ?_)), ⟨own_blk h.bag.outer (fun k hk => ?_), fun x hx => own_blk (h.bag.row x hx) (fun k hk => ?_), h.bag.apart, h.bag.away⟩, h.pl, h.len, h.lo'⟩
  · obtain ⟨cs, hc⟩ := hS _ e
    obtain ⟨es, clock, hm⟩ := h.mp.isMap
    rw [hm] at hc
    cases hc
  · obtain ⟨cs, hc⟩ := own_ty h.bag.outer hk
    exact key hc (by decide)
  · obtain ⟨cs, hc⟩ := own_ty (h.bag.row x hx) hk
    exact key hc (by decide)
/-- Blocks of bytes are as they were. -/
structure KeepT (w w' : World) : Prop where
  size : w.heap.size ≤ w'.heap.size
  byt : ∀ (b : Nat) (cs : Array Value), w.heap[b]? = some (.cells cs 5 (0, 0)) → w'.heap[b]? = w.heap[b]?
theorem KeepT.refl (w : World) : KeepT w w := ⟨Nat.le_refl _, fun _ _ _ => rfl⟩
theorem KeepT.trans {a b c : World} (h : KeepT a b) (k : KeepT b c) : KeepT a c := ⟨Nat.le_trans h.size k.size, fun i cs hi => by
  have e := h.byt i cs hi
  exact (k.byt i cs (e.trans hi)).trans e⟩
theorem KeepT.own {w w' : World} {lo : Nat} {v : Value} {l : List UInt8} (h : KeepT w w') (ho : OwnB w lo v l) : OwnB w' lo v l := own_blk ho (fun k hk => by
  obtain ⟨cs, hc⟩ := own_ty ho hk
  exact h.byt k cs hc)
theorem KeepT.only {w w' : World} {S : Nat → Prop} (ho : Only w w' S) (hS : ∀ k, S k → ∀ cs, w.heap[k]? ≠ some (Obj.cells cs 5 (0, 0))) : KeepT w w' := ⟨ho.size, fun b cs hb => ho.block b (Array.getElem?_eq_some_iff.1 hb).1 (fun s => hS b s cs hb)⟩
theorem KeepT.below {w w' : World} (h : Below w.heap.size w w') : KeepT w w' := ⟨h.size, fun b _cs hb => h.block b (Array.getElem?_eq_some_iff.1 hb).1⟩
end Go.Proofs.YtjemjccgfgijiaaDoor
namespace Go.Proofs.YtjemjccgfgijiaaDoor
open Go.RowKit Go.Shelf Go.Lib Go.Maps
set_option maxRecDepth 100000 in
set_option maxHeartbeats 800000 in
theorem newGroups_any (w : World) : Calls Tryd.prog 65 #[] w fun e w' => ∃ GB MB, e = .returned (.pointer (some ⟨GB, 0, none⟩)) ∧ Gp w' w.heap.size GB MB (.slice none 0 0) [] [] [] ∧ Below w.heap.size w w' := by
  obtain ⟨w1, hw1⟩ : ∃ w1, w1 = w.alloc (.map #[] 0) := ⟨_, rfl⟩
  obtain ⟨w2, hw2⟩ : ∃ w2, w2 = w1.alloc (.cells #[.map (some w.heap.size), .slice none 0 0] 105) := ⟨_, rfl⟩
  have hs1 : w1.heap.size = w.heap.size + 1 := by rw [hw1]; simp
  have h1 : MapS w1 w.heap.size [] := by rw [hw1]; exact MapS.made w
  have hB1 : Below w.heap.size w w1 := by rw [hw1]; exact (Below.refl _ _).alloc (Nat.le_refl _) _
  have hB2 : Below w.heap.size w w2 := by rw [hw2]; exact hB1.alloc (by omega) _
  have HF : Hid (Gp w2 w.heap.size w1.heap.size w.heap.size (.slice none 0 0) [] [] [] ∧ Below w.heap.size w w2) := hid0 ⟨⟨by rw [hw2]; exact heap_alloc_new _ _, h1.keep (by rw [hw2]; exact Below.heap_alloc _ _ _ (by omega)), Bag.nil _ _, rfl, rfl, by omega, Nat.le_refl _⟩, hB2⟩
  have q1 := hw1.symm
  have q2 := hw2.symm
  have hmm : ∀ w : World, (Instr.makeMap 103 none).run Tryd.prog w = .ok (.map (some w.heap.size)) (w.alloc (.map #[] 0)) := fun _ => rfl
  clear hw1 hw2 hs1 h1 hB1 hB2
  go_enter Tryd.func65, Tryd.ntmps65
  go_wp2
  go_ret
  exact ⟨_, _, rfl, HF.out⟩
/-- The group that a state is put to is there. -/
structure GpA (w W : World) (lo GB MB : Nat) (vl : Value) (ks : List (List UInt8)) (ps : Lot) (Ls : List (List Nat)) (y : Nat) (ks0 : List (List UInt8)) (Ls0 : List (List Nat)) (key : List UInt8) (s : Nat) : Prop where
  gp : Gp W lo GB MB vl ks ps Ls
  lt : y < ps.length
  is : (ks, Ls.set y (Ls.getD y [] ++ [s])) = gput ks0 Ls0 key s
  bel : Below lo w W
  byt : KeepT w W
theorem GpA.drew {w W : World} {lo GB MB : Nat} {vl : Value} {ks : List (List UInt8)} {ps : Lot} {Ls : List (List Nat)} {y : Nat} {ks0 : List (List UInt8)} {Ls0 : List (List Nat)} {key : List UInt8} {s : Nat} (h : GpA w W lo GB MB vl ks ps Ls y ks0 Ls0 key s) (k : Nat) : GpA w (W.drewN k) lo GB MB vl ks ps Ls y ks0 Ls0 key s :=
  ⟨h.gp.bytes (Only.drewN W k (fun _ => False)) (fun _ hf => False.elim hf), h.lt, h.is, below_drew' h.bel k, ⟨h.byt.size, h.byt.byt⟩⟩
theorem lot_at {ps : Lot} {Ls : List (List Nat)} (h : ps.map (·.2) = Ls.map natI) {y : Nat} (hy : y < ps.length) : (ps[y]).2 = natI (Ls.getD y []) ∧ y < Ls.length := by
  have hl : ps.length = Ls.length := by simpa using congrArg List.length h
  have h1 : (ps.map (·.2))[y]? = (Ls.map natI)[y]? := by rw [h]
  rw [List.getElem?_map, List.getElem?_map, List.getElem?_eq_getElem hy, List.getElem?_eq_getElem (by omega)] at h1
  refine ⟨?_, by omega⟩
  rw [List.getD_eq_getElem?_getD, List.getElem?_eq_getElem (by omega)]
  simpa using h1
/-- A state is put to a group. -/
theorem GpA.put {w W w2 : World} {lo GB MB g n c : Nat} {ks : List (List UInt8)} {ps : Lot} {Ls : List (List Nat)} {y : Nat} {ks0 : List (List UInt8)} {Ls0 : List (List Nat)} {key : List UInt8} {s : Nat} {v' : Value} {o : Obj} (h : GpA w W lo GB MB (.slice (some ⟨g, 0, none⟩) n c) ks ps Ls y ks0 Ls0 key s) (hn : n = ps.length)
    (hown : w2.ownsRow lo 3 1 v' ((ps[y]'h.lt).2.length + 1) ((ps[y]'h.lt).2.map (Value.int .i64) ++ [.int .i64 (s : Int)])) (hgrow : (W.alloc o).grownBy w2 (ps[y]'h.lt).1.ownBlock) (hat : v'.ownBlock = (ps[y]'h.lt).1.ownBlock ∨ v'.ownBlock = some (W.alloc o).heap.size) :
    w2.cell? ⟨g, y, none⟩ = some (ps[y]'h.lt).1 ∧ w2.frozen? ⟨g, y, none⟩ = false ∧ w2.cell? ⟨GB, 1, none⟩ = some (.slice (some ⟨g, 0, none⟩) n c) ∧ ∃ ps', Gp (w2.setCell ⟨g, y, none⟩ v') lo GB MB (.slice (some ⟨g, 0, none⟩) n c) (gput ks0 Ls0 key s).1 ps' (gput ks0 Ls0 key s).2 ∧ Below lo w (w2.setCell ⟨g, y, none⟩ v') ∧ KeepT w (w2.setCell ⟨g, y, none⟩ v') := by
  have hy := h.lt
  obtain ⟨c1, c2, c3⟩ := h.gp.bag.grown hn y hy rfl hgrow
  have hmem : ps[y] ∈ ps := List.getElem_mem hy
  have hO : Only W w2 (fun k => (ps[y]).1.ownBlock = some k) := ⟨hgrow.os, hgrow.tape, hgrow.output, by have := hgrow.size; simp at this; omega, fun k hk hs => c3 k hk hs⟩
  have key' : ∀ {b : Nat}, b < W.heap.size → (∀ cs, W.heap[b]? ≠ some (Obj.cells cs 3 (0, 0))) → w2.heap[b]? = W.heap[b]? := fun {b} hb hne => c3 b hb (fun e => by
    obtain ⟨cs, hc⟩ := own_ty (h.gp.bag.row _ hmem) e
    exact hne cs hc)
  have hgl := World.ownsRow.lt h.gp.bag.outer g rfl
  obtain ⟨csg, hcg⟩ := own_ty h.gp.bag.outer (k := g) rfl
  have hGB := key' h.gp.cell.2.2.2 (fun cs e => by rw [h.gp.blk] at e; cases e)
  obtain ⟨es, clock, hm⟩ := h.gp.mp.isMap
  have hMB := key' h.gp.mp.lt (fun cs e => by rw [hm] at e; cases e)
  have hgG : g ≠ GB := blk_ne hcg h.gp.blk (by decide)
  have hgM : g ≠ MB := fun e => by rw [← e, hcg] at hm; cases hm
  have hv : OwnI w2 lo v' ((ps[y]).2 ++ [(s : Int)]) := by
    unfold OwnI
    rw [List.length_append, List.length_singleton, List.map_append]
    exact hown
  have hnew : ∀ q, v'.ownBlock = some q → (ps[y]).1.ownBlock = some q ∨ W.heap.size ≤ q := fun q hq => by
    rcases hat with e | e
    · exact .inl (by rw [← e]; exact hq)
    · rw [e] at hq
      cases hq
      exact .inr (by simp)
  have hbag := h.gp.bag.set hn y hy c3 hv hnew
  have hset : ∀ b, b ≠ g → (w2.setCell ⟨g, y, none⟩ v').heap[b]? = w2.heap[b]? := fun b hb => Below.heap_setCell _ _ _ _ hb
  obtain ⟨p2, p3⟩ := lot_at h.gp.pl hy
  have his := h.is
  have hks : (gput ks0 Ls0 key s).1 = ks := by rw [← his]
  have hLs : (gput ks0 Ls0 key s).2 = Ls.set y (Ls.getD y [] ++ [s]) := by rw [← his]
  refine ⟨c1, c2, ?_, _, ⟨?_, ?_, hbag, ?_, ?_, h.gp.lo'⟩, ?_, ?_⟩
  · exact (World.cell?_of_block (w := W) (a := ⟨GB, 1, none⟩) hGB).trans h.gp.cell.2.1
  · exact (hset _ (Ne.symm hgG)).trans (hGB.trans h.gp.blk)
  · rw [hks]; exact h.gp.mp.keep ((hset _ (Ne.symm hgM)).trans hMB)
  · rw [hLs, List.map_set, List.map_set, h.gp.pl, p2]
    congr 1
    simp [natI]
  · rw [hks, hLs, List.length_set]; exact h.gp.len
  · exact (h.bel.trans ((hO.below (B := lo) (by have := hgl.1; have := hgl.2; omega) (fun i hi => (World.ownsRow.lt (h.gp.bag.row _ hmem) i hi).1)))).setCell (p := ⟨g, y, none⟩) hgl.1 _
  · refine h.byt.trans ((KeepT.only hO (fun k hk cs hc => ?_)).trans (KeepT.only (Only.setCell _ _ _ _) (fun k hk cs hc => ?_)))
    · obtain ⟨cs', hc'⟩ := own_ty (h.gp.bag.row _ hmem) hk
      exact blk_ne hc hc' (by decide) rfl
    · rw [hk, c3 g hgl.2 (h.gp.bag.away _ hmem g rfl), hcg] at hc
      cases hc
/-- A new group, still empty. -/
theorem Gp.fresh {W w1 w2 : World} {lo GB MB : Nat} {vl v' : Value} {ks : List (List UInt8)} {ps : Lot} {Ls : List (List Nat)} {key : List UInt8} {s : Nat} {o : Obj} (h : Gp W lo GB MB vl ks ps Ls) (hk : key ∉ ks) (hmp : MapS w1 MB (ks ++ [key])) (hg1 : W.grownBy w1 (some MB))
    (hown : w2.ownsRow lo 25 1 v' (Ls.length + 1) (ps.map (·.1) ++ [.slice none 0 0])) (hgrow : (w1.alloc o).grownBy w2 vl.ownBlock) (hat : v'.ownBlock = vl.ownBlock ∨ v'.ownBlock = some (w1.alloc o).heap.size) :
    w2.cell? ⟨GB, 1, none⟩ = some vl ∧ w2.frozen? ⟨GB, 1, none⟩ = false ∧ GpA W (w2.setCell ⟨GB, 1, none⟩ v') lo GB MB v' (ks ++ [key]) (ps ++ [(.slice none 0 0, [])]) (Ls ++ [[]]) Ls.length ks Ls key s := by
  obtain ⟨es, clock, hm⟩ := h.mp.isMap
  have hpl := h.plen
  have hO1 : Only W w1 (fun k => k = MB) := ⟨hg1.os, hg1.tape, hg1.output, hg1.size, fun k hk hs => hg1.block k hk (fun e => hs (by cases e; rfl))⟩
  have nm : ∀ {b : Nat} {cs : Array Value} {t : TypeId}, W.heap[b]? = some (.cells cs t (0, 0)) → b ≠ MB := fun {b cs t} hb e => by rw [e, hm] at hb; cases hb
  have k1 : ∀ {b : Nat} {cs : Array Value} {t : TypeId}, W.heap[b]? = some (.cells cs t (0, 0)) → w1.heap[b]? = W.heap[b]? := fun {b cs t} hb => hO1.block b (Array.getElem?_eq_some_iff.1 hb).1 (nm hb)
  have hbag1 : Bag w1 lo vl ps := ⟨own_blk h.bag.outer (fun k hk => by obtain ⟨cs, hc⟩ := own_ty h.bag.outer hk; exact k1 hc), fun x hx => own_blk (h.bag.row x hx) (fun k hk => by obtain ⟨cs, hc⟩ := own_ty (h.bag.row x hx) hk; exact k1 hc), h.bag.apart, h.bag.away⟩
  have hlo1 : lo ≤ w1.heap.size := by have := h.lo'.1; have := h.cell.2.2.2; have := hO1.size; omega
  obtain ⟨hbag, hbel⟩ := Bag.snoc (W := w1) (wr := w1) (x := .slice none 0 0) (l := []) hpl.symm hbag1 (Below.refl _ _) (World.ownsRow_nil _ _ _ _) hlo1 hown hgrow hat (Below.refl lo w1)
  have hO2 : Only w1 w2 (fun k => vl.ownBlock = some k) := ⟨hgrow.os, hgrow.tape, hgrow.output, by have := hgrow.size; simp at this; omega, fun k hk hs => (hgrow.block k (by simp; omega) (fun e => hs e.symm)).trans (heap_alloc_old w1 o hk)⟩
  have k2 : ∀ {b : Nat}, b < w1.heap.size → (∀ cs, w1.heap[b]? ≠ some (Obj.cells cs 25 (0, 0))) → w2.heap[b]? = w1.heap[b]? := fun {b} hb hne => hO2.block b hb (fun e => by
    obtain ⟨cs, hc⟩ := own_ty hbag1.outer e
    exact hne cs hc)
  have hG1 := (k1 h.blk).trans h.blk
  have hG2 := (k2 (Array.getElem?_eq_some_iff.1 hG1).1 (fun cs e => by rw [hG1] at e; cases e)).trans hG1
  obtain ⟨es1, cl1, hm1⟩ := hmp.isMap
  have hM2 := k2 hmp.lt (fun cs e => by rw [hm1] at e; cases e)
  have hset : ∀ b, b ≠ GB → (w2.setCell ⟨GB, 1, none⟩ v').heap[b]? = w2.heap[b]? := fun b hb => Below.heap_setCell _ _ _ _ hb
  have hMG : MB ≠ GB := (nm h.blk).symm
  refine ⟨by rw [cell_of_row _ _ _ _ _ _ hG2]; rfl, by simp [World.frozen?, hG2], ⟨⟨heap_setCell_same _ _ 1 _ _ v' hG2, hmp.keep ((hset _ hMG).trans hM2), ⟨own_blk hbag.outer (fun k hk => hset _ ?_), fun x hx => own_blk (hbag.row x hx) (fun k hk => hset _ ?_), hbag.apart, hbag.away⟩, ?_, ?_, h.lo'⟩, ?_, ?_, ?_, ?_⟩⟩
  · obtain ⟨cs, hc⟩ := own_ty hbag.outer hk
    exact blk_ne hc hG2 (by decide)
  · obtain ⟨cs, hc⟩ := own_ty (hbag.row x hx) hk
    exact blk_ne hc hG2 (by decide)
  · rw [List.map_append, List.map_append, h.pl]
    rfl
  · rw [List.length_append, List.length_append, h.len]
    rfl
  · rw [List.length_append]; simp; omega
  · have e1 : (Ls ++ [[]]).getD Ls.length [] = ([] : List Nat) := by rw [List.getD_eq_getElem?_getD, List.getElem?_append_right (Nat.le_refl _)]; simp
    have e2 : (Ls ++ [[]]).set Ls.length [s] = Ls ++ [[s]] := by
      rw [List.set_append_right _ _ (Nat.le_refl _)]
      simp
    rw [e1, List.nil_append, e2]
    unfold gput
    rw [if_neg hk]
  · exact ((hO1.below (B := lo) (by have := h.lo'.1; have := h.cell.2.2.2; omega) (fun i hi => by rw [hi]; exact h.lo'.2)).trans hbel).setCell (p := ⟨GB, 1, none⟩) h.lo'.1 _
  · refine (KeepT.only hO1 (fun k hk cs hc => ?_)).trans ((KeepT.only hO2 (fun k hk cs hc => ?_)).trans (KeepT.only (Only.setCell _ _ _ _) (fun k hk cs hc => ?_)))
    · rw [hk, hm] at hc; cases hc
    · obtain ⟨cs', hc'⟩ := own_ty hbag1.outer hk
      exact blk_ne hc hc' (by decide) rfl
    · rw [hk, hG2] at hc
      cases hc
/-- What add leaves. -/
def AddR (w w' : World) (lo GB MB : Nat) (ks : List (List UInt8)) (Ls : List (List Nat)) (key : List UInt8) (s : Nat) : Prop := ∃ vl ps, Gp w' lo GB MB vl (gput ks Ls key s).1 ps (gput ks Ls key s).2 ∧ Below lo w w' ∧ KeepT w w'
set_option maxRecDepth 100000 in
set_option maxHeartbeats 1600000 in
theorem gadd_any (lo lo' GB MB : Nat) (vl v : Value) (ks : List (List UInt8)) (ps : Lot) (Ls : List (List Nat)) (key : List UInt8) (s : Nat) (w : World) (hg : Gp w lo GB MB vl ks ps Ls) (hv : OwnB w lo' v key) (_hnd : ks.Nodup) (hkl : key.length ≤ 1000000000000) (hks : ks.length ≤ 1000000000) (hLs : ∀ l ∈ Ls, l.length ≤ 1000000000) :
    Calls Tryd.prog 67 #[.pointer (some ⟨GB, 0, none⟩), v, .int .i64 (s : Int)] w fun e w' => e = .returned (.tuple #[]) ∧ AddR w w' lo GB MB ks Ls key s := by
  obtain ⟨i0, hi, hz0, hz1, hz2⟩ := info_parts infoInt
  obtain ⟨j0, hj, hy0, hy1, hy2⟩ := info_parts infoInts
  obtain ⟨c0, c1, f1, hGl⟩ := hg.cell
  have f1' := f1 1
  have hcv1 : (convert 100 9 v).run Tryd.prog w.drew = .ok (.string (strB key)) w.drew := toStr (show OwnB w.drew lo' v key from own_blk hv (fun _ _ => rfl))
  have hcv2 : (convert 100 9 v).run Tryd.prog w.drew.drew = .ok (.string (strB key)) w.drew.drew := toStr (show OwnB w.drew.drew lo' v key from own_blk hv (fun _ _ => rfl))
  obtain ⟨av, nv, cv, rfl⟩ : ∃ av nv cv, v = .slice av nv cv := by
    rcases hv.2 with ⟨e, _⟩ | ⟨g, cap, cur, e, _⟩
    · exact ⟨_, _, _, e⟩
    · exact ⟨_, _, _, e⟩
  obtain ⟨al, cl, rfl⟩ : ∃ al cl, vl = .slice al Ls.length cl := by
    have hp := hg.plen
    rcases hg.bag.outer.2 with ⟨e, hn⟩ | ⟨g, cap, cur, e, _⟩
    · exact ⟨none, 0, by rw [e, ← hp, hn]⟩
    · exact ⟨_, _, by rw [e, hp]⟩
  have HG := hid0 hg
  have HV := hid0 hv
  have hlow : lo ≤ w.heap.size := by have := hg.lo'.1; omega
  clear hg hv
  go_enter Tryd.func67, Tryd.ntmps67
  go_upto_region 0 with (fail)
  go_cut [6, 7] from 8 (fun p6 p7 wx => ∃ (y : Nat) (b : Bool), p6 = .int .i64 (y : Int) ∧ p7 = .bool b ∧ wx = w.drew ∧ Hid (b = true → key ∈ ks ∧ y = ks.idxOf key) ∧ Hid (b = false → key ∉ ks))
  case first =>
    by_cases hk : key ∈ ks
    · have hidx := List.idxOf_lt_length_iff.2 hk
      obtain ⟨y, hy⟩ : ∃ y, y = ks.idxOf key := ⟨_, rfl⟩
      have hlook : (Instr.lookup 103 (.map (some MB)) (.string (strB key)) true).run Tryd.prog w.drew = .ok (.tuple #[.int .i64 (y : Int), .bool true]) w.drew := by
        have h1 := (HG.out.mp.keep (w' := w.drew) rfl).look hidx (by rw [List.getElem_idxOf]; exact hkl)
        rw [List.getElem_idxOf, ← hy] at h1
        exact h1
      have HY := hid0 hy
      have HK := hid0 hk
      clear hidx hy hk
      go_wp2_with fail
      go_region
      go_wp2_with fail
      go_meet
      case rel => exact ⟨y, true, rfl, rfl, rfl, hid0 (fun _ => ⟨HK.out, HY.out⟩), hid0 (fun h => nomatch h)⟩
    · have hlook : (Instr.lookup 103 (.map (some MB)) (.string (strB key)) true).run Tryd.prog w.drew = .ok (.tuple #[.int .i64 0, .bool false]) w.drew := (HG.out.mp.keep (w' := w.drew) rfl).lookNot hk hkl
      have HK := hid0 hk
      clear hk
      go_wp2_with fail
      go_region
      go_wp2_with fail
      go_meet
      case rel => exact ⟨0, false, rfl, rfl, rfl, hid0 (fun h => nomatch h), hid0 (fun _ => HK.out)⟩
  case rest =>
    obtain ⟨y0, b, rfl, rfl, rfl, HT, HF⟩ := hcut
    clear hcv1
    go_upto_if 19 with (fail)
    go_cut [6] from 18 (fun p6 wx => ∃ (y : Nat) (al : Option Addr) (cl : Nat) (ks' : List (List UInt8)) (ps' : Lot) (Ls' : List (List Nat)), p6 = .int .i64 (y : Int) ∧ Hid (GpA w wx lo GB MB (.slice al Ls'.length cl) ks' ps' Ls' y ks Ls key s) ∧ Hid (∀ l ∈ Ls', l.length ≤ 1000000000))
    case first =>
      cases b with
      | true =>
        have HA : Hid (GpA w w.drew lo GB MB (.slice al Ls.length cl) ks ps Ls y0 ks Ls key s) := hid0 (by
          obtain ⟨hk, hy⟩ := HT.out rfl
          have hp := HG.out.plen
          have hlen := HG.out.len
          have hidx := List.idxOf_lt_length_iff.2 hk
          exact ⟨HG.out.bytes (Only.drewN w 1 (fun _ => False)) (fun _ hf => False.elim hf), by omega, by unfold gput; rw [if_pos hk, hy], ⟨rfl, rfl, rfl, Nat.le_refl _, fun _ _ => rfl⟩, ⟨Nat.le_refl _, fun _ _ _ => rfl⟩⟩)
        go_wp2_with fail
        go_meet
        case rel => exact ⟨y0, _, _, _, _, _, rfl, HA, hid0 hLs⟩
      | false =>
        have hk := HF.out rfl
        obtain ⟨w1, hrun, hmp1, hg1⟩ := (HG.out.mp.keep (w' := w.drew.drew) rfl).put hk hkl (by omega)
        rw [HG.out.len] at hrun
        have HK := hid0 hk
        have HMp := hid0 hmp1
        have HG1 := hid0 hg1
        have hlen1 : w.heap.size ≤ w1.heap.size := hg1.size
        have c1' : w1.cell? ⟨GB, 1, none⟩ = some (.slice al Ls.length cl) := by
          obtain ⟨es, clock, hm⟩ := HG.out.mp.isMap
          have hb := hg1.block GB hGl (fun e => by cases e; rw [HG.out.blk] at hm; cases hm)
          exact (World.cell?_of_block (w := w) (a := ⟨GB, 1, none⟩) hb).trans c1
        have HOw : Hid ((w1.alloc (.cells #[.slice none 0 0] 25)).ownsRow lo 25 1 (.slice al Ls.length cl) Ls.length (ps.map (·.1))) := hid0 (by
          have h := HG.out.bag.outer
          rw [HG.out.plen] at h
          refine World.ownsRow.alloc (own_blk h (fun k hk => ?_)) _
          obtain ⟨es, clock, hm⟩ := HG.out.mp.isMap
          obtain ⟨cs, hc⟩ := own_ty h hk
          exact hg1.block k (World.ownsRow.lt h k hk).2 (fun e => by cases e; rw [hm] at hc; cases hc))
        have HNx : Hid (∀ (v' : Value) (w2 : World), w2.ownsRow lo 25 1 v' (Ls.length + 1) (ps.map (·.1) ++ [.slice none 0 0]) → (w1.alloc (.cells #[.slice none 0 0] 25)).grownBy w2 (Value.slice al Ls.length cl).ownBlock → (v'.ownBlock = (Value.slice al Ls.length cl).ownBlock ∨ v'.ownBlock = some (w1.alloc (.cells #[.slice none 0 0] 25)).heap.size) → w2.cell? ⟨GB, 1, none⟩ = some (.slice al Ls.length cl) ∧ w2.frozen? ⟨GB, 1, none⟩ = false ∧ GpA w (w2.setCell ⟨GB, 1, none⟩ v') lo GB MB v' (ks ++ [key]) (ps ++ [(.slice none 0 0, [])]) (Ls ++ [[]]) Ls.length ks Ls key s) := hid0 (fun v' w2 a b c => HG.out.fresh HK.out HMp.out ⟨HG1.out.os, HG1.out.tape, HG1.out.output, HG1.out.size, HG1.out.block⟩ a b c)
        have hLl : Ls.length ≤ 1000000000 := by have := HG.out.len; omega
        have hL2 : Hid (∀ l ∈ Ls ++ [[]], l.length ≤ 1000000000) := hid0 (fun l hl => by
          rcases List.mem_append.1 hl with hl | hl
          · exact hLs l hl
          · rw [List.mem_singleton.1 hl]; simp)
        clear hk hmp1 hg1
        go_upto_region 3 with (fail)
        go_wp2_with fail
        go_region
        go_wp2_with (at_builtin; go_loud ((refine wpList_append_own_at _ rfl _ _ 22 rfl lo 25 j0 (.slice none 0 0) 1 24 Tryd.underlying22 hj hy0 hy1 hy2 rfl (by decide) (.slice al Ls.length cl) Ls.length (ps.map (·.1)) rfl HOw.out ⟨w1.heap.size, 0, none⟩ 1 1 [.slice none 0 0] rfl rfl (cell_one_new _ _ _) (by simp [Value.oneCell']) (by unfold maxLen; omega) (by omega) (by simp; omega) ?_; intro v' w2 hown hgrow _ hat; obtain ⟨g5, cap5, rfl⟩ := Go.Joins.ownsRow_form hown (Nat.succ_pos _); obtain ⟨n1, n2, n3⟩ := HNx.out _ _ hown hgrow hat; have HN3 := hid0 n3; clear n3 hown hgrow hat)))
        go_meet
        case rel => exact ⟨Ls.length, some ⟨g5, 0, none⟩, cap5, _, _, _, rfl, hid0 (by have := HN3.out; rw [List.length_append]; exact this), hL2⟩
    case rest =>
      obtain ⟨y, al2, cl2, ks', ps', Ls', rfl, HA, HL'⟩ := hcut
      have hyp := HA.out.lt
      have hpl := HA.out.gp.plen
      obtain ⟨g, cg, hform⟩ : ∃ g cg, (Value.slice al2 Ls'.length cl2) = .slice (some ⟨g, 0, none⟩) Ls'.length cg := by
        rcases HA.out.gp.bag.outer.2 with ⟨e, hn⟩ | ⟨g, cap, cur, e, _⟩
        · omega
        · rw [e, hpl]; exact ⟨_, _, rfl⟩
      cases hform
      obtain ⟨d1, d2⟩ := HA.out.gp.bag.cells hpl.symm y hyp
      obtain ⟨e0, e1, _, _⟩ := HA.out.gp.cell
      have hmem : ps'[y] ∈ ps' := List.getElem_mem hyp
      obtain ⟨a1, q1, hv1, hiaX⟩ := (HA.out.gp.bag.row _ hmem).ia
      clear hiaX
      have hl2 : (ps'[y]).2.length ≤ 1000000000 := by
        obtain ⟨p2, p3⟩ := lot_at HA.out.gp.pl hyp
        rw [p2, natI_len]
        rw [List.getD_eq_getElem?_getD, List.getElem?_eq_getElem p3]
        exact HL'.out _ (List.getElem_mem p3)
      have hyI : (y : Int) < (Ls'.length : Int) := by omega
      have hy0' : (0 : Int) ≤ (y : Int) := by omega
      have hrow := HA.out.gp.bag.row _ hmem
      unfold OwnI at hrow
      have hput := fun (v' : Value) (w2 : World) (o : Obj) => HA.out.put (v' := v') (w2 := w2) (o := o) hpl.symm
      obtain ⟨lw, hlw⟩ : ∃ lw, lw = (ps'[y]).2 := ⟨_, rfl⟩
      rw [← hlw] at hv1 hl2 hrow
      rw [hv1] at d1 hrow
      have hput2 : ∀ (v' : Value) (w2 : World), w2.ownsRow lo 3 1 v' (lw.length + 1) (lw.map (Value.int .i64) ++ [.int .i64 (s : Int)]) → (wc.alloc (.cells #[.int .i64 (s : Int)] 3)).grownBy w2 (Value.slice a1 lw.length q1).ownBlock → (v'.ownBlock = (Value.slice a1 lw.length q1).ownBlock ∨ v'.ownBlock = some (wc.alloc (.cells #[.int .i64 (s : Int)] 3)).heap.size) → w2.cell? ⟨g, y, none⟩ = some (.slice a1 lw.length q1) ∧ w2.frozen? ⟨g, y, none⟩ = false ∧ w2.cell? ⟨GB, 1, none⟩ = some (.slice (some ⟨g, 0, none⟩) Ls'.length cl2) ∧ AddR w (w2.setCell ⟨g, y, none⟩ v') lo GB MB ks Ls key s := fun v' w2 h1 h2 h3 => by
        have := hput v' w2 (.cells #[.int .i64 (s : Int)] 3) (by rw [← hlw]; exact h1) (by rw [hv1]; exact h2) (by rw [hv1]; exact h3)
        rw [hv1] at this
        exact ⟨this.1, this.2.1, this.2.2.1, _, this.2.2.2⟩
      have HNx := hid0 hput2
      have hlowc : lo ≤ wc.heap.size := Nat.le_trans hlow HA.out.byt.size
      obtain ⟨vB, hvB⟩ : ∃ vB, vB = wc.alloc (.cells #[.int .i64 (s : Int)] 3) := ⟨_, rfl⟩
      have HOw : Hid (vB.ownsRow lo 3 1 (.slice a1 lw.length q1) lw.length (lw.map (Value.int .i64))) := hid0 (by rw [hvB]; exact World.ownsRow.alloc hrow _)
      have HNw : Hid (∀ j u, [Value.int .i64 (s : Int)][j]? = some u → vB.cell? ((⟨wc.heap.size, 0, none⟩ : Addr).add j) = some u) := hid0 (by rw [hvB]; exact cell_one_new _ _ _)
      have HLw : Hid (lo ≤ vB.heap.size) := hid0 (by rw [hvB]; simp; omega)
      have e1B : vB.cell? ⟨GB, 1, none⟩ = some (.slice (some ⟨g, 0, none⟩) Ls'.length cl2) := by rw [hvB]; exact cell_alloc e1 _
      have d1B : vB.cell? ⟨g, y, none⟩ = some (.slice a1 lw.length q1) := by rw [hvB]; exact cell_alloc d1 _
      rw [← hvB] at HNx
      have gB := hvB.symm
      clear hput hput2 hrow hmem hlw hv1 d2 hvB hpl hyp
      go_upto_region 5 with (fail)
      go_wp2_with fail
      go_region_law ((refine step_append_own_at (by rfl) _ _ 25 (by rfl) lo 3 i0 _ 1 8 Tryd.underlying25 hi hz0 hz1 hz2 rfl (by decide) (.slice a1 lw.length q1) lw.length (lw.map (Value.int .i64)) (by rfl) HOw.out ⟨wc.heap.size, 0, none⟩ 1 1 [.int .i64 (s : Int)] (by rfl) (by rfl) HNw.out (by simp [Value.oneCell']) (by unfold maxLen; omega) (by omega) HLw.out ?_; intro v' w2 hown hgrow hat; obtain ⟨g5, cap5, rfl⟩ := Go.Joins.ownsRow_form hown (Nat.succ_pos _); obtain ⟨n1, n2, n3, n4⟩ := HNx.out _ _ hown ⟨hgrow.os, hgrow.tape, hgrow.output, hgrow.size, hgrow.block⟩ hat; have HN4 := hid0 n4; clear n4 hown hgrow hat))
      all_goals
        go_wp2
        go_returns
        exact ⟨rfl, HN4.out⟩
end Go.Proofs.YtjemjccgfgijiaaDoor
namespace Go.Proofs.YtjemjccgfgijiaaDoor
open Go.RowKit Go.Shelf Go.Lib Go.Maps
/-- The whole in memory. -/
structure Wh (W : World) (X m : Nat) (aN : Option Addr) (cN : Nat) (FN : List Int) (aO : Option Addr) (cO : Nat) (OL : List (List Int)) : Prop where
  blk : W.heap[X]? = some (.cells #[.int .i64 (m : Int), .slice aN FN.length cN, .slice aO OL.length cO] 73 (0, 0))
  nx : IA W aN FN
  ou : RwA W aO OL
theorem Wh.past {W W' : World} {X m : Nat} {aN : Option Addr} {cN : Nat} {FN : List Int} {aO : Option Addr} {cO : Nat} {OL : List (List Int)} (h : Wh W X m aN cN FN aO cO OL) (hb : Below W.heap.size W W') : Wh W' X m aN cN FN aO cO OL :=
  ⟨(hb.block _ (Array.getElem?_eq_some_iff.1 h.blk).1).trans h.blk, h.nx.past hb, h.ou.past hb⟩
theorem Wh.cell {W : World} {X m : Nat} {aN : Option Addr} {cN : Nat} {FN : List Int} {aO : Option Addr} {cO : Nat} {OL : List (List Int)} (h : Wh W X m aN cN FN aO cO OL) : W.cell? ⟨X, 0, none⟩ = some (.int .i64 (m : Int)) ∧ W.cell? ⟨X, 1, none⟩ = some (.slice aN FN.length cN) ∧ W.cell? ⟨X, 2, none⟩ = some (.slice aO OL.length cO) := by
  refine ⟨?_, ?_, ?_⟩ <;> (rw [cell_of_row _ _ _ _ _ _ h.blk]; rfl)
/-- Groups that are being made, and the text. -/
structure GrS (w W : World) (GB MB : Nat) (v : Value) (tx : List UInt8) (seq : List (List UInt8 × Nat)) : Prop where
  gp : ∃ vl ks ps Ls, Gp W w.heap.size GB MB vl ks ps Ls ∧ GI ks Ls seq ∧ ks.length ≤ seq.length
  own : OwnB W w.heap.size v tx
  bel : Below w.heap.size w W
theorem grS_new {w W : World} {GB MB : Nat} (h : Gp W w.heap.size GB MB (.slice none 0 0) [] [] []) (hb : Below w.heap.size w W) : GrS w W GB MB (.slice none 0 0) [] [] :=
  ⟨⟨_, _, _, _, h, gi_nil, Nat.le_refl _⟩, World.ownsRow_nil _ _ _ _, hb⟩
theorem GrS.drewN {w W : World} {GB MB : Nat} {v : Value} {tx : List UInt8} {seq : List (List UInt8 × Nat)} (h : GrS w W GB MB v tx seq) (k : Nat) : GrS w (W.drewN k) GB MB v tx seq := by
  obtain ⟨vl, ks, ps, Ls, h1, h2, h3⟩ := h.gp
  exact ⟨⟨vl, ks, ps, Ls, h1.bytes (Only.drewN W k (fun _ => False)) (fun _ hf => False.elim hf), h2, h3⟩, own_blk h.own (fun _ _ => rfl), below_drew' h.bel k⟩
theorem GrS.drew1 {w W : World} {GB MB : Nat} {v : Value} {tx : List UInt8} {seq : List (List UInt8 × Nat)} (h : GrS w W GB MB v tx seq) : GrS w W.drew GB MB v tx seq := h.drewN 1
/-- The text is begun anew. -/
theorem GrS.cut {w W : World} {GB MB : Nat} {a : Option Addr} {n c : Nat} {tx : List UInt8} {seq : List (List UInt8 × Nat)} (h : GrS w W GB MB (.slice a n c) tx seq) : GrS w W GB MB (.slice a 0 c) [] seq := by
  refine ⟨h.gp, ⟨rfl, ?_⟩, h.bel⟩
  rcases h.own.2 with ⟨e, hn⟩ | ⟨g, cap, cur, e, hg, hr, hc, hm, hs, _⟩
  · cases e
    exact .inl ⟨rfl, rfl⟩
  · injection e with e1 e2 e3
    subst e1 e3
    exact .inr ⟨g, c, cur, rfl, hg, hr, Nat.zero_le _, hm, hs, by simp [cellsOf]⟩
theorem GrS.form {w W : World} {GB MB : Nat} {v : Value} {tx : List UInt8} {seq : List (List UInt8 × Nat)} (h : GrS w W GB MB v tx seq) : ∃ a c, v = .slice a tx.length c := by
  rcases h.own.2 with ⟨e, hn⟩ | ⟨g, cap, cur, e, _⟩
  · exact ⟨none, 0, by rw [e, hn]⟩
  · exact ⟨_, _, e⟩
/-- Bytes are put behind. -/
theorem GrS.more {w W W2 : World} {GB MB : Nat} {v v' : Value} {tx tx' : List UInt8} {seq : List (List UInt8 × Nat)} (h : GrS w W GB MB v tx seq) (ha : Apd W W2 w.heap.size v v' tx') : GrS w W2 GB MB v' tx' seq := by
  obtain ⟨vl, ks, ps, Ls, h1, h2, h3⟩ := h.gp
  refine ⟨⟨vl, ks, ps, Ls, h1.bytes ha.frm (fun k hk => own_ty h.own hk), h2, h3⟩, ha.own, h.bel.trans (ha.frm.below h.bel.size (fun i hi => (World.ownsRow.lt h.own i hi).1))⟩
/-- A state is put to its group. -/
theorem GrS.add {w W W2 : World} {GB MB : Nat} {v : Value} {tx : List UInt8} {seq : List (List UInt8 × Nat)} {s : Nat} {ks : List (List UInt8)} {Ls : List (List Nat)} (h : GrS w W GB MB v tx seq) (hg : GI ks Ls seq) (hl : ks.length ≤ seq.length) (hs : ∀ x ∈ seq, x.2 ≠ s) (ha : AddR W W2 w.heap.size GB MB ks Ls tx s) : GrS w W2 GB MB v tx (seq ++ [(tx, s)]) := by
  obtain ⟨vl, ps, h1, h2, h3⟩ := ha
  refine ⟨⟨vl, _, ps, _, h1, hg.put tx s hs, ?_⟩, h3.own h.own, h.bel.trans h2⟩
  have := gput_len ks Ls tx s
  rw [List.length_append]
  simp
  omega
theorem GI.small {ks : List (List UInt8)} {Ls : List (List Nat)} {seq : List (List UInt8 × Nat)} (h : GI ks Ls seq) {n : Nat} (hn : ∀ x ∈ seq, x.2 < n) : ∀ l ∈ Ls, l.length ≤ n := by
  intro l hl
  obtain ⟨i, hi, rfl⟩ := List.getElem_of_mem hl
  have hg : Ls.getD i [] = Ls[i] := by rw [List.getD_eq_getElem?_getD, List.getElem?_eq_getElem hi]; rfl
  have hi' : i < ks.length := by rw [h.len]; exact hi
  refine nodup_le n _ (by rw [← hg]; exact h.up i hi') (fun x hx => ?_)
  exact hn _ ((h.mem i hi' x).1 (by rw [hg]; exact hx))
/-- The lists of groups, as they are answered. -/
theorem Gp.gapl {w W : World} {GB MB : Nat} {vl : Value} {ks : List (List UInt8)} {ps : Lot} {Ls : List (List Nat)} (h : Gp W w.heap.size GB MB vl ks ps Ls) : ∃ a c, vl = .slice a Ls.length c ∧ GapL W w.heap.size W.heap.size a Ls := by
  obtain ⟨a, c, h1, h2⟩ := h.bag.rwq
  have hl : (ps.map (·.2)).length = Ls.length := by rw [h.pl]; simp
  refine ⟨a, c, by rw [h1, hl], ⟨fun k hk => ?_⟩⟩
  obtain ⟨b, off, e, l1, l2, a1, c1, d1, q1⟩ := h2.at' k (by rw [hl]; exact hk)
  have hpe := h.plen
  have he : (ps.map (·.2))[k]'(by rw [hl]; exact hk) = natI Ls[k] := by
    have h3 : (ps.map (·.2))[k]? = (Ls.map natI)[k]? := by rw [h.pl]
    rw [List.getElem?_eq_getElem (by rw [hl]; exact hk), List.getElem?_map, List.getElem?_eq_getElem hk] at h3
    simpa using h3
  rw [he] at d1 q1
  rw [natI_len] at d1
  have hrow := h.bag.row (ps[k]'(by omega)) (List.getElem_mem _)
  have hcell : W.cell? ⟨b, off + k, none⟩ = some (ps[k]'(by omega)).1 := by
    have h0 := h.bag.outer
    rcases h0.2 with ⟨hv, hn⟩ | ⟨g, cap, cur, hv, hg, _⟩
    · omega
    · rw [hv] at h1
      injection h1 with h1 _ _
      rw [← h1] at e
      cases e
      rw [hv] at h0
      rw [Nat.zero_add, World.ownsRow.cellAt h0 k (by omega)]
      simp [hpe, hk]
  refine ⟨b, off, e, l2, l1, l2, a1, c1, d1, q1.ia, fun p hp => ?_⟩
  subst hp
  rw [hcell] at d1
  injection d1 with d1
  rcases hrow.2 with ⟨hv, hn⟩ | ⟨g, cap, cur, hv, hg, _⟩
  · rw [hv] at d1; cases d1
  · have hlt := World.ownsRow.lt hrow g (by rw [hv]; rfl)
    rw [hv] at d1
    injection d1 with d1 _ _
    injection d1 with d1
    rw [← d1]
    exact hlt
end Go.Proofs.YtjemjccgfgijiaaDoor
namespace Go.Proofs.YtjemjccgfgijiaaDoor
open Go.RowKit Go.Shelf
def zerN (n : Nat) : Obj := .cells (ovF n (fun _ => 0)).toArray 3
set_option maxRecDepth 100000 in
theorem make_run (n : Nat) (w : World) (hn : n ≤ 100000000000) : (Instr.makeSlice 25 (.int .i64 (n : Int)) (.int .i64 (n : Int))).run Tryd.prog w = .ok (.slice (some ⟨w.heap.size, 0, none⟩) n n) (w.alloc (zerN n)) := by
  obtain ⟨i, hi, hz0, hz1, hz2⟩ := info_parts infoInt
  have hr := run_make (P := Tryd.prog) w 25 3 i (.int .i64 0) Tryd.underlying25 hi hz0 .i64 .i64 n n (by omega) (by omega) (by rw [hz2]; omega) (by omega)
  have e2 : ((n : Int)).toNat = n := Int.toNat_natCast n
  simp only [e2, hz1] at hr
  rw [hr]
  unfold zerN
  congr 3
  apply Array.ext
  · rw [size_madeCells]; simp [ovF]
  · intro k h1 h2
    simp [madeCells, ovF, Value.cells, Nat.mod_one]
theorem Ov.congr2 {W : World} {G n : Nat} {p q : Nat → Nat} (h : Ov W G n p) (e : ∀ s, s < n → p s = q s) : Ov W G n q := ⟨by
  have : ovF n p = ovF n q := by
    unfold ovF
    exact List.map_congr_left (fun s hs => by rw [e s (List.mem_range.1 hs)])
  rw [← this]
  exact h.blk⟩
/-- Five blocks that were made one behind the other. -/
structure Five (w U : World) (o0 o1 o2 o3 o4 : Obj) : Prop where
  h0 : U.heap[w.heap.size]? = some o0
  h1 : U.heap[w.heap.size + 1]? = some o1
  h2 : U.heap[w.heap.size + 1 + 1]? = some o2
  h3 : U.heap[w.heap.size + 1 + 1 + 1]? = some o3
  h4 : U.heap[w.heap.size + 1 + 1 + 1 + 1]? = some o4
  bel : Below w.heap.size w U
theorem five_mk (w : World) (o0 o1 o2 o3 o4 : Obj) : Five w (((((w.alloc o0).alloc o1).alloc o2).alloc o3).alloc o4).drew o0 o1 o2 o3 o4 := by
  have s1 : (w.alloc o0).heap.size = w.heap.size + 1 := by simp
  have s2 : ((w.alloc o0).alloc o1).heap.size = w.heap.size + 1 + 1 := by simp
  have s3 : (((w.alloc o0).alloc o1).alloc o2).heap.size = w.heap.size + 1 + 1 + 1 := by simp
  have s4 : ((((w.alloc o0).alloc o1).alloc o2).alloc o3).heap.size = w.heap.size + 1 + 1 + 1 + 1 := by simp
  have n0 := heap_alloc_new w o0
  have n1 := heap_alloc_new (w.alloc o0) o1
  have n2 := heap_alloc_new ((w.alloc o0).alloc o1) o2
  have n3 := heap_alloc_new (((w.alloc o0).alloc o1).alloc o2) o3
  have n4 := heap_alloc_new ((((w.alloc o0).alloc o1).alloc o2).alloc o3) o4
  rw [s1] at n1
  rw [s2] at n2
  rw [s3] at n3
  rw [s4] at n4
  have b1 := ((Below.refl w.heap.size w).alloc (Nat.le_refl _) o0)
  have b2 := b1.alloc (by omega) o1
  have b3 := b2.alloc (by omega) o2
  have b4 := b3.alloc (by omega) o3
  have b5 := b4.alloc (by omega) o4
  refine ⟨?_, ?_, ?_, ?_, n4, ⟨b5.os, b5.tape, b5.output, b5.size, b5.block⟩⟩
  · exact (((Below.heap_alloc _ _ _ (by omega)).trans ((Below.heap_alloc _ _ _ (by omega)).trans ((Below.heap_alloc _ _ _ (by omega)).trans (Below.heap_alloc _ _ _ (by omega)))))).trans n0
  · exact ((Below.heap_alloc _ _ _ (by omega)).trans ((Below.heap_alloc _ _ _ (by omega)).trans (Below.heap_alloc _ _ _ (by omega)))).trans n1
  · exact ((Below.heap_alloc _ _ _ (by omega)).trans (Below.heap_alloc _ _ _ (by omega))).trans n2
  · exact (Below.heap_alloc _ _ _ (by omega)).trans n3
theorem pt_new {w U : World} {P R L C G n : Nat} (hb : Below w.heap.size w U) (_hn : 0 < n) (hP : U.heap[P]? = some (.cells #[.slice (some ⟨R, 0, none⟩) n n, .slice (some ⟨L, 0, none⟩) n n, .slice (some ⟨C, 0, none⟩) n n, .slice (some ⟨G, 0, none⟩) 1 1, .slice none 0 0] 83 (0, 0))) (hR : U.heap[R]? = some (zerN n)) (hL : U.heap[L]? = some (zerN n)) (hC : U.heap[C]? = some (zerN n)) (hG : U.heap[G]? = some (.cells #[.int .i64 0, .int .i64 (n : Int)] 97 (0, 0)))
    (hne : R ≠ L ∧ R ≠ C ∧ L ≠ C ∧ w.heap.size ≤ P ∧ w.heap.size ≤ R ∧ w.heap.size ≤ L ∧ w.heap.size ≤ C ∧ w.heap.size ≤ G) :
    Pt U w.heap.size U.heap.size U.heap.size 0 0 P R L C n (fun _ => 0) (fun _ => 0) (fun _ => 0) (.slice (some ⟨G, 0, none⟩) 1 1) [(0, n)] (.slice none 0 0) [] := by
  obtain ⟨n1, n2, n3, n4, n5, n6, n7, n8⟩ := hne
  have lt : ∀ {b : Nat} {o : Obj}, U.heap[b]? = some o → b < U.heap.size := fun h => (Array.getElem?_eq_some_iff.1 h).1
  have dP : ∀ b, U.heap[b]? = some (zerN n) → P ≠ b := fun b hb' e => by
    rw [← e, hP] at hb'
    injection hb' with hb'
    unfold zerN at hb'
    injection hb' with _ hb'
    exact absurd hb' (by decide)
  refine ⟨hP, ⟨hR⟩, ⟨hL⟩, ⟨hC⟩, ⟨rfl, .inr ⟨G, 1, #[.int .i64 0, .int .i64 (n : Int)], rfl, n8, hG, Nat.le_refl _, by unfold maxLen; omega, by rfl, rfl⟩⟩, World.ownsRow_nil _ _ _ _, fun k hk => ?_, (fun k hk => nomatch hk), ⟨dP R hR, dP L hL, dP C hC, n1, n2, n3⟩, ⟨⟨n4, .inl (lt hP), .inr (Nat.zero_le _)⟩, ⟨n5, .inl (lt hR), .inr (Nat.zero_le _)⟩, ⟨n6, .inl (lt hL), .inr (Nat.zero_le _)⟩, ⟨n7, .inl (lt hC), .inr (Nat.zero_le _)⟩⟩, (fun k hk => nomatch hk), Nat.le_refl _, hb.size, Nat.zero_le _⟩
  have e : G = k := by simpa [Value.ownBlock] using hk
  subst e
  exact ⟨n8, .inl (lt hG), .inr (Nat.zero_le _)⟩
set_option maxRecDepth 100000 in
set_option maxHeartbeats 1600000 in
theorem newParts_any (n : Nat) (w : World) (hn0 : 0 < n) (hn : n ≤ 4000000) : Calls Tryd.prog 49 #[.int .i64 (n : Int)] w fun e w' => ∃ P, e = .returned (.pointer (some ⟨P, 0, none⟩)) ∧ (∃ R L C vs, Pt w' w.heap.size w'.heap.size w'.heap.size 0 0 P R L C n (fun s => s) (fun s => s) (fun _ => 0) vs [(0, n)] (.slice none 0 0) []) ∧ Below w.heap.size w w' := by
  have hmk : ∀ V : World, (Instr.makeSlice 25 (.int .i64 (n : Int)) (.int .i64 (n : Int))).run Tryd.prog V = .ok (.slice (some ⟨V.heap.size, 0, none⟩) n n) (V.alloc (zerN n)) := fun V => make_run n V (by omega)
  have hn0' : (0 : Int) ≤ (n : Int) := by omega
  go_enter Tryd.func49, Tryd.ntmps49
  go_upto_region 1 with (fail)
  go_cut [3] from 5 (fun p3 wx => ∃ P R L C G : Nat, p3 = .pointer (some ⟨P, 0, none⟩) ∧ Hid (Pt wx w.heap.size wx.heap.size wx.heap.size 0 0 P R L C n (fun _ => 0) (fun _ => 0) (fun _ => 0) (.slice (some ⟨G, 0, none⟩) 1 1) [(0, n)] (.slice none 0 0) []) ∧ Hid (Below w.heap.size w wx))
  case first =>
    go_wp2_with fail
    go_region
    all_goals
      go_wp2_with fail
      go_meet
      case rel =>
        have F := five_mk w
        refine ⟨_, _, _, _, _, rfl, hid0 (pt_new (F _ _ _ _ _).bel hn0 (F _ _ _ _ _).h4 ?_ ?_ ?_ ?_ (by omega)), hid0 (F _ _ _ _ _).bel⟩
        all_goals first | exact (F _ _ _ _ _).h0 | exact (F _ _ _ _ _).h1 | exact (F _ _ _ _ _).h2 | exact (F _ _ _ _ _).h3
  case rest =>
    obtain ⟨P, R, L, C, G, rfl, HP, HB⟩ := hcut
    clear hmk
    obtain ⟨z, hz⟩ : ∃ z, z = wc.heap.size := ⟨_, rfl⟩
    rw [← hz] at HP
    clear hz
    go_wp2
    go_loopw [17] (fun i wr => ∃ k : Nat, k ≤ n ∧ i = .int .i64 (k : Int) ∧ Hid (Pt wr w.heap.size z z 0 0 P R L C n (fun s => if s < k then s else 0) (fun s => if s < k then s else 0) (fun _ => 0) (.slice (some ⟨G, 0, none⟩) 1 1) [(0, n)] (.slice none 0 0) []) ∧ Hid (Below w.heap.size w wr)) (fun i _ => n - (intOf i).toNat)
    case atStart => exact ⟨0, Nat.zero_le _, rfl, HP, HB⟩
    case round =>
      obtain ⟨k, hk, rfl, HK, HBk⟩ := hrel
      by_cases hlt : k < n
      · have hkI : (k : Int) < (n : Int) := by omega
        have hkI0 : (0 : Int) ≤ (k : Int) := by omega
        obtain ⟨p0, p1, _, _, _⟩ := HK.out.cell
        obtain ⟨m1, m2, m3, m4, m5, m6⟩ := HK.out.ne
        have f1 := HK.out.row.frozen k
        have d1 := HK.out.row.cell hlt
        obtain ⟨x1, hx1⟩ : ∃ x1, x1 = wr.setCell ⟨R, k, none⟩ (.int .i64 (k : Int)) := ⟨_, rfl⟩
        have o1 : Ov x1 R n (putF (fun s => if s < k then s else 0) k k) := by rw [hx1]; exact HK.out.row.put k
        have k1 : Oth1 wr x1 R := by rw [hx1]; exact Oth1.setCell _ _ _ _
        have l1 := HK.out.place.keep (k1.oth _ (fun e => m4 e.symm))
        obtain ⟨x2, hx2⟩ : ∃ x2, x2 = x1.setCell ⟨L, k, none⟩ (.int .i64 (k : Int)) := ⟨_, rfl⟩
        have o2 : Ov x2 L n (putF (fun s => if s < k then s else 0) k k) := by rw [hx2]; exact l1.put k
        have k2 : Oth1 x1 x2 L := by rw [hx2]; exact Oth1.setCell _ _ _ _
        have f2 := l1.frozen k
        have d2 := l1.cell hlt
        have p1x : x1.cell? ⟨P, 1, none⟩ = some (.slice (some ⟨L, 0, none⟩) n n) := (k1.cell m1).trans p1
        have hO : Only wr x2.drew (fun b => b = R ∨ b = L) := ⟨k2.os.trans k1.os, k2.tape.trans k1.tape, k2.output.trans k1.output, by show _ ≤ x2.heap.size; rw [k2.size, k1.size]; exact Nat.le_refl _, fun b _ hb => (k2.oth b (fun e => hb (.inr e))).trans (k1.oth b (fun e => hb (.inl e)))⟩
        have hcong : ∀ s, s < n → putF (fun s => if s < k then s else 0) k k s = if s < k + 1 then s else 0 := fun s _ => by
          unfold putF
          by_cases e : s = k
          · subst e; rw [if_pos rfl, if_pos (by omega)]
          · rw [if_neg e]
            show (if s < k then s else 0) = _
            by_cases e2 : s < k
            · rw [if_pos e2, if_pos (by omega)]
            · rw [if_neg e2, if_neg (by omega)]
        have HK2 : Hid (Pt x2.drew w.heap.size z z 0 0 P R L C n (fun s => if s < k + 1 then s else 0) (fun s => if s < k + 1 then s else 0) (fun _ => 0) (.slice (some ⟨G, 0, none⟩) 1 1) [(0, n)] (.slice none 0 0) []) := hid0 (HK.out.rows hO (((o1.keep (k2.oth _ m4)).congr2 hcong).keep rfl) ((o2.congr2 hcong).keep rfl))
        have HB2 : Hid (Below w.heap.size w x2.drew) := hid0 (HBk.out.trans (hO.below HBk.out.size (fun b hb => by rcases hb with rfl | rfl; exact HK.out.g4.2.1.1; exact HK.out.g4.2.2.1.1)))
        have g1 := hx1.symm
        have g2 := hx2.symm
        clear hx1 hx2 o1 k1 l1 o2 k2 hO hcong HK HBk
        go_upto_region 5 with (fail)
        go_wp2_with fail
        go_region
        go_wp2
        go_roundw
        case rel => exact ⟨k + 1, by omega, by go_num, HK2, HB2⟩
        case measure => simp [intOf]; omega
      · have hkI : ¬ (k : Int) < (n : Int) := by omega
        have HF : Hid (Pt wr w.heap.size wr.heap.size wr.heap.size 0 0 P R L C n (fun s => s) (fun s => s) (fun _ => 0) (.slice (some ⟨G, 0, none⟩) 1 1) [(0, n)] (.slice none 0 0) []) := hid0 (by
          have h := HK.out.gap (Below.refl _ _)
          have hc : ∀ s, s < n → (if s < k then s else 0) = s := fun s hs => by rw [if_pos (by omega)]
          exact ⟨h.blk, h.row.congr2 hc, h.place.congr2 hc, h.class', h.spans, h.queue, h.gs, h.gq, h.ne, h.g4, h.nq, h.big, h.lol, h.bj⟩)
        clear HK
        go_wp2
        go_ret
        exact ⟨P, rfl, ⟨R, L, C, _, HF.out⟩, HBk.out⟩
end Go.Proofs.YtjemjccgfgijiaaDoor
namespace Go.Proofs.YtjemjccgfgijiaaDoor
open Go.RowKit Go.Shelf
theorem Oth1.below2 {W W' : World} {G lo : Nat} (ho : Oth1 W W' G) (hl : lo ≤ G) : Below lo W W' := ⟨ho.os, ho.tape, ho.output, by rw [ho.size]; exact Nat.le_refl _, fun k hk => ho.oth k (by omega)⟩
/-- The cells by their states, in memory. -/
structure InB (W : World) (lo IB CB EB N n1 : Nat) (ce en : Nat → Nat) : Prop where
  blk : W.heap[IB]? = some (.cells #[.slice (some ⟨CB, 0, none⟩) N N, .slice (some ⟨EB, 0, none⟩) n1 n1] 107 (0, 0))
  ce' : Ov W CB N ce
  en' : Ov W EB n1 en
  ne : IB ≠ CB ∧ IB ≠ EB ∧ CB ≠ EB
  lo' : lo ≤ IB ∧ lo ≤ CB ∧ lo ≤ EB
section
variable {W W' : World} {lo IB CB EB N n1 : Nat} {ce en : Nat → Nat}
theorem InB.cell (h : InB W lo IB CB EB N n1 ce en) : W.cell? ⟨IB, 0, none⟩ = some (.slice (some ⟨CB, 0, none⟩) N N) ∧ W.cell? ⟨IB, 1, none⟩ = some (.slice (some ⟨EB, 0, none⟩) n1 n1) := by
  refine ⟨?_, ?_⟩ <;> (rw [cell_of_row _ _ _ _ _ _ h.blk]; rfl)
theorem InB.setE (h : InB W lo IB CB EB N n1 ce en) (t v : Nat) : InB (W.setCell ⟨EB, t, none⟩ (.int .i64 (v : Int))) lo IB CB EB N n1 ce (putF en t v) ∧ Below lo W (W.setCell ⟨EB, t, none⟩ (.int .i64 (v : Int))) := by
  obtain ⟨a, b, c⟩ := h.ne
  have k := Oth1.setCell W EB t (.int .i64 (v : Int))
  exact ⟨⟨(k.oth _ b).trans h.blk, h.ce'.keep (k.oth _ c), h.en'.put v, h.ne, h.lo'⟩, k.below2 h.lo'.2.2⟩
theorem InB.setC (h : InB W lo IB CB EB N n1 ce en) (t v : Nat) : InB (W.setCell ⟨CB, t, none⟩ (.int .i64 (v : Int))) lo IB CB EB N n1 (putF ce t v) en ∧ Below lo W (W.setCell ⟨CB, t, none⟩ (.int .i64 (v : Int))) := by
  obtain ⟨a, b, c⟩ := h.ne
  have k := Oth1.setCell W CB t (.int .i64 (v : Int))
  exact ⟨⟨(k.oth _ a).trans h.blk, h.ce'.put v, h.en'.keep (k.oth _ (Ne.symm c)), h.ne, h.lo'⟩, k.below2 h.lo'.2.1⟩
theorem InB.drewN (h : InB W lo IB CB EB N n1 ce en) (k : Nat) : InB (W.drewN k) lo IB CB EB N n1 ce en := ⟨h.blk, h.ce'.keep rfl, h.en'.keep rfl, h.ne, h.lo'⟩
theorem InB.past (h : InB W lo IB CB EB N n1 ce en) (hb : Below W.heap.size W W') : InB W' lo IB CB EB N n1 ce en := ⟨(hb.block _ (Array.getElem?_eq_some_iff.1 h.blk).1).trans h.blk, h.ce'.keep (hb.block _ h.ce'.lt), h.en'.keep (hb.block _ h.en'.lt), h.ne, h.lo'⟩
theorem InB.congr (h : InB W lo IB CB EB N n1 ce en) {en2 : Nat → Nat} (e : ∀ t, t < n1 → en t = en2 t) : InB W lo IB CB EB N n1 ce en2 := ⟨h.blk, h.ce', h.en'.congr2 e, h.ne, h.lo'⟩
end
/-- Three blocks that were made one behind the other. -/
theorem three_mk (w : World) (o0 o1 o2 : Obj) : (((w.alloc o0).alloc o1).alloc o2).drew.heap[w.heap.size]? = some o0 ∧ (((w.alloc o0).alloc o1).alloc o2).drew.heap[w.heap.size + 1]? = some o1 ∧ (((w.alloc o0).alloc o1).alloc o2).drew.heap[w.heap.size + 1 + 1]? = some o2 ∧ Below w.heap.size w (((w.alloc o0).alloc o1).alloc o2).drew := by
  have s1 : (w.alloc o0).heap.size = w.heap.size + 1 := by simp
  have s2 : ((w.alloc o0).alloc o1).heap.size = w.heap.size + 1 + 1 := by simp
  have n0 := heap_alloc_new w o0
  have n1 := heap_alloc_new (w.alloc o0) o1
  have n2 := heap_alloc_new ((w.alloc o0).alloc o1) o2
  rw [s1] at n1
  rw [s2] at n2
  have b1 := ((Below.refl w.heap.size w).alloc (Nat.le_refl _) o0)
  have b2 := b1.alloc (by omega) o1
  have b3 := b2.alloc (by omega) o2
  exact ⟨((Below.heap_alloc _ _ _ (by omega)).trans (Below.heap_alloc _ _ _ (by omega))).trans n0, (Below.heap_alloc _ _ _ (by omega)).trans n1, n2, ⟨b3.os, b3.tape, b3.output, b3.size, b3.block⟩⟩
set_option maxRecDepth 100000 in
set_option maxHeartbeats 1600000 in
theorem into_any (X m n : Nat) (aN : Option Addr) (cN : Nat) (FN : List Int) (aO : Option Addr) (cO : Nat) (OL : List (List Int)) (F : Nat → Nat) (w : World) (hw : Wh w X m aN cN FN aO cO OL) (hn : OL.length = n) (hnb : n ≤ 2200000) (hNb : FN.length ≤ 2200000) (hF : ∀ c (h : c < FN.length), FN[c] = ((F c : Nat) : Int) ∧ F c < n) :
    Calls Tryd.prog 52 #[.pointer (some ⟨X, 0, none⟩)] w fun e w' => ∃ IB, e = .returned (.pointer (some ⟨IB, 0, none⟩)) ∧ (∃ CB EB ce, InB w' w.heap.size IB CB EB FN.length (n + 1) ce (fun t => if t < n then preC F FN.length (t + 1) else FN.length) ∧ Into F n FN.length FN.length ce) ∧ Below w.heap.size w w' := by
  have HW : Hid (∀ V, Below w.heap.size w V → Wh V X m aN cN FN aO cO OL) := hid0 (fun V hV => hw.past hV)
  have HF := hid0 hF
  obtain ⟨N, hN⟩ : ∃ N, N = FN.length := ⟨_, rfl⟩
  have hNb2 : N ≤ 2200000 := by omega
  have HN := hid0 hN
  have hmk : ∀ V : World, (Instr.makeSlice 25 (.int .i64 (N : Int)) (.int .i64 (N : Int))).run Tryd.prog V = .ok (.slice (some ⟨V.heap.size, 0, none⟩) N N) (V.alloc (zerN N)) := fun V => make_run N V (by omega)
  have hmk2 : ∀ V : World, (Instr.makeSlice 25 (.int .i64 ((n + 1 : Nat) : Int)) (.int .i64 ((n + 1 : Nat) : Int))).run Tryd.prog V = .ok (.slice (some ⟨V.heap.size, 0, none⟩) (n + 1) (n + 1)) (V.alloc (zerN (n + 1))) := fun V => make_run (n + 1) V (by omega)
  obtain ⟨_, x1, x2⟩ := hw.cell
  rw [← hN] at x1
  rw [hn] at x2
  obtain ⟨n1, hn1⟩ : ∃ n1, n1 = n + 1 := ⟨_, rfl⟩
  rw [← hn1] at hmk2
  have hn1I : (n : Int) + 1 = (n1 : Int) := by omega
  have hn1W : IntKind.i64.wrap (n1 : Int) = (n1 : Int) := by simp [IntKind.wrap, IntKind.bits, IntKind.signed]; omega
  have HN1 := hid0 hn1
  have HOl := hid0 hn
  have x1A : ∀ o, (w.alloc o).cell? ⟨X, 1, none⟩ = some (.slice aN N cN) := fun o => cell_alloc x1 o
  have x2A : ∀ o, (w.alloc o).cell? ⟨X, 2, none⟩ = some (.slice aO n cO) := fun o => cell_alloc x2 o
  have hFall : ∀ d, d < N → F d < n := fun d hd => (hF d (by omega)).2
  have HFa := hid0 hFall
  have HPa := hid0 (preC_all N hFall)
  clear hw hF hN hn hn1 hFall
  go_enter Tryd.func52, Tryd.ntmps52
  go_upto_region 1 with (fail)
  go_cut [3] from 9 (fun p3 wx => ∃ IB CB EB : Nat, p3 = .pointer (some ⟨IB, 0, none⟩) ∧ Hid (InB wx w.heap.size IB CB EB N n1 (fun _ => 0) (fun _ => 0)) ∧ Hid (Below w.heap.size w wx))
  case first =>
    go_wp2_with fail
    go_region
    all_goals
      go_wp2_with fail
      go_meet
      case rel =>
        have T := three_mk w
        refine ⟨_, _, _, rfl, hid0 ⟨(T _ _ _).2.2.1, ⟨?_⟩, ⟨?_⟩, by omega, by omega⟩, hid0 (T _ _ _).2.2.2⟩
        all_goals first | exact (T _ _ _).1 | exact (T _ _ _).2.1
  case rest =>
    obtain ⟨IB, CB, EB, rfl, HI, HB⟩ := hcut
    clear hmk hmk2 x1A x2A x1 x2
    have HX : Hid (∀ V, Below w.heap.size w V → V.cell? ⟨X, 1, none⟩ = some (.slice aN N cN) ∧ V.cell? ⟨X, 2, none⟩ = some (.slice aO n cO) ∧ IA V aN FN) := hid0 (fun V hV => by
      obtain ⟨_, y1, y2⟩ := (HW.out V hV).cell
      rw [← HN.out] at y1
      rw [HOl.out] at y2
      exact ⟨y1, y2, (HW.out V hV).nx⟩)
    obtain ⟨x1, x2, _⟩ := HX.out _ HB.out
    have HI0 : Hid (InB wc w.heap.size IB CB EB N n1 (fun _ => 0) (fun t => if t = 0 then 0 else cuF F 0 (t - 1))) := hid0 (HI.out.congr (fun t _ => by split <;> rfl))
    go_wp2
    clear x1 x2
    go_loopw [29] (fun i wr => ∃ k : Nat, k ≤ N ∧ i = .int .i64 (k : Int) ∧ Hid (InB wr w.heap.size IB CB EB N n1 (fun _ => 0) (fun t => if t = 0 then 0 else cuF F k (t - 1))) ∧ Hid (Below w.heap.size w wr)) (fun i _ => N - (intOf i).toNat)
    case atStart => exact ⟨0, Nat.zero_le _, rfl, HI0, HB⟩
    case round =>
      clear HI HI0 HB
      obtain ⟨k, hk, rfl, HI, HB⟩ := hrel
      obtain ⟨x1, x2, xn⟩ := HX.out _ HB.out
      by_cases hlt : k < N
      · have hkI : (k : Int) < (N : Int) := by omega
        have hk0 : (0 : Int) ≤ (k : Int) := by omega
        have hkF : k < FN.length := by rw [← HN.out]; exact hlt
        obtain ⟨b, off, hab, _, d1⟩ := xn.at' k hkF
        subst hab
        rw [(HF.out k hkF).1] at d1
        have hyn := HFa.out k hlt
        obtain ⟨y, hy⟩ : ∃ y, y = F k := ⟨_, rfl⟩
        rw [← hy] at d1 hyn
        obtain ⟨y1, hy1⟩ : ∃ y1, y1 = y + 1 := ⟨_, rfl⟩
        have hyn1 : y1 < n1 := by have := HN1.out; omega
        have hy1I : (y : Int) + 1 = (y1 : Int) := by omega
        have hy1W : IntKind.i64.wrap (y1 : Int) = (y1 : Int) := by simp [IntKind.wrap, IntKind.bits, IntKind.signed]; omega
        have hy1l : (y1 : Int) < (n1 : Int) := by omega
        have hy10 : (0 : Int) ≤ (y1 : Int) := by omega
        obtain ⟨_, e1⟩ := HI.out.cell
        have dv := HI.out.en'.cell hyn1
        have fv := HI.out.en'.frozen y1
        have hcv := cuF_le F y k
        have hv0e : (if y1 = 0 then 0 else cuF F k (y1 - 1)) = cuF F k y := by rw [if_neg (by omega), hy1]; rfl
        simp only [hv0e] at dv
        obtain ⟨v0, hv0⟩ : ∃ v0, v0 = cuF F k y := ⟨_, rfl⟩
        rw [← hv0] at dv hcv
        obtain ⟨v1, hv1⟩ : ∃ v1, v1 = v0 + 1 := ⟨_, rfl⟩
        have hv1I : (v0 : Int) + 1 = (v1 : Int) := by omega
        have hv1W : IntKind.i64.wrap (v1 : Int) = (v1 : Int) := by simp [IntKind.wrap, IntKind.bits, IntKind.signed]; omega
        obtain ⟨x3, hx3⟩ : ∃ x3, x3 = wr.setCell ⟨EB, y1, none⟩ (.int .i64 (v1 : Int)) := ⟨_, rfl⟩
        obtain ⟨hI2, hB2⟩ := HI.out.setE y1 v1
        rw [← hx3] at hI2 hB2
        have HI2 : Hid (InB x3 w.heap.size IB CB EB N n1 (fun _ => 0) (fun t => if t = 0 then 0 else cuF F (k + 1) (t - 1))) := hid0 (hI2.congr (fun t ht => by
          unfold putF
          by_cases e : t = y1
          · subst e
            rw [if_pos rfl, if_neg (by omega), cuF, if_pos (by omega), hv1, hv0, hy1]; rfl
          · rw [if_neg e]
            show (if t = 0 then 0 else cuF F k (t - 1)) = _
            by_cases e0 : t = 0
            · rw [if_pos e0, if_pos e0]
            · rw [if_neg e0, if_neg e0, cuF, if_neg (by omega)]; rfl))
        have HB2 := hid0 (HB.out.trans hB2)
        have g3 := hx3.symm
        clear hx3 hI2 hB2 hv1 hv0 hv0e hy1 hy HI HB xn hkF
        go_wp2
        go_roundw
        case rel => exact ⟨k + 1, by omega, by go_num, HI2, HB2⟩
        case measure => simp [intOf]; omega
      · obtain rfl : k = N := by omega
        have hkI : ¬ (k : Int) < (k : Int) := by omega
        have HJ0 : Hid (InB wr w.heap.size IB CB EB k n1 (fun _ => 0) (fun t => if t ≤ 0 then preC F k t else cuF F k (t - 1))) := hid0 (HI.out.congr (fun t _ => by
          by_cases e : t = 0
          · subst e; rfl
          · rw [if_neg e, if_neg (by omega)]))
        clear HI
        go_wp2
        clear x1 x2
        go_loopw [49] (fun i wr => ∃ j : Nat, j ≤ n ∧ i = .int .i64 (j : Int) ∧ Hid (InB wr w.heap.size IB CB EB k n1 (fun _ => 0) (fun t => if t ≤ j then preC F k t else cuF F k (t - 1))) ∧ Hid (Below w.heap.size w wr)) (fun i _ => n - (intOf i).toNat)
        case atStart => exact ⟨0, Nat.zero_le _, rfl, HJ0, HB⟩
        case round =>
          clear HJ0 HB xn
          obtain ⟨j, hj, rfl, HI, HB⟩ := hrel
          obtain ⟨x1, x2, xn⟩ := HX.out _ HB.out
          by_cases hjl : j < n
          · have hjI : (j : Int) < (n : Int) := by omega
            have hj0 : (0 : Int) ≤ (j : Int) := by omega
            obtain ⟨j1, hj1⟩ : ∃ j1, j1 = j + 1 := ⟨_, rfl⟩
            have hj1n : j1 < n1 := by have := HN1.out; omega
            have hjn1 : j < n1 := by omega
            have hj1I : (j : Int) + 1 = (j1 : Int) := by omega
            have hj1W : IntKind.i64.wrap (j1 : Int) = (j1 : Int) := by simp [IntKind.wrap, IntKind.bits, IntKind.signed]; omega
            have hj1l : (j1 : Int) < (n1 : Int) := by omega
            have hjn1l : (j : Int) < (n1 : Int) := by omega
            have hj10 : (0 : Int) ≤ (j1 : Int) := by omega
            obtain ⟨_, e1⟩ := HI.out.cell
            have dv := HI.out.en'.cell hj1n
            have dw := HI.out.en'.cell hjn1
            have fv := HI.out.en'.frozen j1
            have hv0e : (if j1 ≤ j then preC F k j1 else cuF F k (j1 - 1)) = cuF F k j := by rw [if_neg (by omega), hj1]; rfl
            have hw0e : (if j ≤ j then preC F k j else cuF F k (j - 1)) = preC F k j := if_pos (Nat.le_refl _)
            simp only [hv0e] at dv
            simp only [hw0e] at dw
            have hsum : preC F k j1 = preC F k j + cuF F k j := by rw [hj1]; rfl
            have hle : preC F k j1 ≤ k := by
              have h1 := preC_mono F k (show j1 ≤ n by omega)
              have := HPa.out
              omega
            obtain ⟨v0, hv0⟩ : ∃ v0, v0 = cuF F k j := ⟨_, rfl⟩
            obtain ⟨u0, hu0⟩ : ∃ u0, u0 = preC F k j := ⟨_, rfl⟩
            obtain ⟨v1, hv1⟩ : ∃ v1, v1 = preC F k j1 := ⟨_, rfl⟩
            rw [← hv0] at dv hsum
            rw [← hu0] at dw hsum
            rw [← hv1] at hsum hle
            have hv1I : (v0 : Int) + (u0 : Int) = (v1 : Int) := by omega
            have hv1W : IntKind.i64.wrap (v1 : Int) = (v1 : Int) := by simp [IntKind.wrap, IntKind.bits, IntKind.signed]; omega
            obtain ⟨x3, hx3⟩ : ∃ x3, x3 = wr.setCell ⟨EB, j1, none⟩ (.int .i64 (v1 : Int)) := ⟨_, rfl⟩
            obtain ⟨hI2, hB2⟩ := HI.out.setE j1 v1
            rw [← hx3] at hI2 hB2
            have HI2 : Hid (InB x3.drew w.heap.size IB CB EB k n1 (fun _ => 0) (fun t => if t ≤ j + 1 then preC F k t else cuF F k (t - 1))) := hid0 ((hI2.congr (fun t ht => by
              unfold putF
              by_cases e : t = j1
              · subst e
                rw [if_pos rfl, if_pos (by omega)]
                exact hv1
              · rw [if_neg e]
                show (if t ≤ j then preC F k t else cuF F k (t - 1)) = _
                by_cases e0 : t ≤ j
                · rw [if_pos e0, if_pos (by omega)]
                · rw [if_neg e0, if_neg (by omega)])).drewN 1)
            have HB2 : Hid (Below w.heap.size w x3.drew) := hid0 (below_drew' (HB.out.trans hB2) 1)
            have g3 := hx3.symm
            clear hx3 hI2 hB2 hv1 hv0 hu0 hv0e hw0e hj1 HI HB xn hsum
            go_upto_region 10 with (fail)
            go_wp2_with fail
            go_region
            go_wp2
            go_roundw
            case rel => exact ⟨j + 1, by omega, by go_num, HI2, HB2⟩
            case measure => simp [intOf]; omega
          · obtain rfl : j = n := by omega
            have hjI : ¬ (j : Int) < (j : Int) := by omega
            have HK0 : Hid (InB wr w.heap.size IB CB EB k n1 (fun _ => 0) (fun t => if t < j then preC F k t + cuF F 0 t else k)) := hid0 (HI.out.congr (fun t ht => by
              have h1 := HN1.out
              rw [if_pos (by omega)]
              by_cases e : t < j
              · rw [if_pos e]; rfl
              · rw [if_neg e, show t = j by omega]; exact HPa.out))
            have HT0 := hid0 (into_zero F j k (fun _ => 0))
            clear HI
            go_wp2
            clear x1 x2
            go_loopw [75] (fun i wr => ∃ (c : Nat) (ce : Nat → Nat), c ≤ k ∧ i = .int .i64 (c : Int) ∧ Hid (InB wr w.heap.size IB CB EB k n1 ce (fun t => if t < j then preC F k t + cuF F c t else k)) ∧ Hid (Into F j k c ce) ∧ Hid (Below w.heap.size w wr)) (fun i _ => k - (intOf i).toNat)
            case atStart => exact ⟨0, _, Nat.zero_le _, rfl, HK0, HT0, HB⟩
            case round =>
              clear HK0 HT0 HB xn
              obtain ⟨c, ce, hc, rfl, HI, HT, HB⟩ := hrel
              obtain ⟨x1, x2, xn⟩ := HX.out _ HB.out
              by_cases hcl : c < k
              · have hcI : (c : Int) < (k : Int) := by omega
                have hc0 : (0 : Int) ≤ (c : Int) := by omega
                have hkF : c < FN.length := by rw [← HN.out]; exact hcl
                obtain ⟨b, off, hab, _, d1⟩ := xn.at' c hkF
                subst hab
                rw [(HF.out c hkF).1] at d1
                have hyn := HFa.out c hcl
                have hpos : preC F k (F c) + cuF F c (F c) < k := by
                  have h1 := cuF_lt F hcl
                  have h2 := preC_mono F k (show F c + 1 ≤ j by omega)
                  have h3 := HPa.out
                  rw [preC] at h2
                  omega
                have HT2 := hid0 (HT.out.put hcl (fun d hd => HFa.out d hd))
                have hcuE : cuF F (c + 1) (F c) = cuF F c (F c) + 1 := by rw [cuF, if_pos rfl]
                have hcuO : ∀ t, t ≠ F c → cuF F (c + 1) t = cuF F c t := fun t ht => by rw [cuF, if_neg (Ne.symm ht)]; rfl
                obtain ⟨y, hy⟩ : ∃ y, y = F c := ⟨_, rfl⟩
                rw [← hy] at d1 hyn hpos HT2 hcuE hcuO
                have hyn1 : y < n1 := by have := HN1.out; omega
                have hyI : (y : Int) < (n1 : Int) := by omega
                have hy0 : (0 : Int) ≤ (y : Int) := by omega
                obtain ⟨e0, e1⟩ := HI.out.cell
                have dv := HI.out.en'.cell hyn1
                have hve : (if y < j then preC F k y + cuF F c y else k) = preC F k y + cuF F c y := if_pos hyn
                simp only [hve] at dv
                obtain ⟨v0, hv0⟩ : ∃ v0, v0 = preC F k y + cuF F c y := ⟨_, rfl⟩
                rw [← hv0] at dv hpos HT2
                have dc := HI.out.ce'.cell hpos
                have fc := HI.out.ce'.frozen v0
                have hvI : (v0 : Int) < (k : Int) := by omega
                have hvI0 : (0 : Int) ≤ (v0 : Int) := by omega
                obtain ⟨v1, hv1⟩ : ∃ v1, v1 = v0 + 1 := ⟨_, rfl⟩
                have hv1I : (v0 : Int) + 1 = (v1 : Int) := by omega
                have hv1W : IntKind.i64.wrap (v1 : Int) = (v1 : Int) := by simp [IntKind.wrap, IntKind.bits, IntKind.signed]; omega
                obtain ⟨x3, hx3⟩ : ∃ x3, x3 = wr.setCell ⟨CB, v0, none⟩ (.int .i64 (c : Int)) := ⟨_, rfl⟩
                obtain ⟨hI2, hB2⟩ := HI.out.setC v0 c
                rw [← hx3] at hI2 hB2
                have hI3 : InB x3.drew w.heap.size IB CB EB k n1 (putF ce v0 c) (fun t => if t < j then preC F k t + cuF F c t else k) := hI2.drewN 1
                obtain ⟨x4, hx4⟩ : ∃ x4, x4 = x3.drew.setCell ⟨EB, y, none⟩ (.int .i64 (v1 : Int)) := ⟨_, rfl⟩
                obtain ⟨hI4, hB4⟩ := hI3.setE y v1
                rw [← hx4] at hI4 hB4
                have dv3 := hI3.en'.cell hyn1
                simp only [hve] at dv3
                rw [← hv0] at dv3
                have fv3 := hI3.en'.frozen y
                have e13 := hI3.cell.2
                have HI4 : Hid (InB x4 w.heap.size IB CB EB k n1 (putF ce v0 c) (fun t => if t < j then preC F k t + cuF F (c + 1) t else k)) := hid0 (hI4.congr (fun t ht => by
                  unfold putF
                  by_cases e : t = y
                  · subst e
                    rw [if_pos rfl, if_pos hyn, hcuE, hv1, hv0]; omega
                  · rw [if_neg e]
                    show (if t < j then preC F k t + cuF F c t else k) = _
                    rw [hcuO t e]))
                have HB4 : Hid (Below w.heap.size w x4) := hid0 ((show Below w.heap.size w x3.drew from below_drew' (HB.out.trans hB2) 1).trans hB4)
                have g3 := hx3.symm
                have g4 := hx4.symm
                clear hx3 hx4 hI2 hB2 hI3 hI4 hB4 hv1 hv0 hve hcuE hcuO hy HI HB HT xn hkF
                go_upto_region 15 with (fail)
                go_wp2_with fail
                go_region
                go_wp2
                go_roundw
                case rel => exact ⟨c + 1, _, by omega, by go_num, HI4, HT2, HB4⟩
                case measure => simp [intOf]; omega
              · obtain rfl : c = k := by omega
                have hcI : ¬ (c : Int) < (c : Int) := by omega
                have HFin : Hid ((∃ CB EB ce, InB wr w.heap.size IB CB EB FN.length (j + 1) ce (fun t => if t < j then preC F FN.length (t + 1) else FN.length) ∧ Into F j FN.length FN.length ce) ∧ Below w.heap.size w wr) := hid0 (by
                  rw [← HN.out, ← HN1.out]
                  exact ⟨⟨CB, EB, ce, HI.out.congr (fun t ht => by split <;> rfl), HT.out⟩, HB.out⟩)
                clear HI HT HB xn
                go_wp2
                go_ret
                exact ⟨IB, rfl, HFin.out⟩
end Go.Proofs.YtjemjccgfgijiaaDoor
namespace Go.Proofs.YtjemjccgfgijiaaDoor
open Go.RowKit Go.Shelf
/-- The cells that lead to a state. -/
def sgF (F : Nat → Nat) (N : Nat) (ce : Nat → Nat) (s : Nat) : List Nat := (List.range (cuF F N s)).map fun j => ce (preC F N s + j)
theorem sgF_len (F : Nat → Nat) (N : Nat) (ce : Nat → Nat) (s : Nat) : (sgF F N ce s).length = cuF F N s := by simp [sgF]
theorem sgF_mem {F : Nat → Nat} {n N : Nat} {ce : Nat → Nat} (h : Into F n N N ce) {s : Nat} (hs : s < n) (c : Nat) : c ∈ sgF F N ce s ↔ c < N ∧ F c = s := by
  unfold sgF
  rw [List.mem_map]
  constructor
  · rintro ⟨j, hj, rfl⟩
    exact h.fw s hs j (List.mem_range.1 hj)
  · rintro ⟨h1, h2⟩
    obtain ⟨j, h3, h4⟩ := h.bw c h1
    rw [h2] at h3 h4
    exact ⟨j, List.mem_range.2 h3, h4⟩
theorem sg_ia {W : World} {CB N p l : Nat} {ce : Nat → Nat} (h : Ov W CB N ce) (hp : p + l ≤ N) : IA W (some ⟨CB, p, none⟩) (natI ((List.range l).map fun j => ce (p + j))) := ⟨fun k hk => by
  simp only [natI, List.length_map, List.length_range] at hk
  refine ⟨CB, p, rfl, h.lt, ?_⟩
  rw [h.cell (s := p + k) (by omega)]
  simp [natI]⟩
set_option maxRecDepth 100000 in
set_option maxHeartbeats 800000 in
theorem of_any (lo IB CB EB n N s : Nat) (F ce : Nat → Nat) (w : World) (hi : InB w lo IB CB EB N (n + 1) ce (fun t => if t < n then preC F N (t + 1) else N)) (hs : s < n) (hN : preC F N n = N) (hb : N ≤ 2200000) (hnb : n ≤ 2200000) :
    Calls Tryd.prog 54 #[.pointer (some ⟨IB, 0, none⟩), .int .i64 (s : Int)] w fun e w' => ∃ ad c, e = .returned (.slice (some ad) (cuF F N s) c) ∧ IA w (some ad) (natI (sgF F N ce s)) ∧ ∃ q, w' = w.drewN q := by
  obtain ⟨c0, c1⟩ := hi.cell
  have hle : preC F N (s + 1) ≤ N := by have := preC_mono F N (show s + 1 ≤ n by omega); omega
  have hsum : preC F N (s + 1) = preC F N s + cuF F N s := rfl
  have d1 := hi.en'.cell (s := s) (by omega)
  have e1 : (if s < n then preC F N (s + 1) else N) = preC F N (s + 1) := if_pos hs
  simp only [e1] at d1
  have HIa := hid0 (sg_ia hi.ce' (p := preC F N s) (l := cuF F N s) (by omega))
  have HSg : Hid (natI (sgF F N ce s) = natI ((List.range (cuF F N s)).map fun j => ce (preC F N s + j))) := hid0 rfl
  have HL := hid0 (sgF_len F N ce s)
  obtain ⟨n1, hn1⟩ : ∃ n1, n1 = n + 1 := ⟨_, rfl⟩
  rw [← hn1] at c1
  have hsI : (s : Int) < (n1 : Int) := by omega
  have hs0 : (0 : Int) ≤ (s : Int) := by omega
  have h0I : (0 : Int) < (n1 : Int) := by omega
  obtain ⟨hi2, hhi⟩ : ∃ hi2, hi2 = preC F N (s + 1) := ⟨_, rfl⟩
  rw [← hhi] at d1 hle hsum
  have hhI : (hi2 : Int) ≤ (N : Int) := by omega
  have hhI0 : (0 : Int) ≤ (hi2 : Int) := by omega
  by_cases h0 : s = 0
  · subst h0
    have hp0 : preC F N 0 = 0 := rfl
    have HE : Hid (hi2 = cuF F N 0) := hid0 (by rw [hsum, hp0]; omega)
    have HIb : Hid (IA w (some ⟨CB, 0, none⟩) (natI (sgF F N ce 0))) := hid0 (by rw [HSg.out]; have := HIa.out; rw [hp0] at this; exact this)
    clear hhi hsum hi HIa HSg e1 hn1
    go_enter Tryd.func54, Tryd.ntmps54
    go_wp2
    go_quiet ((fail))
    go_wp2
    go_ret
    exact ⟨_, _, by rw [← HE.out]; rfl, HIb.out, _, rfl⟩
  · obtain ⟨s', hs'⟩ : ∃ s', s' = s - 1 := ⟨_, rfl⟩
    have d0 := hi.en'.cell (s := s') (by omega)
    have e0 : (if s' < n then preC F N (s' + 1) else N) = preC F N s := by rw [if_pos (by omega), show s' + 1 = s by omega]
    simp only [e0] at d0
    obtain ⟨lo2, hlo2⟩ : ∃ lo2, lo2 = preC F N s := ⟨_, rfl⟩
    rw [← hlo2] at d0 hsum HIa
    have hl0 : (0 : Int) ≤ (lo2 : Int) := by omega
    have hlh : (lo2 : Int) ≤ (hi2 : Int) := by omega
    have hs'I : (s : Int) - 1 = (s' : Int) := by omega
    have hs'W : IntKind.i64.wrap (s' : Int) = (s' : Int) := by simp [IntKind.wrap, IntKind.bits, IntKind.signed]; omega
    have hs'1 : (s' : Int) < (n1 : Int) := by omega
    have hs'0 : (0 : Int) ≤ (s' : Int) := by omega
    have hsne : ((s : Int) == 0) = false := by simp; omega
    have hsneI : ¬ (s : Int) = 0 := by omega
    have hdl : hi2 - lo2 = cuF F N s := by omega
    have HE : Hid (hi2 - lo2 = cuF F N s) := hid0 hdl
    have HIb : Hid (IA w (some ⟨CB, lo2, none⟩) (natI (sgF F N ce s))) := hid0 (by unfold sgF; rw [← hlo2]; exact HIa.out)
    have HIe : Hid (N = lo2 → ∀ a, IA w a (natI (sgF F N ce s))) := hid0 (fun e a => ⟨fun k hk => by rw [natI_len, HL.out] at hk; omega⟩)
    clear hhi hsum hi HIa HSg e1 e0 hn1 hlo2 hs' hdl
    by_cases hcap : N = lo2
    · have HIf := hid0 (HIe.out hcap)
      have hcapI : (N : Int) = (lo2 : Int) := by omega
      go_enter Tryd.func54, Tryd.ntmps54
      go_wp2
      go_quiet ((fail))
      go_wp2
      go_ret
      exact ⟨_, _, by rw [← HE.out]; rfl, HIf.out _, _, rfl⟩
    · go_enter Tryd.func54, Tryd.ntmps54
      go_wp2
      go_quiet ((fail))
      go_wp2
      go_ret
      exact ⟨_, _, by rw [← HE.out]; rfl, HIb.out, _, rfl⟩
end Go.Proofs.YtjemjccgfgijiaaDoor
namespace Go.Proofs.YtjemjccgfgijiaaDoor
open Go.RowKit Go.Shelf Go.Lib Go.Maps
def natO (r : List Int) : List Nat := r.map Int.toNat
/-- The texts of what the first states tell. -/
def seqO (OL : List (List Int)) (k : Nat) : List (List UInt8 × Nat) := (List.range k).map fun s => (encL (natO (OL.getD s [])), s)
theorem seqO_succ (OL : List (List Int)) (k : Nat) : seqO OL (k + 1) = seqO OL k ++ [(encL (natO (OL.getD k [])), k)] := by
  unfold seqO
  rw [List.range_succ, List.map_append]
  rfl
theorem seqO_mem {OL : List (List Int)} {k : Nat} {x : List UInt8 × Nat} (h : x ∈ seqO OL k) : x.2 < k ∧ x.1 = encL (natO (OL.getD x.2 [])) := by
  unfold seqO at h
  obtain ⟨s, hs, rfl⟩ := List.mem_map.1 h
  exact ⟨List.mem_range.1 hs, rfl⟩
theorem seqO_len (OL : List (List Int)) (k : Nat) : (seqO OL k).length = k := by simp [seqO]
set_option maxRecDepth 100000 in
set_option maxHeartbeats 1600000 in
theorem byOut_any (X m : Nat) (aN : Option Addr) (cN : Nat) (FN : List Int) (aO : Option Addr) (cO : Nat) (OL : List (List Int)) (w : World) (hw : Wh w X m aN cN FN aO cO OL) (hn : OL.length ≤ 2200000) (hr : ∀ r ∈ OL, r.length ≤ 2200000) (hz : ∀ r ∈ OL, ∀ z ∈ r, 0 ≤ z ∧ z < 9223372036854775808) :
    Calls Tryd.prog 51 #[.pointer (some ⟨X, 0, none⟩)] w fun e w' => ∃ a c ks Ls, e = .returned (.slice a Ls.length c) ∧ GapL w' w.heap.size w'.heap.size a Ls ∧ GI ks Ls (seqO OL OL.length) ∧ Ls.length ≤ OL.length ∧ Below w.heap.size w w' := by
  have HW : Hid (∀ V, Below w.heap.size w V → Wh V X m aN cN FN aO cO OL) := hid0 (fun V hV => hw.past hV)
  have HR := hid0 hr
  have HZ := hid0 hz
  have HNg := hid0 (newGroups_any w)
  clear hw hr hz
  go_enter Tryd.func51, Tryd.ntmps51
  go_upto_region 3 with (go_at_call 65; go_loud ((refine HNg.out.mono ?_; rintro e w1 ⟨GB, MB, rfl, hg1, hb1⟩)))
  have HS0 := hid0 (grS_new hg1 hb1)
  obtain ⟨_, _, x2⟩ := (HW.out _ hb1).cell
  have HGl : Hid (∀ V v tx seq, GrS w V GB MB v tx seq → ∃ vl, V.cell? ⟨GB, 1, none⟩ = some vl ∧ ∃ ks ps Ls, Gp V w.heap.size GB MB vl ks ps Ls ∧ GI ks Ls seq ∧ ks.length ≤ seq.length) := hid0 (fun V v tx seq h => by
    obtain ⟨vl, ks, ps, Ls, h1, h2, h3⟩ := h.gp
    exact ⟨vl, h1.cell.2.1, ks, ps, Ls, h1, h2, h3⟩)
  clear hg1 hb1
  go_wp2
  go_loopw [4, 15] (fun v i wr => ∃ (k : Nat) (tx : List UInt8), k ≤ OL.length ∧ i = .int .i64 (k : Int) ∧ Hid (GrS w wr GB MB v tx (seqO OL k))) (fun _ i _ => OL.length - (intOf i).toNat)
  case atStart => exact ⟨0, [], Nat.zero_le _, rfl, HS0⟩
  case round =>
    obtain ⟨k, tx, hk, rfl, HS⟩ := hrel
    clear x2
    by_cases hlt : k < OL.length
    · have hkI : (k : Int) < (OL.length : Int) := by omega
      have hk0 : (0 : Int) ≤ (k : Int) := by omega
      obtain ⟨b, off, hab, _, a1, c1, d1, i1⟩ := (HW.out _ HS.out.bel).ou.at' k hlt
      subst hab
      obtain ⟨av, cv, hv⟩ := HS.out.form
      subst hv
      have hrl := HR.out _ (List.getElem_mem hlt)
      have HRz := hid0 (HZ.out _ (List.getElem_mem hlt))
      have HOk : Hid (OL.getD k [] = OL[k]) := hid0 (by rw [List.getD_eq_getElem?_getD, List.getElem?_eq_getElem hlt]; rfl)
      have HI1 : Hid (∀ V, Below w.heap.size w V → IA V a1 OL[k]) := hid0 (fun V hV => by
        obtain ⟨b', off', e', hb', a1', c1', d1', i1'⟩ := (HW.out _ hV).ou.at' k hlt
        obtain ⟨b2, off2, e2, hb2, a2, c2, d2, i2⟩ := (HW.out w (Below.refl _ _)).ou.at' k hlt
        cases e'
        cases e2
        have q1 := (hV.cell (p := ⟨b, off + k, none⟩) hb2).trans d2
        have q2 := (HS.out.bel.cell (p := ⟨b, off + k, none⟩) hb2).trans d2
        rw [q1] at d1'
        rw [q2] at d1
        simp only [Option.some.injEq, Value.slice.injEq] at d1 d1'
        rw [← d1.1, d1'.1]
        exact i1')
      have HS1 := hid0 HS.out.cut
      clear i1 HS
      generalize OL[k] = r at *
      go_wp2
      go_loopw [4, 24] (fun v i wr => ∃ (j : Nat) (tx : List UInt8), j ≤ r.length ∧ i = .int .i64 (j : Int) ∧ Hid (tx = encL (natO (r.take j))) ∧ Hid (GrS w wr GB MB v tx (seqO OL k))) (fun _ i _ => r.length - (intOf i).toNat)
      case atStart => exact ⟨0, [], Nat.zero_le _, rfl, hid0 rfl, HS1⟩
      case round =>
        obtain ⟨j, tx2, hj, rfl, HT, HS2⟩ := hrel
        obtain ⟨av2, cv2, hv2⟩ := HS2.out.form
        have hlen : tx2.length ≤ 22000000 := by
          rw [HT.out]
          have := encL_len (natO (r.take j)) (fun x hx => by
            unfold natO at hx
            obtain ⟨z, hz, rfl⟩ := List.mem_map.1 hx
            have := HRz.out z (List.mem_of_mem_take hz)
            omega)
          have h2 : (natO (r.take j)).length ≤ r.length := by simp [natO]; omega
          omega
        by_cases hjl : j < r.length
        · have hjI : (j : Int) < (r.length : Int) := by omega
          have hj0 : (0 : Int) ≤ (j : Int) := by omega
          obtain ⟨b2, off2, hab2, _, d2⟩ := (HI1.out _ HS2.out.bel).at' j hjl
          subst hab2
          have hz := HRz.out _ (List.getElem_mem hjl)
          have HT2 : Hid (tx2 ++ encN (r[j]).toNat = encL (natO (r.take (j + 1)))) := hid0 (by
            rw [HT.out, List.take_succ_eq_append_getElem hjl]
            unfold natO
            rw [List.map_append, List.map_singleton, encL_snoc])
          generalize r[j] = z at *
          obtain ⟨zn, rfl⟩ : ∃ zn : Nat, z = (zn : Int) := ⟨z.toNat, by omega⟩
          rw [Int.toNat_natCast] at HT2
          have HAn := hid0 (addNumber_any w.heap.size zn u4 tx2 wr HS2.out.own (by omega) (by omega) HS2.out.bel.size)
          have HNx : Hid (∀ v' w2, Apd wr w2 w.heap.size u4 v' (tx2 ++ encN zn) → GrS w w2 GB MB v' (tx2 ++ encN zn) (seqO OL k)) := hid0 (fun v' w2 h => HS2.out.more h)
          clear HS2 HT hz
          subst hv2
          go_wp2_with (go_at_call 66; go_loud ((refine HAn.out.mono ?_; rintro e w2 ⟨v', rfl, ha2⟩; have HS3 := hid0 (HNx.out v' w2 ha2); clear ha2)))
          go_roundw
          case rel => exact ⟨j + 1, _, by omega, by go_num, HT2, HS3⟩
          case measure => simp [intOf]; omega
        · obtain rfl : j = r.length := by omega
          have hjI : ¬ (r.length : Int) < (r.length : Int) := by omega
          have HT3 : Hid (tx2 = encL (natO (OL.getD k []))) := hid0 (by rw [HT.out, List.take_length, HOk.out])
          obtain ⟨vl, _, ks, ps, Ls, g1, g2, g3⟩ := HGl.out _ _ _ _ HS2.out
          have hsl := seqO_len OL k
          have HAd := hid0 (gadd_any w.heap.size w.heap.size GB MB vl u4 ks ps Ls tx2 k wr g1 HS2.out.own g2.nd (by omega) (by omega) (fun l hl => by have := g2.small (n := k) (fun x hx => (seqO_mem hx).1) l hl; omega))
          have HNx : Hid (∀ w2, AddR wr w2 w.heap.size GB MB ks Ls tx2 k → GrS w w2 GB MB u4 tx2 (seqO OL (k + 1))) := hid0 (fun w2 h => by
            rw [seqO_succ, ← HT3.out]
            exact HS2.out.add g2 g3 (fun x hx => by have := (seqO_mem hx).1; omega) h)
          clear g1 g2 g3 HS2 HT hsl
          subst hv2
          go_wp2_with (go_at_call 67; go_loud ((refine HAd.out.mono ?_; rintro e w2 ⟨rfl, ha2⟩; have HS3 := hid0 (HNx.out w2 ha2); clear ha2)))
          go_roundw
          case rel => exact ⟨k + 1, _, by omega, by go_num, HS3⟩
          case measure => simp [intOf]; omega
    · obtain rfl : k = OL.length := by omega
      have hkI : ¬ (OL.length : Int) < (OL.length : Int) := by omega
      obtain ⟨vl, hvl, ks, ps, Ls, g1, g2, g3⟩ := HGl.out _ _ _ _ HS.out
      obtain ⟨a, c, hva, hgl⟩ := g1.gapl
      subst hva
      have HFin := hid0 (And.intro hgl (And.intro g2 (And.intro (show Ls.length ≤ OL.length by have h1 := g2.len; rw [seqO_len] at g3; omega) HS.out.bel)))
      clear hgl g1 g2 g3 HS
      go_wp2
      go_ret
      exact ⟨_, _, _, _, rfl, HFin.out⟩
end Go.Proofs.YtjemjccgfgijiaaDoor
namespace Go.Proofs.YtjemjccgfgijiaaDoor
def risesN (l : List Nat) : Prop := l.Pairwise (· < ·)
/-- Two lists that rise and have the same members are one. -/
theorem rise_one : ∀ (a b : List Nat), risesN a → risesN b → (∀ x, x ∈ a ↔ x ∈ b) → a = b
  | [], [], _, _, _ => rfl
  | [], y :: b, _, _, h => absurd ((h y).2 (.head _)) (by simp)
  | x :: a, [], _, _, h => absurd ((h x).1 (.head _)) (by simp)
  | x :: a, y :: b, ha, hb, h => by
    have ha' := List.pairwise_cons.1 ha
    have hb' := List.pairwise_cons.1 hb
    have exy : x = y := by
      have h1 := (h x).1 (.head _)
      have h2 := (h y).2 (.head _)
      rcases List.mem_cons.1 h1 with e | h1
      · exact e
      · rcases List.mem_cons.1 h2 with e | h2
        · exact e.symm
        · have := hb'.1 x h1
          have := ha'.1 y h2
          omega
    subst exy
    rw [rise_one a b ha'.2 hb'.2 (fun z => ?_)]
    constructor
    · intro hz
      have := ha'.1 z hz
      rcases List.mem_cons.1 ((h z).1 (.tail _ hz)) with e | h1
      · omega
      · exact h1
    · intro hz
      have := hb'.1 z hz
      rcases List.mem_cons.1 ((h z).2 (.tail _ hz)) with e | h1
      · omega
      · exact h1
theorem rise_at {l : List Nat} (h : risesN l) {i j : Nat} (hij : i < j) (hj : j < l.length) : l[i]'(by omega) < l[j] := List.pairwise_iff_getElem.1 h i j (by omega) hj hij
/-- The numbers of a row of cells. -/
def celL (m : Nat) (F cl : Nat → Nat) (l : List Nat) : List Nat := l.flatMap fun c => [c % m, cl (F c)]
theorem celL_snoc (m : Nat) (F cl : Nat → Nat) (l : List Nat) (c : Nat) : celL m F cl (l ++ [c]) = celL m F cl l ++ [c % m, cl (F c)] := by
  unfold celL
  rw [List.flatMap_append]
  simp
theorem celL_len (m : Nat) (F cl : Nat → Nat) (l : List Nat) : (celL m F cl l).length = l.length * 2 := by
  induction l with
  | nil => rfl
  | cons x l ih => unfold celL at *; rw [List.flatMap_cons, List.length_append, ih, List.length_cons]; simp; omega
theorem celL_lt {m : Nat} {F cl : Nat → Nat} {l : List Nat} {B : Nat} (hm : 0 < m) (hB : m ≤ B) (h : ∀ c ∈ l, cl (F c) < B) : ∀ x ∈ celL m F cl l, x < B := by
  intro x hx
  unfold celL at hx
  obtain ⟨c, hc, hx⟩ := List.mem_flatMap.1 hx
  rcases List.mem_cons.1 hx with rfl | hx
  · have := Nat.mod_lt c hm; omega
  · rw [List.mem_singleton.1 hx]; exact h c hc
/-- The text of a state: its class, and its cells. -/
def txtS (m : Nat) (F cl : Nat → Nat) (CE : List Nat) (s : Nat) : List UInt8 := encL (cl s :: celL m F cl (CE.filter fun c => decide (c / m = s)))
theorem filter_mid {CE : List Nat} {m s i k : Nat} (hik : i ≤ k) (hk : k ≤ CE.length) (h1 : ∀ j (hj : j < CE.length), j < i → CE[j] / m ≠ s) (h2 : ∀ j (hj : j < CE.length), i ≤ j → j < k → CE[j] / m = s) (h3 : ∀ j (hj : j < CE.length), k ≤ j → CE[j] / m ≠ s) : (CE.filter fun c => decide (c / m = s)) = (CE.drop i).take (k - i) := by
  have e : CE = CE.take i ++ ((CE.drop i).take (k - i) ++ CE.drop k) := by
    have e1 : CE.drop i = (CE.drop i).take (k - i) ++ (CE.drop i).drop (k - i) := (List.take_append_drop _ _).symm
    rw [List.drop_drop, show i + (k - i) = k by omega] at e1
    rw [← e1, List.take_append_drop]
  have f1 : (CE.take i).filter (fun c => decide (c / m = s)) = [] := by
    rw [List.filter_eq_nil_iff]
    intro c hc
    obtain ⟨j, hj, rfl⟩ := List.getElem_of_mem hc
    rw [List.length_take] at hj
    rw [List.getElem_take]
    simpa using h1 j (by omega) (by omega)
  have f2 : ((CE.drop i).take (k - i)).filter (fun c => decide (c / m = s)) = (CE.drop i).take (k - i) := by
    rw [List.filter_eq_self]
    intro c hc
    obtain ⟨j, hj, rfl⟩ := List.getElem_of_mem hc
    rw [List.length_take, List.length_drop] at hj
    rw [List.getElem_take, List.getElem_drop]
    simpa using h2 (i + j) (by omega) (by omega) (by omega)
  have f3 : (CE.drop k).filter (fun c => decide (c / m = s)) = [] := by
    rw [List.filter_eq_nil_iff]
    intro c hc
    obtain ⟨j, hj, rfl⟩ := List.getElem_of_mem hc
    rw [List.length_drop] at hj
    rw [List.getElem_drop]
    simpa using h3 (k + j) (by omega) (by omega)
  conv => lhs; rw [e]
  rw [List.filter_append, List.filter_append, f1, f2, f3, List.nil_append, List.append_nil]
/-- The groups' row so far: the states of the first cells. -/
structure SqI (m : Nat) (F cl : Nat → Nat) (CE : List Nat) (i : Nat) (seq : List (List UInt8 × Nat)) : Prop where
  mem : ∀ k s, (k, s) ∈ seq ↔ (∃ j, ∃ hj : j < CE.length, j < i ∧ CE[j] / m = s) ∧ k = txtS m F cl CE s
  len : seq.length ≤ i
theorem sqI_nil (m : Nat) (F cl : Nat → Nat) (CE : List Nat) : SqI m F cl CE 0 [] := ⟨fun k s => by simp, Nat.le_refl _⟩
/-- At the beginning of a state's cells. -/
def NewS (m : Nat) (CE : List Nat) (i : Nat) : Prop := ∀ j (hj : j < CE.length) (hi : i < CE.length), j < i → CE[j] / m < CE[i] / m
theorem SqI.next {m : Nat} {F cl : Nat → Nat} {CE : List Nat} {i k : Nat} {seq : List (List UInt8 × Nat)} (h : SqI m F cl CE i seq) (hr : risesN CE) (hi : i < CE.length) (hik : i < k) (hk : k ≤ CE.length) (hb : NewS m CE i) (h2 : ∀ j (hj : j < CE.length), i ≤ j → j < k → CE[j] / m = CE[i] / m) (h3 : ∀ hj : k < CE.length, CE[k] / m ≠ CE[i] / m) :
    txtS m F cl CE (CE[i] / m) = encL (cl (CE[i] / m) :: celL m F cl ((CE.drop i).take (k - i))) ∧ SqI m F cl CE k (seq ++ [(txtS m F cl CE (CE[i] / m), CE[i] / m)]) ∧ NewS m CE k ∧ ∀ x ∈ seq, x.2 ≠ CE[i] / m := by
  have h4 : ∀ j (hj : j < CE.length), k ≤ j → CE[i] / m < CE[j] / m := fun j hj hkj => by
    have hk' : k < CE.length := by omega
    have e1 := h3 hk'
    have e2 : CE[i] / m ≤ CE[k] / m := Nat.div_le_div_right (Nat.le_of_lt (rise_at hr hik hk'))
    have e3 : CE[k] / m ≤ CE[j] / m := by
      rcases Nat.eq_or_lt_of_le hkj with e | e
      · subst e; exact Nat.le_refl _
      · exact Nat.div_le_div_right (Nat.le_of_lt (rise_at hr e hj))
    omega
  have hf := filter_mid (m := m) (s := CE[i] / m) (Nat.le_of_lt hik) hk (fun j hj hji => by have := hb j hj hi hji; omega) h2 (fun j hj hkj => by have := h4 j hj hkj; omega)
  refine ⟨by unfold txtS; rw [hf], ⟨fun key s => ?_, ?_⟩, fun j hj hk' hjk => ?_, fun x hx e => ?_⟩
  · rw [List.mem_append, List.mem_singleton, h.mem]
    constructor
    · rintro (⟨⟨j, hj, h5, h6⟩, h7⟩ | e)
      · exact ⟨⟨j, hj, by omega, h6⟩, h7⟩
      · injection e with e1 e2
        subst e2
        exact ⟨⟨i, hi, hik, rfl⟩, e1⟩
    · rintro ⟨⟨j, hj, h5, h6⟩, h7⟩
      by_cases e : j < i
      · exact .inl ⟨⟨j, hj, e, h6⟩, h7⟩
      · have := h2 j hj (by omega) h5
        rw [h6] at this
        subst this
        exact .inr (by rw [h7])
  · rw [List.length_append, List.length_singleton]
    have := h.len
    omega
  · by_cases e : j < i
    · have := hb j hj hi e
      have := h4 k hk' (Nat.le_refl _)
      omega
    · rw [h2 j hj (by omega) hjk]
      exact h4 k hk' (Nat.le_refl _)
  · obtain ⟨⟨j, hj, h5, h6⟩, _⟩ := (h.mem x.1 x.2).1 hx
    have := hb j hj hi h5
    omega
theorem flat_congr {α β : Type} (f g : α → List β) : ∀ (l : List α), (∀ x ∈ l, f x = g x) → l.flatMap f = l.flatMap g
  | [], _ => rfl
  | x :: l, h => by rw [List.flatMap_cons, List.flatMap_cons, h x (.head _), flat_congr f g l (fun y hy => h y (.tail _ hy))]
/-- What cells say of a state is what its successors say. -/
theorem txt_key {m n : Nat} {F cl : Nat → Nat} {q CE : List Nat} (hm : 0 < m) (hr : risesN CE) (hC : ∀ c, c ∈ CE ↔ (c < n * m ∧ F c ∈ q)) {s : Nat} (hs : s < n) : txtS m F cl CE s = encL (keyL m F cl q s) ∧ ((∃ c ∈ CE, c / m = s) ↔ prs m F cl q s ≠ []) := by
  have hcell : ∀ c, c < m → s * m + c < n * m := fun c hc => by
    have := Nat.mul_le_mul_right m (show s + 1 ≤ n by omega)
    rw [Nat.add_mul] at this
    omega
  have he : (CE.filter fun c => decide (c / m = s)) = ((List.range m).filter fun c => decide (F (s * m + c) ∈ q)).map (fun c => s * m + c) := by
    apply rise_one
    · exact List.Pairwise.filter _ hr
    · unfold risesN
      rw [List.pairwise_map]
      refine List.Pairwise.imp (fun {a b} h => ?_) (List.Pairwise.filter _ List.pairwise_lt_range)
      omega
    · intro c
      rw [List.mem_filter, List.mem_map, hC, decide_eq_true_eq]
      constructor
      · rintro ⟨⟨h1, h2⟩, h3⟩
        have h4 := Nat.div_add_mod c m
        have h5 := Nat.mod_lt c hm
        have h6 : s * m + c % m = c := by rw [← h3, Nat.mul_comm]; exact h4
        exact ⟨c % m, List.mem_filter.2 ⟨List.mem_range.2 h5, by rw [h6]; exact decide_eq_true h2⟩, h6⟩
      · rintro ⟨d, hd, rfl⟩
        rw [List.mem_filter, List.mem_range, decide_eq_true_eq] at hd
        exact ⟨⟨hcell d hd.1, hd.2⟩, by rw [Nat.mul_comm, Nat.mul_add_div hm, Nat.div_eq_of_lt hd.1, Nat.add_zero]⟩
  have h2 : celL m F cl (CE.filter fun c => decide (c / m = s)) = (prs m F cl q s).flatMap fun p => [p.1, p.2] := by
    rw [he]
    unfold celL prs
    rw [List.flatMap_map, List.flatMap_map]
    apply flat_congr
    intro c hc
    have hc' := List.mem_range.1 (List.mem_filter.1 hc).1
    rw [Nat.mul_comm s m, Nat.mul_add_mod, Nat.mod_eq_of_lt hc']
  refine ⟨by unfold txtS keyL; rw [h2], ?_⟩
  constructor
  · rintro ⟨c, hc, hcs⟩
    have h3 : c ∈ CE.filter fun c => decide (c / m = s) := List.mem_filter.2 ⟨hc, decide_eq_true hcs⟩
    rw [he] at h3
    obtain ⟨d, hd, _⟩ := List.mem_map.1 h3
    unfold prs
    intro h4
    rw [List.map_eq_nil_iff] at h4
    rw [h4] at hd
    cases hd
  · intro hne
    obtain ⟨⟨c, v⟩, hx⟩ := List.exists_mem_of_ne_nil _ hne
    obtain ⟨h3, h4, _⟩ := prs_mem.1 hx
    exact ⟨s * m + c, (hC _).2 ⟨hcell c h3, h4⟩, by rw [Nat.mul_comm, Nat.mul_add_div hm, Nat.div_eq_of_lt h3, Nat.add_zero]⟩
end Go.Proofs.YtjemjccgfgijiaaDoor
namespace Go.Proofs
open Go.Shelf
def Tryd.lays189_ren : Go.Shelf.Ren := ⟨fun | 189 => 55 | 125 => 69 | 257 => 68 | 128 => 82 | 129 => 83 | 294 => 73 | 295 => 74 | 296 => 75 | 297 => 76 | 298 => 77 | 299 => 78 | 216 => 79 | 300 => 80 | 301 => 81 | 328 => 84 | 329 => 85 | 330 => 86 | 331 => 87 | 332 => 88 | 215 => 89 | 343 => 90 | n => n, fun | 28 => 25 | 3 => 3 | 46 => 110 | 0 => 0 | 51 => 122 | 53 => 124 | 4 => 4 | 183 => 116 | 182 => 115 | 131 => 64 | 5 => 5 | 9 => 9 | 218 => 125 | 222 => 129 | 228 => 132 | 229 => 133 | n => n, fun | n => n⟩
theorem Tryd.lays189 : Go.Proofs.Lays.n189 Tryd.prog Tryd.lays189_ren := {
  mixed := by kernel_rfl
  f125 := Tryd.func69.trans (congrArg some (by kernel_rfl))
  f128 := Tryd.func82.trans (congrArg some (by kernel_rfl))
  f129 := Tryd.func83.trans (congrArg some (by kernel_rfl))
  f189 := Tryd.func55.trans (congrArg some (by kernel_rfl))
  f215 := Tryd.func89.trans (congrArg some (by kernel_rfl))
  f216 := Tryd.func79.trans (congrArg some (by kernel_rfl))
  f257 := Tryd.func68.trans (congrArg some (by kernel_rfl))
  f294 := Tryd.func73.trans (congrArg some (by kernel_rfl))
  f295 := Tryd.func74.trans (congrArg some (by kernel_rfl))
  f296 := Tryd.func75.trans (congrArg some (by kernel_rfl))
  f297 := Tryd.func76.trans (congrArg some (by kernel_rfl))
  f298 := Tryd.func77.trans (congrArg some (by kernel_rfl))
  f299 := Tryd.func78.trans (congrArg some (by kernel_rfl))
  f300 := Tryd.func80.trans (congrArg some (by kernel_rfl))
  f301 := Tryd.func81.trans (congrArg some (by kernel_rfl))
  f328 := Tryd.func84.trans (congrArg some (by kernel_rfl))
  f329 := Tryd.func85.trans (congrArg some (by kernel_rfl))
  f330 := Tryd.func86.trans (congrArg some (by kernel_rfl))
  f331 := Tryd.func87.trans (congrArg some (by kernel_rfl))
  f332 := Tryd.func88.trans (congrArg some (by kernel_rfl))
  f343 := Tryd.func90.trans (congrArg some (by kernel_rfl))
  t0 := Tryd.underlying0
  a0 := Tryd.isAgg0
  z0 := Tryd.sizeOf0
  v0 := Tryd.zeroValue0
  t3 := Tryd.underlying3
  a3 := Tryd.isAgg3
  z3 := Tryd.sizeOf3
  v3 := Tryd.zeroValue3
  t4 := Tryd.underlying4
  a4 := Tryd.isAgg4
  z4 := Tryd.sizeOf4
  v4 := Tryd.zeroValue4
  t5 := Tryd.underlying5
  a5 := Tryd.isAgg5
  z5 := Tryd.sizeOf5
  v5 := Tryd.zeroValue5
  t9 := Tryd.underlying9
  a9 := Tryd.isAgg9
  z9 := Tryd.sizeOf9
  v9 := Tryd.zeroValue9
  t28 := Tryd.underlying25
  a28 := Tryd.isAgg25
  z28 := Tryd.sizeOf25
  v28 := Tryd.zeroValue25
  t46 := Tryd.underlying110
  a46 := Tryd.isAgg110
  z46 := Tryd.sizeOf110
  v46 := Tryd.zeroValue110
  t51 := Tryd.underlying122
  a51 := Tryd.isAgg122
  z51 := Tryd.sizeOf122
  v51 := Tryd.zeroValue122
  t53 := Tryd.underlying124
  a53 := Tryd.isAgg124
  z53 := Tryd.sizeOf124
  v53 := Tryd.zeroValue124
  t131 := Tryd.underlying64
  a131 := Tryd.isAgg64
  z131 := Tryd.sizeOf64
  v131 := Tryd.zeroValue64
  t182 := Tryd.underlying115
  a182 := Tryd.isAgg115
  z182 := Tryd.sizeOf115
  v182 := Tryd.zeroValue115
  t183 := Tryd.underlying116
  a183 := Tryd.isAgg116
  z183 := Tryd.sizeOf116
  v183 := Tryd.zeroValue116
  t218 := Tryd.underlying125
  a218 := Tryd.isAgg125
  z218 := Tryd.sizeOf125
  v218 := Tryd.zeroValue125
  t222 := Tryd.underlying129
  a222 := Tryd.isAgg129
  z222 := Tryd.sizeOf129
  v222 := Tryd.zeroValue129
  t228 := Tryd.underlying132
  a228 := Tryd.isAgg132
  z228 := Tryd.sizeOf132
  v228 := Tryd.zeroValue132
  t229 := Tryd.underlying133
  a229 := Tryd.isAgg133
  z229 := Tryd.sizeOf133
  v229 := Tryd.zeroValue133 }
def Tryd.lays220_ren : Go.Shelf.Ren := ⟨fun | 20 => 57 | n => n, fun | 22 => 25 | 3 => 3 | 4 => 4 | 0 => 0 | n => n, fun | n => n⟩
theorem Tryd.lays220 : Go.Proofs.Lays2.n20 Tryd.prog Tryd.lays220_ren := {
  mixed := by kernel_rfl
  f20 := Tryd.func57.trans (congrArg some (by kernel_rfl))
  t0 := Tryd.underlying0
  a0 := Tryd.isAgg0
  z0 := Tryd.sizeOf0
  v0 := Tryd.zeroValue0
  t3 := Tryd.underlying3
  a3 := Tryd.isAgg3
  z3 := Tryd.sizeOf3
  v3 := Tryd.zeroValue3
  t4 := Tryd.underlying4
  a4 := Tryd.isAgg4
  z4 := Tryd.sizeOf4
  v4 := Tryd.zeroValue4
  t22 := Tryd.underlying25
  a22 := Tryd.isAgg25
  z22 := Tryd.sizeOf25
  v22 := Tryd.zeroValue25
  i3 := by kernel_rfl }
def Tryd.lays215_ren : Go.Shelf.Ren := ⟨fun | 15 => 48 | n => n, fun | 22 => 25 | 3 => 3 | 4 => 4 | n => n, fun | n => n⟩
theorem Tryd.lays215 : Go.Proofs.Lays2.n15 Tryd.prog Tryd.lays215_ren := {
  mixed := by kernel_rfl
  f15 := Tryd.func48.trans (congrArg some (by kernel_rfl))
  t3 := Tryd.underlying3
  a3 := Tryd.isAgg3
  z3 := Tryd.sizeOf3
  v3 := Tryd.zeroValue3
  t4 := Tryd.underlying4
  a4 := Tryd.isAgg4
  z4 := Tryd.sizeOf4
  v4 := Tryd.zeroValue4
  t22 := Tryd.underlying25
  a22 := Tryd.isAgg25
  z22 := Tryd.sizeOf25
  v22 := Tryd.zeroValue25
  i3 := by kernel_rfl }
end Go.Proofs
