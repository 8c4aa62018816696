/-
  MbLW, MbMM, MbMW, MbNW, MbOW, PlYW, PlTfW, MbPM, MbPW, MbQM, MbQW, MbRW, MiStM, MbSW.
-/
import Derived.Test.YtleeedjpccooaaaDoorNdf
import Derived.BigRegion
import Derived.Test.YtleeedjpccooaaaDoorNdb
import Derived.Shelf.Spec.TrailingZeros
import Derived.Lib.TrailingZeros
import Derived.Test.YtleeedjpccooaaaDoorNda
import Derived.Laws.BitsAllLaws
import Derived.Laws.CopyOwn
import Derived.Lib.SliceRun
import Derived.Maps.AppendAt
namespace Go.Proofs.YtleeedjpccooaaaDoor
open Go.RowKit Go.Shelf
/-- Places put into a set. -/
def setL (R : Nat → Bool) (base : Nat) (L : List Nat) : Nat → Bool := fun q => L.any (fun p => decide (q = base + p)) || R q
theorem setL_nil (R : Nat → Bool) (base : Nat) : setL R base [] = R := by funext q; simp [setL]
theorem setL_take (R : Nat → Bool) (base : Nat) {L : List Nat} {k : Nat} (hk : k < L.length) : setL R base (L.take (k + 1)) = fun q => decide (q = base + L[k]) || setL R base (L.take k) q := by
  funext q
  unfold setL
  rw [List.take_add_one, List.getElem?_eq_getElem hk, Option.toList_some, List.any_append]
  simp only [List.any_cons, List.any_nil, Bool.or_false]
  rw [Bool.or_right_comm, Bool.or_comm]
theorem OwnU.add {W : World} {base g n c p : Nat} {h : Nat → Bool} (ho : OwnU W base (.slice (some ⟨g, 0, none⟩) n c) n h) (ha : p / 64 < n) : OwnU (W.setCell ⟨g, p / 64, none⟩ (.int .u64 (wordOf (fun q => decide (q = p) || h q) (p / 64) : Int))) base (.slice (some ⟨g, 0, none⟩) n c) n (fun q => decide (q = p) || h q) := by
  have h1 := (World.ownsRow.stored ho (p / 64) (.int .u64 (wordOf (fun q => decide (q = p) || h q) (p / 64) : Int))).1
  have e : (wdV h n).set (p / 64) (.int .u64 (wordOf (fun q => decide (q = p) || h q) (p / 64) : Int)) = wdV (fun q => decide (q = p) || h q) n := by
    apply List.ext_getElem?
    intro i
    by_cases hi : i < n
    · by_cases hia : p / 64 = i
      · subst hia
        rw [List.getElem?_set_self (by rw [wdV_len]; exact ha), wdV_at _ ha]
      · rw [List.getElem?_set_ne hia, wdV_at _ hi, wdV_at _ hi, word_other h p i (fun e => hia e.symm)]
    · rw [List.getElem?_eq_none (by rw [List.length_set, wdV_len]; omega), List.getElem?_eq_none (by rw [wdV_len]; omega)]
  unfold OwnU
  rw [← e]
  exact h1
theorem OwnU.kept {W W' : World} {base : Nat} {v : Value} {n : Nat} {f : Nat → Bool} (h : OwnU W base v n f) (hh : W'.heap = W.heap) : OwnU W' base v n f := own_blk h (fun k _ => by rw [hh])
set_option maxRecDepth 10000 in
set_option maxHeartbeats 1600000 in
theorem addAllM_any (G N c lo base : Nat) (h : Nat → Bool) (L : List Nat) (aL : Option Addr) (cL : Nat) (w : World) (hN : N ≤ 1000000) (ho : OwnU w lo (.slice (some ⟨G, 0, none⟩) N c) N h) (hL : ∀ V : World, Only w V (fun k => k = G) → IA V aL (nI L)) (hb : ∀ p ∈ L, base + p < 64 * N) (hl : L.length ≤ 100000000) (_hbs : base ≤ 100000000) :
    Calls Tryd.prog 69 #[.slice (some ⟨G, 0, none⟩) N c, .int .i64 (base : Int), .slice aL L.length cL] w fun e w' => (∃ v, e = .returned v) ∧ OwnU w' lo (.slice (some ⟨G, 0, none⟩) N c) N (setL h base L) ∧ Only w w' (fun k => k = G) := by
  have HO := hid0 ho
  have HL := hid0 hL
  have HB := hid0 hb
  have hlI : (L.length : Int) ≤ 100000000 := by omega
  clear ho hL hb
  go_enter Tryd.func69, Tryd.ntmps69
  go_wp2
  go_loopw [10] (fun i wr => ∃ k : Nat, k ≤ L.length ∧ i = .int .i64 (k : Int) ∧ Hid (OwnU wr lo (.slice (some ⟨G, 0, none⟩) N c) N (setL h base (L.take k))) ∧ Hid (Only w wr (fun k => k = G))) (fun i _ => L.length - (intOf i).toNat)
  case atStart => exact ⟨0, Nat.zero_le _, rfl, hid0 (by rw [List.take_zero, setL_nil]; exact HO.out), hid0 (Only.refl _ _)⟩
  case round =>
    obtain ⟨k, hk, rfl, HK, HW⟩ := hrel
    by_cases hkl : k < L.length
    · obtain ⟨bl, ol, el, _, dl⟩ := (HL.out wr HW.out).at' k (by rw [nI_len]; exact hkl)
      subst el
      obtain ⟨p, hp⟩ : ∃ p : Nat, p = base + L[k] := ⟨_, rfl⟩
      obtain ⟨x, hx⟩ : ∃ x : Nat, x = L[k] := ⟨_, rfl⟩
      replace dl : wr.cell? ⟨bl, ol + k, none⟩ = some (.int .i64 (x : Int)) := by rw [dl, hx]; simp [nI]
      have hpb : p < 64 * N := by rw [hp]; exact HB.out _ (List.getElem_mem hkl)
      have hpx : (base : Int) + (x : Int) = (p : Int) := by rw [hp, hx]; omega
      obtain ⟨R, hR⟩ : ∃ R : Nat → Bool, R = setL h base (L.take k) := ⟨_, rfl⟩
      have HSt : Hid (setL h base (L.take (k + 1)) = fun q => decide (q = p) || R q) := hid0 (by rw [setL_take h base hkl, ← hp, ← hR])
      have hU : OwnU wr lo (.slice (some ⟨G, 0, none⟩) N c) N R := by rw [hR]; exact HK.out
      obtain ⟨d, hd⟩ : ∃ d : Nat, d = p / 64 := ⟨_, rfl⟩
      obtain ⟨g', c', e', _, _, k0, k1⟩ := hU.at' (i := p / 64) (by omega)
      cases e'
      obtain ⟨b, hb⟩ : ∃ b : Nat, b = 2 ^ (p % 64) := ⟨_, rfl⟩
      have hp0 : (0 : Int) ≤ (p : Int) := by omega
      have hdI : (p : Int) / 64 = (d : Int) := by omega
      have hdI1 : (d : Int) < (N : Int) := by omega
      have hdI0 : (0 : Int) ≤ (d : Int) := by omega
      have hmI : (0 : Int) ≤ (p : Int) % 64 := by omega
      have hmI2 : (p : Int) % 64 < 64 := by omega
      have hbl : b < 18446744073709551616 := by
        rw [hb]; exact Nat.lt_of_lt_of_le (Nat.pow_lt_pow_right (by omega) (Nat.mod_lt p (by omega) : p % 64 < 64)) (by decide)
      have hwb : IntKind.u64.wrap (2 ^ (p % 64)) = (b : Int) := by
        rw [hb, IntKind.wrap_u64]
        have e : (2 : Int) ^ (p % 64) = ((2 ^ (p % 64) : Nat) : Int) := by simp
        rw [e]
        rw [hb] at hbl
        omega
      obtain ⟨a, ha⟩ : ∃ a : Nat, a = wordOf R (p / 64) := ⟨_, rfl⟩
      rw [← ha] at k0
      obtain ⟨aI, haI⟩ : ∃ aI : Int, (a : Int) = aI := ⟨_, rfl⟩
      obtain ⟨bI, hbI⟩ : ∃ bI : Int, (b : Int) = bI := ⟨_, rfl⟩
      have hal : a < 18446744073709551616 := by rw [ha]; exact wordOf_lt _ _
      obtain ⟨eI, heI⟩ : ∃ eI : Int, ((a ||| b : Nat) : Int) = eI := ⟨_, rfl⟩
      have hor : bits .or .u64 aI bI = eI := by rw [← haI, ← hbI, ← heI]; exact bits_or_u64_nat a b hal hbl
      have hs2 := word_or R p
      rw [← ha, ← hb] at hs2
      have hBS := hU.add (p := p) (by omega)
      rw [← hs2, heI, ← hd] at hBS
      have HBS : Hid (∀ n, OwnU ((wr.drewN n).setCell ⟨G, d, none⟩ (.int .u64 eI)) lo (.slice (some ⟨G, 0, none⟩) N c) N (setL h base (L.take (k + 1)))) := hid0 (fun n => by rw [HSt.out]; exact hBS.kept rfl)
      have HOn : Hid (∀ n, Only w ((wr.drewN n).setCell ⟨G, d, none⟩ (.int .u64 eI)) (fun k => k = G)) := hid0 (fun n => HW.out.trans ((Only.drewN wr n _).trans (Only.setCell _ G _ _) (fun i hi => .inl hi)) (fun i hi => .inl hi))
      rw [haI, ← hd] at k0
      rw [← hd] at k1
      rw [hbI] at hwb
      have hkI : (k : Int) < (L.length : Int) := by omega
      have hkI0 : (0 : Int) ≤ (k : Int) := by omega
      have hwp : IntKind.i64.wrap (p : Int) = (p : Int) := by rw [IntKind.wrap_i64]; omega
      clear hb hd hp ha hbl haI hbI heI hal hs2 hBS hU hR hx HK HSt hpb
      go_wp2
      go_region
      all_goals
        go_wp2
        go_roundw
        case rel => exact ⟨k + 1, by omega, by go_num, hid0 (HBS.out 1), hid0 (HOn.out 1)⟩
        case measure => simp [intOf]; omega
    · obtain rfl : k = L.length := by omega
      have HF : Hid (OwnU wr lo (.slice (some ⟨G, 0, none⟩) N c) N (setL h base L)) := hid0 (by have h := HK.out; rw [List.take_length] at h; exact h)
      go_wp2
      go_end0
      exact ⟨⟨_, rfl⟩, HF.out, HW.out⟩
end Go.Proofs.YtleeedjpccooaaaDoor
namespace Go.Proofs.YtleeedjpccooaaaDoor
open Go.RowKit Go.Shelf
abbrev Lob := List (Value × List UInt8)
structure BagT (w : World) (base : Nat) (v : Value) (ps : Lob) : Prop where
  outer : w.ownsRow base 99 1 v ps.length (ps.map (·.1))
  row : ∀ x ∈ ps, OwnB w base x.1 x.2
  apart : ps.Pairwise fun x y => ∀ g, x.1.ownBlock = some g → y.1.ownBlock ≠ some g
  away : ∀ x ∈ ps, ∀ g, v.ownBlock = some g → x.1.ownBlock ≠ some g
theorem BagT.nil (w : World) (base : Nat) : BagT w base (.slice none 0 0) [] := ⟨World.ownsRow_nil _ _ _ _, by simp, List.Pairwise.nil, by simp⟩
theorem BagT.later {w w' : World} {base : Nat} {v : Value} {ps : Lob} (h : BagT w base v ps) (hb : Below w.heap.size w w') : BagT w' base v ps :=
  ⟨row_later h.outer hb, fun x hx => own_blk (h.row x hx) (fun k hk => hb.block k (World.ownsRow.lt (h.row x hx) k hk).2), h.apart, h.away⟩
/-- All lists empty. -/
theorem BagT.made {w : World} {base : Nat} {v : Value} {n : Nat} (h : w.ownsRow base 99 1 v n (List.replicate n (.slice none 0 0))) : BagT w base v (List.replicate n (.slice none 0 0, [])) := by
  refine ⟨?_, ?_, ?_, ?_⟩
  · rw [List.length_replicate, List.map_replicate]; exact h
  · intro x hx
    rw [List.eq_of_mem_replicate hx]
    exact World.ownsRow_nil _ _ _ _
  · rw [List.pairwise_replicate]
    right
    intro g hg
    cases hg
  · intro x hx g _ hxg
    rw [List.eq_of_mem_replicate hx] at hxg
    cases hxg
/-- One list is another one. -/
theorem BagT.set {W w1 : World} {base g n c : Nat} {ps : Lob} (h : BagT W base (.slice (some ⟨g, 0, none⟩) n c) ps) (hn : n = ps.length) (y : Nat) (hy : y < ps.length) {v' : Value} {l' : List UInt8}
    (hk : ∀ k, k < W.heap.size → (ps[y]).1.ownBlock ≠ some k → w1.heap[k]? = W.heap[k]?) (hv : OwnB w1 base v' l') (hnew : ∀ q, v'.ownBlock = some q → (ps[y]).1.ownBlock = some q ∨ W.heap.size ≤ q) :
    BagT (w1.setCell ⟨g, y, none⟩ v') base (.slice (some ⟨g, 0, none⟩) n c) (ps.set y (v', l')) := by
  subst hn
  have hmem : ps[y] ∈ ps := List.getElem_mem hy
  have hgl := World.ownsRow.lt h.outer g rfl
  have hvg : ∀ q, v'.ownBlock = some q → q ≠ g := fun q hq e => by
    subst e
    rcases hnew q hq with h1 | h1
    · exact h.away _ hmem q rfl h1
    · omega
  have hyg : (ps[y]).1.ownBlock ≠ some g := h.away _ hmem g rfl
  have hout1 : w1.ownsRow base 99 1 (.slice (some ⟨g, 0, none⟩) ps.length c) ps.length (ps.map (·.1)) := own_blk h.outer (fun k hk' => by
    have e : g = k := by simpa [Value.ownBlock] using hk'
    subst e
    exact hk g hgl.2 hyg)
  have hother : ∀ {t : TypeId} {size m : Nat} {u : Value} {xs : List Value}, w1.ownsRow base t size u m xs → (∀ q, u.ownBlock = some q → q ≠ g) → (w1.setCell ⟨g, y, none⟩ v').ownsRow base t size u m xs := by
    intro t size m u xs ho hne
    exact own_blk ho (fun q hq => Below.heap_setCell w1 _ _ q (hne q hq))
  refine ⟨?_, ?_, ?_, ?_⟩
  · have h1 := (World.ownsRow.stored hout1 y v').1
    rw [List.length_set, List.map_set]
    exact h1
  · intro x hx
    obtain ⟨j, hj, rfl⟩ := List.getElem_of_mem hx
    have hj2 : j < ps.length := by simpa using hj
    rw [List.getElem_set]
    split
    · exact hother hv hvg
    · rename_i hne
      have hr := h.row _ (List.getElem_mem hj2)
      refine hother (own_blk hr (fun q hq => hk q (World.ownsRow.lt hr q hq).2 ?_)) (fun q hq e => ?_)
      · intro hyq
        have := List.pairwise_iff_getElem.1 h.apart
        rcases Nat.lt_or_gt_of_ne hne with hlt | hlt
        · exact this y j hy hj2 hlt q hyq hq
        · exact this j y hj2 hy hlt q hq hyq
      · subst e
        exact h.away _ (List.getElem_mem hj2) q rfl hq
  · rw [List.pairwise_iff_getElem]
    intro i j hi hj hij q hiq hjq
    have hi2 : i < ps.length := by simpa using hi
    have hj2 : j < ps.length := by simpa using hj
    have ap := List.pairwise_iff_getElem.1 h.apart
    rw [List.getElem_set] at hiq hjq
    split at hiq
    · rename_i e
      subst e
      rw [if_neg (by omega)] at hjq
      rcases hnew q hiq with h1 | h1
      · exact ap y j hi2 hj2 hij q h1 hjq
      · have := (World.ownsRow.lt (h.row _ (List.getElem_mem hj2)) q hjq).2; omega
    · split at hjq
      · rename_i e
        subst e
        rcases hnew q hjq with h1 | h1
        · exact ap i y hi2 hj2 hij q hiq h1
        · have := (World.ownsRow.lt (h.row _ (List.getElem_mem hi2)) q hiq).2; omega
      · exact ap i j hi2 hj2 hij q hiq hjq
  · intro x hx q hq hxq
    have e : g = q := by simpa [Value.ownBlock] using hq
    subst e
    obtain ⟨j, hj, rfl⟩ := List.getElem_of_mem hx
    have hj2 : j < ps.length := by simpa using hj
    rw [List.getElem_set] at hxq
    split at hxq
    · exact hvg g hxq rfl
    · exact h.away _ (List.getElem_mem hj2) g rfl hxq
theorem BagT.cells {w : World} {base g n c : Nat} {ps : Lob} (h : BagT w base (.slice (some ⟨g, 0, none⟩) n c) ps) (hn : n = ps.length) (j : Nat) (hj : j < ps.length) : w.cell? ⟨g, j, none⟩ = some (ps[j]).1 ∧ w.frozen? ⟨g, j, none⟩ = false := by
  subst hn
  refine ⟨?_, World.ownsRow.frozenAt h.outer j⟩
  rw [World.ownsRow.cellAt h.outer j (by omega)]
  simp [hj]

/-- The letters of words of places: of each word the symbols, each once, with its places. -/
structure LtOk (N sy : Nat) (LT : List (List (Nat × Nat))) (lt : Nat → Nat → Bool) : Prop where
  len : LT.length = N
  sym : ∀ r ∈ LT, ∀ x ∈ r, x.1 < sy
  once : ∀ r ∈ LT, (r.map (·.1)).Nodup
  bits : ∀ i (h : i < LT.length), ∀ x ∈ LT[i], x.2 = wordOf (lt x.1) i
  all : ∀ i (h : i < LT.length) c, c < sy → wordOf (lt c) i ≠ 0 → c ∈ (LT[i]).map (·.1)
/-- Both at once. -/
def andB (f g : Nat → Bool) : Nat → Bool := fun q => f q && g q
theorem word_and2 (f g : Nat → Bool) (i : Nat) : wordOf f i &&& wordOf g i = wordOf (andB f g) i := word_mask f g i
/-- The text of a symbol: so many words of places, and of the next one the letters ahead of the k-th. -/
def txF (S : Nat → Bool) (lt : Nat → Nat → Bool) (old : Nat → List UInt8) (i : Nat) (r : List (Nat × Nat)) (k c : Nat) : List UInt8 :=
  old c ++ encW (andB S (lt c)) i ++ if c ∈ (r.take k).map (·.1) then wdT (andB S (lt c)) i else []
theorem txF_start (S : Nat → Bool) (lt : Nat → Nat → Bool) (old : Nat → List UInt8) (i : Nat) (r : List (Nat × Nat)) (c : Nat) : txF S lt old i r 0 c = old c ++ encW (andB S (lt c)) i := by
  unfold txF; simp
theorem txF_other {S : Nat → Bool} {lt : Nat → Nat → Bool} {old : Nat → List UInt8} {i : Nat} {r : List (Nat × Nat)} {k c : Nat} (hk : k < r.length) (hc : c ≠ (r[k]).1) : txF S lt old i r (k + 1) c = txF S lt old i r k c := by
  unfold txF
  rw [List.take_add_one, List.getElem?_eq_getElem hk, Option.toList_some, List.map_append]
  simp only [List.map_cons, List.map_nil, List.mem_append, List.mem_singleton, hc, or_false]
theorem txF_same {S : Nat → Bool} {lt : Nat → Nat → Bool} {old : Nat → List UInt8} {i : Nat} {r : List (Nat × Nat)} {k : Nat} (hk : k < r.length) (hn : (r.map (·.1)).Nodup) : txF S lt old i r (k + 1) (r[k]).1 = txF S lt old i r k (r[k]).1 ++ wdT (andB S (lt (r[k]).1)) i := by
  have h1 : (r[k]).1 ∉ (r.take k).map (·.1) := fun hm => by
    obtain ⟨x, hx, he⟩ := List.mem_map.1 hm
    obtain ⟨j, hj, rfl⟩ := List.getElem_of_mem hx
    rw [List.getElem_take] at he
    have hjk : j < k := by rw [List.length_take] at hj; omega
    have hp := List.pairwise_iff_getElem.1 hn j k (by rw [List.length_map]; omega) (by rw [List.length_map]; omega) hjk
    simp only [List.getElem_map] at hp
    exact hp he
  have h2 : (r[k]).1 ∈ (r.take (k + 1)).map (·.1) := by
    rw [List.take_add_one, List.getElem?_eq_getElem hk, Option.toList_some, List.map_append]
    simp
  unfold txF
  rw [if_pos h2, if_neg h1, List.append_nil]
theorem txF_end {N sy : Nat} {LT : List (List (Nat × Nat))} {lt : Nat → Nat → Bool} (h : LtOk N sy LT lt) (S : Nat → Bool) (old : Nat → List UInt8) {i c : Nat} (hi : i < LT.length) (hc : c < sy) : txF S lt old i LT[i] (LT[i]).length c = old c ++ encW (andB S (lt c)) (i + 1) := by
  unfold txF
  rw [List.take_length, encW, ← List.append_assoc]
  congr 1
  split
  · rfl
  · rename_i hn
    have h0 : wordOf (lt c) i = 0 := by
      cases Nat.eq_zero_or_pos (wordOf (lt c) i) with
      | inl h => exact h
      | inr h1 => exact absurd (h.all i hi c hc (by omega)) hn
    unfold wdT
    rw [← word_and2, h0, Nat.and_zero, if_pos rfl]
theorem txF_skip (S : Nat → Bool) (lt : Nat → Nat → Bool) {i : Nat} (h : wordOf S i = 0) (c : Nat) : encW (andB S (lt c)) (i + 1) = encW (andB S (lt c)) i := by
  rw [encW]
  unfold wdT
  rw [← word_and2, h, Nat.zero_and, if_pos rfl, List.append_nil]
theorem txF_len (S : Nat → Bool) (lt : Nat → Nat → Bool) (old : Nat → List UInt8) (i : Nat) (r : List (Nat × Nat)) (k c : Nat) : (txF S lt old i r k c).length ≤ (old c).length + 12 * (i + 1) := by
  unfold txF
  have h1 := encW_len (andB S (lt c)) i
  have h2 := wdT_len (andB S (lt c)) i
  rw [List.length_append, List.length_append]
  split
  · omega
  · simp; omega
end Go.Proofs.YtleeedjpccooaaaDoor
namespace Go.Proofs.YtleeedjpccooaaaDoor
open Go.RowKit Go.Shelf
/-- The blocks that texts lie in. -/
def PtS (GT : Nat) (ps0 : Lob) : Nat → Prop := fun i => i = GT ∨ ∃ x ∈ ps0, x.1.ownBlock = some i
/-- The texts, while they grow. -/
structure PtI (w : World) (GT cT sy lo : Nat) (ps0 : Lob) (tx : Nat → List UInt8) (W : World) : Prop where
  bag : ∃ ps : Lob, ps.length = sy ∧ BagT W lo (.slice (some ⟨GT, 0, none⟩) sy cT) ps ∧ (∀ c (h : c < ps.length), (ps[c]).2 = tx c) ∧ ∀ x ∈ ps, ∀ g, x.1.ownBlock = some g → PtS GT ps0 g ∨ w.heap.size ≤ g
  only : Only w W (PtS GT ps0)
theorem PtI.new {w A B : World} {GT cT sy lo : Nat} {ps0 : Lob} {tx : Nat → List UInt8} (h : PtI w GT cT sy lo ps0 tx A) (hb : Below A.heap.size A B) : PtI w GT cT sy lo ps0 tx B := by
  obtain ⟨ps, h1, h2, h3, h4⟩ := h.bag
  exact ⟨⟨ps, h1, h2.later hb, h3, h4⟩, h.only.trans (Only.ofNew hb (PtS GT ps0)) (fun i hi => .inl hi)⟩
theorem PtI.congr {w A : World} {GT cT sy lo : Nat} {ps0 : Lob} {tx tx' : Nat → List UInt8} (h : PtI w GT cT sy lo ps0 tx A) (he : ∀ c, c < sy → tx c = tx' c) : PtI w GT cT sy lo ps0 tx' A := by
  obtain ⟨ps, h1, h2, h3, h4⟩ := h.bag
  exact ⟨⟨ps, h1, h2, fun c hc => (h3 c hc).trans (he c (by omega)), h4⟩, h.only⟩
/-- One text, and where it lies; when it has grown. -/
theorem PtI.at' {w A : World} {GT cT sy lo : Nat} {ps0 : Lob} {tx : Nat → List UInt8} (h : PtI w GT cT sy lo ps0 tx A) {y : Nat} (hy : y < sy) :
    ∃ a c, A.cell? ⟨GT, y, none⟩ = some (.slice a (tx y).length c) ∧ A.frozen? ⟨GT, y, none⟩ = false ∧ OwnB A lo (.slice a (tx y).length c) (tx y) ∧ (∀ k, (Value.slice a (tx y).length c).ownBlock = some k → k < A.heap.size ∧ (PtS GT ps0 k ∨ w.heap.size ≤ k)) ∧
      ∀ (w1 : World) (v' : Value) (l' : List UInt8), Apd A w1 lo (.slice a (tx y).length c) v' l' → PtI w GT cT sy lo ps0 (fun c => if c = y then l' else tx c) (w1.setCell ⟨GT, y, none⟩ v') := by
  obtain ⟨ps, h1, h2, h3, h4⟩ := h.bag
  have hy2 : y < ps.length := by omega
  have hmem : ps[y] ∈ ps := List.getElem_mem hy2
  obtain ⟨k0, k1⟩ := h2.cells h1.symm y hy2
  have hr := h2.row _ hmem
  have e2 := h3 y hy2
  obtain ⟨a, c, ev⟩ : ∃ a c, (ps[y]).1 = .slice a (tx y).length c := by
    rcases hr.2 with ⟨e, hn⟩ | ⟨g, cap, cur, e, _⟩
    · exact ⟨none, 0, by rw [e, ← e2, hn]⟩
    · exact ⟨_, cap, by rw [e, ← e2]⟩
  rw [ev] at k0
  rw [ev, e2] at hr
  refine ⟨a, c, k0, k1, hr, fun k hk => ⟨(World.ownsRow.lt hr k hk).2, h4 _ hmem k (by rw [ev]; exact hk)⟩, fun w1 v' l' hap => ?_⟩
  have hs := h2.set h1.symm y hy2 (w1 := w1) (v' := v') (l' := l') (fun k hk hne => hap.frm.block k hk (by rw [ev] at hne; exact hne)) hap.own (fun q hq => by rw [ev]; exact hap.at' q hq)
  refine ⟨⟨ps.set y (v', l'), by rw [List.length_set]; exact h1, hs, fun j hj => ?_, fun x hx g hg => ?_⟩, ?_⟩
  · rw [List.getElem_set]
    split
    · rename_i e; rw [if_pos e.symm]
    · rename_i e; rw [if_neg (fun q => e q.symm)]; exact h3 j (by simpa using hj)
  · obtain ⟨j, hj, rfl⟩ := List.getElem_of_mem hx
    rw [List.getElem_set] at hg
    split at hg
    · rcases hap.at' g hg with q | q
      · exact h4 _ hmem g (by rw [ev]; exact q)
      · right; have := h.only.size; omega
    · exact h4 _ (List.getElem_mem (by simpa using hj)) g hg
  · refine (h.only.trans hap.frm (fun i hi => h4 _ hmem i (by rw [ev]; exact hi))).trans (Only.setCell w1 GT y v') (fun i hi => .inl (.inl hi))
set_option maxRecDepth 10000 in
set_option maxHeartbeats 2000000 in
theorem part_any (B J GT cT GS cS N sy lo lo2 : Nat) (vL vM : Value) (LT : List (List (Nat × Nat))) (lt : Nat → Nat → Bool) (S : Nat → Bool) (old : Nat → List UInt8) (ps0 : Lob) (w : World) (hN : N ≤ 1000000) (hN0 : 0 < N) (hlo : lo ≤ w.heap.size) (hok : LtOk N sy LT lt) (hl1 : LT.flatten.length ≤ 1000000000) (_hsy : sy ≤ 100000) (hold : ∀ c, c < sy → (old c).length ≤ 1000)
    (hrd : ∀ V : World, Only w V (PtS GT ps0) → V.cell? ⟨B, 0, none⟩ = some (.pointer (some ⟨J, 0, none⟩)) ∧ V.cell? ⟨B, 3, none⟩ = some (.slice (some ⟨GT, 0, none⟩) sy cT) ∧ V.cell? ⟨J, 4, none⟩ = some vL ∧ V.cell? ⟨J, 5, none⟩ = some vM ∧ RwW V vL vM LT ∧ OwnU V lo2 (.slice (some ⟨GS, 0, none⟩) N cS) N S)
    (hp : PtI w GT cT sy lo ps0 old w) :
    Calls Tryd.prog 48 #[.pointer (some ⟨B, 0, none⟩), .slice (some ⟨GS, 0, none⟩) N cS] w fun e w' => (∃ v, e = .returned v) ∧ PtI w GT cT sy lo ps0 (fun c => old c ++ encW (andB S (lt c)) N) w' := by
  have HOk := hid0 hok
  have HOl := hid0 hold
  have HRd := hid0 hrd
  have HP := hid0 hp
  have HLo := hid0 hlo
  have HGT : Hid (GT < w.heap.size) := hid0 (by obtain ⟨ps, h1, h2, _⟩ := HP.out.bag; exact (World.ownsRow.lt h2.outer GT rfl).2)
  have hNI : (N : Int) ≤ 1000000 := by omega
  clear hok hold hrd hp hlo
  go_enter Tryd.func48, Tryd.ntmps48
  go_wp2
  go_loopw [11] (fun i wr => ∃ k : Nat, k ≤ N ∧ i = .int .i64 (k : Int) ∧ Hid (PtI w GT cT sy lo ps0 (fun c => old c ++ encW (andB S (lt c)) k) wr)) (fun i _ => N - (intOf i).toNat)
  case atStart => exact ⟨0, Nat.zero_le _, rfl, hid0 (HP.out.congr (fun c _ => by simp [encW]))⟩
  case round =>
    clear HP
    obtain ⟨i, hi, rfl, HP⟩ := hrel
    by_cases hiN : i < N
    · obtain ⟨b0, _, j4, j5, hrw, hou⟩ := HRd.out wr HP.out.only
      obtain ⟨g', c', e', _, _, dS, _⟩ := hou.at' hiN
      cases e'
      have hwl := wordOf_lt S i
      have hiI : (i : Int) < (N : Int) := by omega
      have hiI0 : (0 : Int) ≤ (i : Int) := by omega
      by_cases h0 : wordOf S i = 0
      · have HN1 : Hid (PtI w GT cT sy lo ps0 (fun c => old c ++ encW (andB S (lt c)) (i + 1)) wr) := hid0 (HP.out.congr (fun c _ => by rw [txF_skip S lt h0 c]))
        rw [h0] at dS
        replace dS : wr.cell? ⟨GS, i, none⟩ = some (.int .u64 0) := dS
        clear hwl h0 b0 j4 j5 hrw hou
        go_wp2
        go_roundw
        case rel => exact ⟨i + 1, by omega, by go_num, HN1⟩
        case measure => simp [intOf]; omega
      · have hiL : i < LT.length := by rw [HOk.out.len]; exact hiN
        obtain ⟨r, hr⟩ : ∃ r, LT[i]? = some r := ⟨_, List.getElem?_eq_getElem hiL⟩
        have hri : LT[i] = r := (List.getElem?_eq_some_iff.1 hr).2
        have HOf := hid0 (ofL_any J 4 i LT vL vM wr j4 j5 hrw r hr hl1 (by rw [HOk.out.len]; omega))
        have HRi := hid0 (And.intro hr hri)
        have hrl : r.length ≤ 1000000000 := by
          have h2 := sum_take LT hiL
          have h3 := sum_le LT (i + 1)
          have h4 := flat_len LT
          rw [hri] at h2
          omega
        obtain ⟨s, hs⟩ : ∃ s : Nat, s = wordOf S i := ⟨_, rfl⟩
        have HSs := hid0 hs
        rw [← hs] at dS h0 hwl
        have hsI : ¬ (s : Int) = 0 := by omega
        have hsB : ((s : Int) == 0) = false := by rw [beq_eq_false_iff_ne]; omega
        have hsl : (s : Int) < 18446744073709551616 := by omega
        clear hs hr hri hrw hou h0
        go_wp2_with (go_at_call 65; go_loud ((refine HOf.out.mono ?_; rintro e V1 ⟨av, cv, rfl, hwd, hbv, _⟩; have HWv := hid0 hwd; have HBv := hid0 hbv; clear hwd hbv)))
        go_loopw [27] (fun j wr2 => ∃ k : Nat, k ≤ r.length ∧ j = .int .i64 (k : Int) ∧ Hid (PtI w GT cT sy lo ps0 (txF S lt old i r k) wr2)) (fun j _ => r.length - (intOf j).toNat)
        case atStart => exact ⟨0, Nat.zero_le _, rfl, hid0 ((HP.out.new HBv.out).congr (fun c _ => (txF_start S lt old i r c).symm))⟩
        case round =>
          obtain ⟨k, hk, rfl, HK⟩ := hrel
          clear b0 dS j4 j5
          obtain ⟨V, hV⟩ : ∃ V, V = wr := ⟨_, rfl⟩
          subst hV
          by_cases hkr : k < r.length
          · obtain ⟨_, b3, _, _, hrw, _⟩ := HRd.out V HK.out.only
            obtain ⟨b, off, eb, _, y0, y1⟩ := (HWv.out V hrw).at' k hkr
            subst eb
            have hrm : r ∈ LT := List.mem_of_getElem? HRi.out.1
            have hys := HOk.out.sym r hrm (r[k]) (List.getElem_mem hkr)
            have hxw : (r[k]).2 = wordOf (lt (r[k]).1) i := by
              have h := HOk.out.bits i hiL
              rw [HRi.out.2] at h
              exact h _ (List.getElem_mem hkr)
            have hts := txF_same (S := S) (lt := lt) (old := old) (i := i) hkr (HOk.out.once r hrm)
            have hto : ∀ c, c ≠ (r[k]).1 → txF S lt old i r (k + 1) c = txF S lt old i r k c := fun c hc => txF_other hkr hc
            rw [hxw] at y1
            generalize (r[k]).1 = ys at *
            obtain ⟨bo, hbo⟩ : ∃ bo : Nat, bo = wordOf (andB S (lt ys)) i := ⟨_, rfl⟩
            have hbl : bo < 18446744073709551616 := by rw [hbo]; exact wordOf_lt _ _
            obtain ⟨x, hx⟩ : ∃ x : Nat, x = wordOf (lt ys) i := ⟨_, rfl⟩
            have hxl : x < 18446744073709551616 := by rw [hx]; exact wordOf_lt _ _
            have hand : bits .and .u64 (s : Int) (x : Int) = (bo : Int) := by rw [bits_and_u64_nat _ _ hwl hxl, HSs.out, hx, word_and2, hbo]
            rw [← hx] at y1
            have HTs := hid0 (And.intro hts hto)
            have HBo := hid0 hbo
            obtain ⟨wA, hwA⟩ : ∃ wA, wA = V.alloc (.cells #[.int .i64 (ys : Int), .int .u64 (x : Int)] 127) := ⟨_, rfl⟩
            have hbA : Below V.heap.size V wA := by rw [hwA]; exact (Below.refl _ _).alloc (Nat.le_refl _) _
            have hrA : wA.heap[V.heap.size]? = some (.cells #[.int .i64 (ys : Int), .int .u64 (x : Int)] 127 (0, 0)) := by rw [hwA]; exact heap_alloc_new V _
            have hsA : wA.heap.size = V.heap.size + 1 := by rw [hwA]; simp
            have hPA := HK.out.new hbA
            have HPA := hid0 hPA
            have d8 : wA.cell? ⟨V.heap.size, 0, none⟩ = some (.int .i64 (ys : Int)) := by rw [cell_of_row _ _ _ _ _ _ hrA]; rfl
            have d9 : wA.cell? ⟨V.heap.size, 1, none⟩ = some (.int .u64 (x : Int)) := by rw [cell_of_row _ _ _ _ _ _ hrA]; rfl
            have hkI : (k : Int) < (r.length : Int) := by omega
            have hkI0 : (0 : Int) ≤ (k : Int) := by omega
            have hfold := hwA.symm
            by_cases hb0 : bo = 0
            · have HN2 : Hid (PtI w GT cT sy lo ps0 (txF S lt old i r (k + 1)) wA) := hid0 (HPA.out.congr (fun c _ => by
                by_cases hc : c = ys
                · subst hc
                  rw [HTs.out.1]
                  unfold wdT
                  rw [← HBo.out, if_pos hb0, List.append_nil]
                · rw [HTs.out.2 c hc]))
              rw [hb0] at hand
              replace hand : bits .and .u64 (s : Int) (x : Int) = 0 := hand
              clear hwA hbA hrA hPA hts hto hbo hbl hx hxl hys hxw hb0 hrw hsA b3
              go_wp2
              go_roundw
              case rel => exact ⟨k + 1, by omega, by go_num, HN2⟩
              case measure => simp [intOf]; omega
            · obtain ⟨at0, ct0, dT, fT, hoB, hlB, hput⟩ := hPA.at' hys
              have hl0 := txF_len S lt old i r k ys
              have hol := HOl.out ys hys
              obtain ⟨l, hl⟩ : ∃ l, l = txF S lt old i r k ys := ⟨_, rfl⟩
              rw [← hl] at dT hoB hlB hput hl0
              obtain ⟨n0, hn0⟩ : ∃ n0, n0 = l.length := ⟨_, rfl⟩
              rw [← hn0] at dT hoB hlB hput hl0
              obtain ⟨L1, hL1⟩ : ∃ L1, L1 = l ++ leB i 4 ++ leB bo 8 := ⟨_, rfl⟩
              have HL1 : Hid (0 < L1.length) := hid0 (by rw [hL1]; simp [leB_len])
              have HAw : Hid (Calls Tryd.prog 66 #[.slice at0 n0 ct0, .agg #[.int .i64 (i : Int), .int .u64 (bo : Int)]] wA.drew fun e w' => ∃ v', e = .returned v' ∧ Apd wA w' lo (.slice at0 n0 ct0) v' L1) := hid0 (by
                rw [hL1]
                have hd : Below wA.heap.size wA wA.drew := (Below.refl _ _).drew
                have h := addWord_any lo i bo (.slice at0 n0 ct0) l wA.drew (own_blk hoB (fun k _ => rfl)) (by omega) (by omega) hbl (by have := HLo.out; have := HK.out.only.size; have := hd.size; omega)
                exact h.mono (fun e w' ⟨v', q1, q2⟩ => ⟨v', q1, q2.since hd⟩))
              have HPut := hid0 hput
              have HoB := hid0 hoB
              have HOw : Hid (∀ k, (Value.slice at0 n0 ct0).ownBlock = some k → k < V.heap.size) := hid0 (fun k hk => by
                have h1 := (hlB k hk).1
                obtain ⟨cs, hcs⟩ := own_typ hoB hk
                have h2 : k ≠ V.heap.size := fun e => by rw [e, hrA] at hcs; cases hcs
                omega)
              have HS9 : Hid (∀ W' : World, Only wA W' (fun k => (Value.slice at0 n0 ct0).ownBlock = some k) → W'.cell? ⟨B, 3, none⟩ = some (.slice (some ⟨GT, 0, none⟩) sy cT) ∧ W'.cell? ⟨V.heap.size, 0, none⟩ = some (.int .i64 (ys : Int))) := hid0 (fun W' ho => by
                have h1 : Only w W' (PtS GT ps0) := HPA.out.only.trans ho (fun j hj => (hlB j hj).2)
                refine ⟨(HRd.out W' h1).2.1, (ho.cell (p := ⟨V.heap.size, 0, none⟩) (World.block_lt_of_cell? wA _ d8) (fun e => ?_)).trans d8⟩
                have h2 : V.heap.size < V.heap.size := HOw.out _ e
                omega)
              have hbI : ¬ (bo : Int) = 0 := by omega
              have hbB : ((bo : Int) != 0) = true := by rw [bne_iff_ne]; exact hbI
              have hysI : (ys : Int) < (sy : Int) := by omega
              have hysI0 : (0 : Int) ≤ (ys : Int) := by omega
              have b3A := (HS9.out wA (Only.refl _ _)).1
              have HSt : Hid (∀ (w1 : World) (v1 : Value), Apd wA w1 lo (.slice at0 n0 ct0) v1 L1 → (w1.setCell ⟨GT, ys, none⟩ v1).cell? ⟨B, 3, none⟩ = some (.slice (some ⟨GT, 0, none⟩) sy cT) ∧ (w1.setCell ⟨GT, ys, none⟩ v1).cell? ⟨V.heap.size, 0, none⟩ = some (.int .i64 (ys : Int))) := hid0 (fun w1 v1 hap => by
                have h1 := HS9.out w1 hap.frm
                have ho := Only.setCell w1 GT ys v1
                have h3 := HGT.out
                have h4 := HK.out.only.size
                exact ⟨(HRd.out _ (HPut.out w1 v1 _ hap).only).2.1, (ho.cell (p := ⟨V.heap.size, 0, none⟩) (World.block_lt_of_cell? w1 _ h1.2) (by show ¬ (V.heap.size = GT); omega)).trans h1.2⟩)
              have HfG : Hid (∀ (w1 : World) (v1 : Value), Apd wA w1 lo (.slice at0 n0 ct0) v1 L1 → w1.frozen? ⟨GT, ys, none⟩ = false ∧ w1.cell? ⟨GT, ys, none⟩ = some (.slice at0 n0 ct0)) := hid0 (fun w1 v1 hap => by
                obtain ⟨ps, h1, h2, _⟩ := HPA.out.bag
                obtain ⟨cs, hcs⟩ := own_typ h2.outer (show Value.ownBlock _ = some GT from rfl)
                have hne : ¬ (Value.slice at0 n0 ct0).ownBlock = some GT := fun e => by
                  obtain ⟨cs', hcs'⟩ := own_typ HoB.out e
                  rw [hcs] at hcs'
                  cases hcs'
                have hb := (hap.frm.block GT (Array.getElem?_eq_some_iff.1 hcs).1 hne)
                exact ⟨by simp [World.frozen?, hb, hcs], (hap.frm.cell (p := ⟨GT, ys, none⟩) (World.block_lt_of_cell? wA _ dT) hne).trans dT⟩)
              have HGn : Hid (∀ (w1 : World) (v1 : Value), Apd wA w1 lo (.slice at0 n0 ct0) v1 L1 → PtI w GT cT sy lo ps0 (txF S lt old i r (k + 1)) (w1.setCell ⟨GT, ys, none⟩ v1)) := hid0 (fun w1 v1 hap => (HPut.out w1 v1 _ hap).congr (fun c _ => by
                by_cases hc : c = ys
                · subst hc
                  rw [if_pos rfl, hL1, HTs.out.1, ← hl]
                  unfold wdT
                  rw [← HBo.out, if_neg hb0, List.append_assoc]
                · rw [if_neg hc, HTs.out.2 c hc]))
              clear hwA hbA hrA hPA hts hto hbo hx hxl hxw hrw b3 hput hoB hlB hl hol hL1 hl0 hn0
              go_wp2
              refine wp_region_noPanic ?_
              refine wp_region_held_drew (S := (fun W' => W'.cell? ⟨B, 3, none⟩ = some (.slice (some ⟨GT, 0, none⟩) sy cT) ∧ W'.cell? ⟨V.heap.size, 0, none⟩ = some (.int .i64 (ys : Int)))) (by kernel_rfl) ?_ (fun hHeld => ?_)
              · exact ⟨b3A, d8⟩
              refine tkV (i := 0) (d := some 37) (v := ?_) rfl (by kernel_rfl) (by kernel_rfl) (by kernel_rfl) rfl (fun _ _ _ h => h) (by rfl) ?_ (by assumption) ?_
              rotate_left
              · (intro w hSw; (try dsimp only at hSw); (try simp only [List.getElem_toArray, List.getElem_cons_zero]); go_simp; try with_reducible rfl)
              try simp only [Act.put, List.setIfInBounds_toArray, List.set_cons_zero, List.set_cons_succ]
              refine tkV (i := 1) (d := some 38) (v := ?_) rfl (by kernel_rfl) (by kernel_rfl) (by kernel_rfl) rfl (fun _ _ _ h => h) (by rfl) ?_ (by assumption) ?_
              rotate_left
              · (intro w hSw; (try dsimp only at hSw); (try simp only [List.getElem_toArray, List.getElem_cons_zero, List.getElem_cons_succ]); go_simp; try with_reducible rfl)
              try simp only [Act.put, List.setIfInBounds_toArray, List.set_cons_zero, List.set_cons_succ]
              refine tkV (i := 2) (d := some 39) (v := ?_) rfl (by kernel_rfl) (by kernel_rfl) (by kernel_rfl) rfl (fun _ _ _ h => h) (by rfl) ?_ (by assumption) ?_
              rotate_left
              · (intro w hSw; (try dsimp only at hSw); (try simp only [List.getElem_toArray, List.getElem_cons_zero, List.getElem_cons_succ]); go_simp; try with_reducible rfl)
              try simp only [Act.put, List.setIfInBounds_toArray, List.set_cons_zero, List.set_cons_succ]
              refine tkV (i := 3) (d := some 40) (v := ?_) rfl (by kernel_rfl) (by kernel_rfl) (by kernel_rfl) rfl (fun _ _ _ h => h) (by rfl) ?_ (by assumption) ?_
              rotate_left
              · (intro w hSw; (try dsimp only at hSw); (try simp only [List.getElem_toArray, List.getElem_cons_zero, List.getElem_cons_succ]); go_simp; try with_reducible rfl)
              try simp only [Act.put, List.setIfInBounds_toArray, List.set_cons_zero, List.set_cons_succ]
              refine tkV (i := 4) (d := some 41) (v := ?_) rfl (by kernel_rfl) (by kernel_rfl) (by kernel_rfl) rfl (fun _ _ _ h => h) (by rfl) ?_ (by assumption) ?_
              rotate_left
              · (intro w hSw; (try dsimp only at hSw); (try simp only [List.getElem_toArray, List.getElem_cons_zero, List.getElem_cons_succ]); go_simp; try with_reducible rfl)
              try simp only [Act.put, List.setIfInBounds_toArray, List.set_cons_zero, List.set_cons_succ]
              refine tkV (i := 5) (d := some 42) (v := ?_) rfl (by kernel_rfl) (by kernel_rfl) (by kernel_rfl) rfl (fun _ _ _ h => h) (by rfl) ?_ (by assumption) ?_
              rotate_left
              · (intro w hSw; (try dsimp only at hSw); (try simp only [List.getElem_toArray, List.getElem_cons_zero, List.getElem_cons_succ]); go_simp; try with_reducible rfl)
              try simp only [Act.put, List.setIfInBounds_toArray, List.set_cons_zero, List.set_cons_succ]
              refine tkV (i := 6) (d := some 43) (v := ?_) rfl (by kernel_rfl) (by kernel_rfl) (by kernel_rfl) rfl (fun _ _ _ h => h) (by rfl) ?_ (by assumption) ?_
              rotate_left
              · (intro w hSw; (try dsimp only at hSw); (try simp only [List.getElem_toArray, List.getElem_cons_zero, List.getElem_cons_succ]); go_simp; try with_reducible rfl)
              try simp only [Act.put, List.setIfInBounds_toArray, List.set_cons_zero, List.set_cons_succ]
              refine tkV (i := 7) (d := some 44) (v := ?_) rfl (by kernel_rfl) (by kernel_rfl) (by kernel_rfl) rfl (fun _ _ _ h => h) (by rfl) ?_ (by assumption) ?_
              rotate_left
              · (intro w hSw; (try dsimp only at hSw); (try simp only [List.getElem_toArray, List.getElem_cons_zero, List.getElem_cons_succ]); go_simp; try with_reducible rfl)
              try simp only [Act.put, List.setIfInBounds_toArray, List.set_cons_zero, List.set_cons_succ]
              refine tkV (i := 8) (d := some 45) (v := ?_) rfl (by kernel_rfl) (by kernel_rfl) (by kernel_rfl) rfl (fun _ _ _ h => h) (by rfl) ?_ (by assumption) ?_
              rotate_left
              · (intro w hSw; (try dsimp only at hSw); (try simp only [List.getElem_toArray, List.getElem_cons_zero, List.getElem_cons_succ]); go_simp; try with_reducible rfl)
              try simp only [Act.put, List.setIfInBounds_toArray, List.set_cons_zero, List.set_cons_succ]
              refine tkV (i := 9) (d := some 46) (v := ?_) rfl (by kernel_rfl) (by kernel_rfl) (by kernel_rfl) rfl (fun _ _ _ h => h) (by rfl) ?_ (by assumption) ?_
              rotate_left
              · (intro w hSw; (try dsimp only at hSw); (try simp only [List.getElem_toArray, List.getElem_cons_zero, List.getElem_cons_succ]); go_simp; try with_reducible rfl)
              try simp only [Act.put, List.setIfInBounds_toArray, List.set_cons_zero, List.set_cons_succ]
              refine tkV (i := 10) (d := some 47) (v := ?_) rfl (by kernel_rfl) (by kernel_rfl) (by kernel_rfl) rfl (fun _ _ _ h => h) (by rfl) ?_ (by assumption) ?_
              rotate_left
              · (intro w hSw; (try dsimp only at hSw); (try simp only [List.getElem_toArray, List.getElem_cons_zero, List.getElem_cons_succ]); go_simp; try with_reducible rfl)
              try simp only [Act.put, List.setIfInBounds_toArray, List.set_cons_zero, List.set_cons_succ]
              refine tkV (i := 11) (d := some 48) (v := ?_) rfl (by kernel_rfl) (by kernel_rfl) (by kernel_rfl) rfl (fun _ _ _ h => h) (by rfl) ?_ (by assumption) ?_
              rotate_left
              · (intro w hSw; (try dsimp only at hSw); (try simp only [List.getElem_toArray, List.getElem_cons_zero, List.getElem_cons_succ]); go_simp; try with_reducible rfl)
              try simp only [Act.put, List.setIfInBounds_toArray, List.set_cons_zero, List.set_cons_succ]
              refine tkV (i := 12) (d := some 49) (v := ?_) rfl (by kernel_rfl) (by kernel_rfl) (by kernel_rfl) rfl (fun _ _ _ h => h) (by rfl) ?_ (by assumption) ?_
              rotate_left
              · (intro w hSw; (try dsimp only at hSw); (try simp only [List.getElem_toArray, List.getElem_cons_zero, List.getElem_cons_succ]); go_simp; try with_reducible rfl)
              try simp only [Act.put, List.setIfInBounds_toArray, List.set_cons_zero, List.set_cons_succ]
              refine tkV (i := 14) (d := some 51) (v := ?_) rfl (by kernel_rfl) (by kernel_rfl) (by kernel_rfl) rfl (fun _ _ _ h => h) (by rfl) ?_ (by assumption) ?_
              rotate_left
              · (intro w hSw; (try dsimp only at hSw); (try simp only [List.getElem_toArray, List.getElem_cons_zero, List.getElem_cons_succ]); go_simp; try with_reducible rfl)
              try simp only [Act.put, List.setIfInBounds_toArray, List.set_cons_zero, List.set_cons_succ]
              refine tkV (i := 15) (d := some 52) (v := ?_) rfl (by kernel_rfl) (by kernel_rfl) (by kernel_rfl) rfl (fun _ _ _ h => h) (by rfl) ?_ (by assumption) ?_
              rotate_left
              · (intro w hSw; (try dsimp only at hSw); (try simp only [List.getElem_toArray, List.getElem_cons_zero, List.getElem_cons_succ]); go_simp; try with_reducible rfl)
              try simp only [Act.put, List.setIfInBounds_toArray, List.set_cons_zero, List.set_cons_succ]
              refine tkV (i := 16) (d := some 53) (v := ?_) rfl (by kernel_rfl) (by kernel_rfl) (by kernel_rfl) rfl (fun _ _ _ h => h) (by rfl) ?_ (by assumption) ?_
              rotate_left
              · (intro w hSw; (try dsimp only at hSw); (try simp only [List.getElem_toArray, List.getElem_cons_zero, List.getElem_cons_succ]); go_simp; try with_reducible rfl)
              try simp only [Act.put, List.setIfInBounds_toArray, List.set_cons_zero, List.set_cons_succ]
              refine wpAnyH_ready (rs := [13]) (by kernel_rfl) (by simp) (AllReadyH.cons rfl (fun K hK => ?_) AllReadyH.nil)
              try simp only [List.getElem_toArray, List.getElem_cons_zero, List.getElem_cons_succ]
              go_simp
              refine hK.out _ _ ?_ (fun hHeld13 => ?_)
              · exact ⟨b3A, d8⟩
              clear hK K
              (try simp only [Act.put]); (try simp only [List.setIfInBounds_toArray]); (try simp only [List.set_cons_succ]); (try simp only [List.set_cons_zero])
              refine wpAnyH_ready (rs := [17]) (by kernel_rfl) (by simp) (AllReadyH.cons rfl (fun K hK => ?_) AllReadyH.nil)
              try simp only [List.getElem_toArray, List.getElem_cons_zero, List.getElem_cons_succ]
              go_simp
              refine HAw.out.mono ?_
              rintro e w1 ⟨v1, rfl, hap⟩
              obtain ⟨g1, c1, ev1, _⟩ := own_form hap.own HL1.out
              obtain ⟨n1, hn1⟩ : ∃ n1, n1 = L1.length := ⟨_, rfl⟩
              rw [← hn1] at ev1
              subst ev1
              have HA1 := hid0 hap
              obtain ⟨fG, dG⟩ := HfG.out w1 _ hap
              clear hap hn1
              go_wp2_with fail
              refine hK.out _ _ ?_ (fun hHeld17 => ?_)
              · exact HS9.out w1 HA1.out.frm
              clear hK K
              (try simp only [Act.put]); (try simp only [List.setIfInBounds_toArray]); (try simp only [List.set_cons_succ]); (try simp only [List.set_cons_zero])
              refine tkV (i := 18) (d := some 55) (v := ?_) rfl (by kernel_rfl) (by kernel_rfl) (by kernel_rfl) rfl (fun _ _ _ h => h) (by rfl) ?_ (by assumption) ?_
              rotate_left
              · (intro w hSw; (try dsimp only at hSw); (try simp only [List.getElem_toArray, List.getElem_cons_zero, List.getElem_cons_succ]); go_simp; try with_reducible rfl)
              try simp only [Act.put, List.setIfInBounds_toArray, List.set_cons_zero, List.set_cons_succ]
              refine wpAnyH_ready (rs := [19]) (by kernel_rfl) (by simp) (AllReadyH.cons rfl (fun K hK => ?_) AllReadyH.nil)
              try simp only [List.getElem_toArray, List.getElem_cons_zero, List.getElem_cons_succ]
              go_simp
              refine hK.out _ _ ?_ (fun hHeld19 => ?_)
              · exact HSt.out w1 _ HA1.out
              clear hK K
              (try simp only [Act.put]); (try simp only [List.setIfInBounds_toArray]); (try simp only [List.set_cons_succ]); (try simp only [List.set_cons_zero])
              refine wpAnyH_done (by kernel_rfl) ?_ _
              refine NoPanic.normal ?_
              have HN4 := hid0 (HGn.out w1 _ HA1.out)
              clear d8 d9 dT fT hand b3A fG dG
              go_wp2
              go_roundw
              case rel => exact ⟨k + 1, by omega, by go_num, HN4⟩
              case measure => simp [intOf]; omega
          · obtain rfl : k = r.length := by omega
            have HN3 : Hid (PtI w GT cT sy lo ps0 (fun c => old c ++ encW (andB S (lt c)) (i + 1)) V) := hid0 (HK.out.congr (fun c hc => by
              have h := txF_end HOk.out S old hiL hc
              rw [HRi.out.2] at h
              exact h))
            go_wp2
            go_roundw
            case rel => exact ⟨i + 1, by omega, by go_num, HN3⟩
            case measure => simp [intOf]; omega
    · obtain rfl : i = N := by omega
      go_wp2
      go_end0
      exact ⟨⟨_, rfl⟩, HP.out⟩
end Go.Proofs.YtleeedjpccooaaaDoor
namespace Go.Proofs.YtleeedjpccooaaaDoor
open Go.RowKit Go.Shelf
set_option maxRecDepth 10000 in
set_option maxHeartbeats 1600000 in
theorem read_any (B GO nO cO o nE cE : Nat) (aE : Option Addr) (pl rest : List UInt8) (w : World) (h1 : w.cell? ⟨B, 1, none⟩ = some (.slice (some ⟨GO, 0, none⟩) nO cO)) (h2 : w.cell? ⟨GO, o * 2, none⟩ = some (.string ⟨pl.toArray⟩)) (h3 : w.cell? ⟨GO, o * 2 + 1, none⟩ = some (.slice aE nE cE)) (ho : o < nO) (hnO : nO ≤ 100000000) (hr : rest.length ≤ 100000000) :
    Calls Tryd.prog 73 #[.pointer (some ⟨B, 0, none⟩), .string ⟨(leB o 4 ++ rest).toArray⟩] w fun e w' => e = .returned (.tuple #[.agg #[.string ⟨pl.toArray⟩, .slice aE nE cE], .string ⟨rest.toArray⟩]) ∧ Below w.heap.size w w' := by
  obtain ⟨T, hT⟩ : ∃ T, T = leB o 4 ++ rest := ⟨_, rfl⟩
  have hTl : T.length = 4 + rest.length := by rw [hT, List.length_append, leB_len]
  obtain ⟨tB, htB⟩ : ∃ tB : ByteArray, tB = ⟨T.toArray⟩ := ⟨_, rfl⟩
  obtain ⟨m, hm⟩ : ∃ m : Nat, m = T.length := ⟨_, rfl⟩
  have hsz : tB.size = m := by rw [htB, hm]; simp [ByteArray.size]
  obtain ⟨rB, hrB⟩ : ∃ rB : ByteArray, tB.extract 4 m = rB := ⟨_, rfl⟩
  have HrB : Hid (rB = ⟨rest.toArray⟩) := hid0 (by rw [← hrB, ← hsz, htB, ba_cut T 4, hT, List.drop_left' (leB_len 4 o)])
  have HN1 : Hid (∀ V : World, Calls Tryd.prog 89 #[.string tB, .int .i64 4] V fun e w' => e = .returned (.int .u64 (o : Int)) ∧ w' = V) := hid0 (fun V => by
    have h := numberIn_any 4 T V (by omega) (by omega) (by omega)
    rw [hT, leD_take4 o _ (by omega)] at h
    rw [htB, hT]
    exact h)
  rw [← hT, ← htB]
  obtain ⟨pB, hpB⟩ : ∃ pB : ByteArray, pB = ⟨pl.toArray⟩ := ⟨_, rfl⟩
  rw [← hpB] at h2 ⊢
  obtain ⟨w0, hw0⟩ : ∃ w0, w0 = w.alloc (.cells #[.string ⟨#[]⟩, .slice none 0 0] 103) := ⟨_, rfl⟩
  have hb0 : Below w.heap.size w w0 := by rw [hw0]; exact (Below.refl _ _).alloc (Nat.le_refl _) _
  have hr0 : w0.heap[w.heap.size]? = some (.cells #[.string ⟨#[]⟩, .slice none 0 0] 103 (0, 0)) := by rw [hw0]; exact heap_alloc_new w _
  have k1 : w0.cell? ⟨B, 1, none⟩ = some (.slice (some ⟨GO, 0, none⟩) nO cO) := by rw [hb0.cell (p := ⟨B, 1, none⟩) (World.block_lt_of_cell? w _ h1)]; exact h1
  have k2 : w0.cell? ⟨GO, o * 2, none⟩ = some (.string pB) := by rw [hb0.cell (p := ⟨GO, o * 2, none⟩) (World.block_lt_of_cell? w _ h2)]; exact h2
  have k3 : w0.cell? ⟨GO, o * 2 + 1, none⟩ = some (.slice aE nE cE) := by rw [hb0.cell (p := ⟨GO, o * 2 + 1, none⟩) (World.block_lt_of_cell? w _ h3)]; exact h3
  have f0 : w0.frozen? ⟨w.heap.size, 0, none⟩ = false := by simp [World.frozen?, hr0]
  have f1 : w0.frozen? ⟨w.heap.size, 1, none⟩ = false := by simp [World.frozen?, hr0]
  have c0 : w0.cell? ⟨w.heap.size, 0, none⟩ = some (.string ⟨#[]⟩) := by rw [cell_of_row _ _ _ _ _ _ hr0]; rfl
  have c1 : w0.cell? ⟨w.heap.size, 1, none⟩ = some (.slice none 0 0) := by rw [cell_of_row _ _ _ _ _ _ hr0]; rfl
  have HFin : Hid (∀ V : World, V = ((w0.setCell ⟨w.heap.size, 0, none⟩ (.string pB)).setCell ⟨w.heap.size, 1, none⟩ (.slice aE nE cE)).drew → V.cell? ⟨w.heap.size, 0, none⟩ = some (.string pB) ∧ V.cell? ⟨w.heap.size, 1, none⟩ = some (.slice aE nE cE) ∧ Below w.heap.size w V) := hid0 (fun V hV => by
    have hq := heap_setCell_same _ _ 1 _ _ (.slice aE nE cE) (heap_setCell_same w0 _ 0 _ _ (.string pB) hr0)
    subst hV
    have q0 : ((w0.setCell ⟨w.heap.size, 0, none⟩ (.string pB)).setCell ⟨w.heap.size, 1, none⟩ (.slice aE nE cE)).cell? ⟨w.heap.size, 0, none⟩ = some (.string pB) := by rw [cell_of_row _ _ _ _ _ _ hq]; rfl
    have q1 : ((w0.setCell ⟨w.heap.size, 0, none⟩ (.string pB)).setCell ⟨w.heap.size, 1, none⟩ (.slice aE nE cE)).cell? ⟨w.heap.size, 1, none⟩ = some (.slice aE nE cE) := by rw [cell_of_row _ _ _ _ _ _ hq]; rfl
    exact ⟨q0, q1, ((hb0.setCell (p := ⟨w.heap.size, 0, none⟩) (Nat.le_refl _) _).setCell (p := ⟨w.heap.size, 1, none⟩) (Nat.le_refl _) _).drew⟩)
  have hoI : (o : Int) < (nO : Int) := by omega
  have hoI0 : (0 : Int) ≤ (o : Int) := by omega
  have hwo : IntKind.i64.wrap (o : Int) = (o : Int) := by rw [IntKind.wrap_i64]; omega
  have hm4 : 4 ≤ m := by omega
  have hm4I : (4 : Int) ≤ (m : Int) := by omega
  have hmb : m ≤ 1000000000 := by omega
  have hfold := hw0.symm
  clear hw0 hb0 hr0 h1 h2 h3 hT htB hm hTl hpB
  go_enter Tryd.func73, Tryd.ntmps73
  go_wp2
  go_region_with (go_at_call 89; refine (HN1.out _).mono ?_; rintro e w2 ⟨rfl, rfl⟩)
  all_goals
    go_wp2
    obtain ⟨V, hV⟩ : ∃ V, V = ((w0.setCell ⟨w.heap.size, 0, none⟩ (.string pB)).setCell ⟨w.heap.size, 1, none⟩ (.slice aE nE cE)).drew := ⟨_, rfl⟩
    rw [← hV]
    obtain ⟨q0, q1, hB⟩ := HFin.out V hV
    clear hV
    have HB := hid0 hB
    rw [← HrB.out]
    refine bodyPost_ret (v := .tuple #[.agg #[.string pB, .slice aE nE cE], .string rB]) (by simp [results, Tryd.results73, go_sem, q0, q1]) rfl ⟨rfl, HB.out⟩
end Go.Proofs.YtleeedjpccooaaaDoor
namespace Go.Proofs.YtleeedjpccooaaaDoor
open Go.RowKit Go.Shelf
theorem OwnI.sl {w : World} {base : Nat} {v : Value} {L : List Nat} (h : OwnI w base v (nI L)) : ∃ a c, v = .slice a L.length c ∧ IA w a (nI L) ∧ L.length ≤ c ∧ (a = none → c = 0) := by
  have h0 := h
  obtain ⟨a, c, e, hi⟩ := h.ia
  rw [nI_len] at e
  refine ⟨a, c, e, hi, ?_⟩
  rcases h0.2 with ⟨e2, hn⟩ | ⟨g, cap, cur, e2, _, _, hc, _⟩
  · rw [e] at e2
    simp only [Value.slice.injEq] at e2
    exact ⟨by omega, fun _ => e2.2.2⟩
  · rw [e] at e2
    simp only [Value.slice.injEq] at e2
    rw [nI_len] at hc
    exact ⟨by omega, fun q => by rw [e2.1] at q; cases q⟩
set_option maxRecDepth 10000 in
set_option maxHeartbeats 1600000 in
theorem endBehind_any (B J N sy lo GO nO cO o cE cA : Nat) (f la : Nat → Bool) (own ne alw : List Nat) (pl : List UInt8) (aE aO aA : Option Addr) (cW : Nat) (vF vE vL vM vZ vP vC vS : Value) (w : World) (hN : N ≤ 1000000)
    (b0 : w.cell? ⟨B, 0, none⟩ = some (.pointer (some ⟨J, 0, none⟩))) (b1 : w.cell? ⟨B, 1, none⟩ = some (.slice (some ⟨GO, 0, none⟩) nO cO)) (h2 : w.cell? ⟨GO, o * 2, none⟩ = some (.string ⟨pl.toArray⟩)) (h3 : w.cell? ⟨GO, o * 2 + 1, none⟩ = some (.slice aE ne.length cE)) (ho : o < nO) (hnO : nO ≤ 100000000)
    (hj : Jb w J sy (.slice aO own.length cW) vF vE vL vM vZ vP vC vS (.slice aA alw.length cA)) (hO : IA w aO (nI own)) (hZ : OwnU w lo vZ N la) (hla : ∀ q, la q = true → q < own.length) (hol : own.length ≤ 100000000) (htab : TabAt 11 Lib.deBruijn64tab w)
    (hne : IA w aE (nI ne) ∧ ne.length ≤ cE ∧ (aE = none → cE = 0)) (hal : IA w aA (nI alw) ∧ alw.length ≤ cA ∧ (aA = none → cA = 0)) (hl1 : ne.length ≤ 10000000) (hl2 : alw.length ≤ 10000000) :
    Calls Tryd.prog 75 #[.pointer (some ⟨B, 0, none⟩), .string ⟨(leB o 4 ++ encW f N).toArray⟩] w fun e w' => ∃ v, e = .returned v ∧ OwnI w' w.heap.size v (nI (mrg alw (mrg ne (endL (fun q => f q && la q) own (64 * N))))) ∧ Below w.heap.size w w' := by
  have HRe := hid0 (read_any B GO nO cO o ne.length cE aE pl (encW f N) w b1 h2 h3 ho hnO (by have := encW_len f N; omega))
  obtain ⟨LE, hLE⟩ : ∃ LE, LE = endL (fun q => f q && la q) own (64 * N) := ⟨_, rfl⟩
  have hLl : LE.length ≤ 64000000 := by
    rw [hLE]
    unfold endL
    have h1 := onceC_len ((plB (fun q => f q && la q) (64 * N)).map fun q => own.getD q 0) []
    have h2 := plB_len (fun q => f q && la q) (64 * N)
    rw [List.length_map] at h1
    simp only [List.length_nil] at h1
    omega
  have hMl := mrg_len ne LE
  have HEn : Hid (∀ V : World, Below w.heap.size w V → Calls Tryd.prog 49 #[.pointer (some ⟨J, 0, none⟩), .string ⟨(encW f N).toArray⟩] V fun e w' => ∃ v, e = .returned v ∧ OwnI w' V.heap.size v (nI LE) ∧ Below V.heap.size V w') := hid0 (fun V hV => by rw [hLE]; exact endAt_any J N sy lo f la own aO cW vF vE vL vM vZ vP vC vS _ V hN (hj.past hV) (hO.past hV) (hZ.past hV) hla hol (tab_past htab hV))
  have HM1 : Hid (∀ (V : World) (a : Option Addr) (c : Nat), Below w.heap.size w V → IA V a (nI LE) → LE.length ≤ c → (a = none → c = 0) → Calls Tryd.prog 54 #[.slice aE ne.length cE, .slice a LE.length c] V fun e w' => ∃ v, e = .returned v ∧ OwnI w' V.heap.size v (nI (mrg ne LE)) ∧ Below V.heap.size V w') := hid0 (fun V a c hV h1 h2 h3 => merged_any ne LE aE a cE c V (hne.1.past hV) h1 hne.2.1 h2 hne.2.2 h3 (by omega) (by omega))
  obtain ⟨ME, hME⟩ : ∃ ME, ME = mrg ne LE := ⟨_, rfl⟩
  have HM2 : Hid (∀ (V : World) (a : Option Addr) (c : Nat), Below w.heap.size w V → IA V a (nI ME) → ME.length ≤ c → (a = none → c = 0) → Calls Tryd.prog 54 #[.slice aA alw.length cA, .slice a ME.length c] V fun e w' => ∃ v, e = .returned v ∧ OwnI w' V.heap.size v (nI (mrg alw ME)) ∧ Below V.heap.size V w') := hid0 (fun V a c hV h1 h2 h3 => merged_any alw ME aA a cA c V (hal.1.past hV) h1 hal.2.1 h2 hal.2.2 h3 (by omega) (by rw [hME]; omega))
  rw [← hME] at HM1
  rw [← hLE, ← hME]
  have HC : Hid (∀ V : World, Below w.heap.size w V → V.cell? ⟨B, 0, none⟩ = some (.pointer (some ⟨J, 0, none⟩)) ∧ V.cell? ⟨J, 10, none⟩ = some (.slice aA alw.length cA)) := hid0 (fun V hV => by
    obtain ⟨_, _, _, _, _, _, _, _, _, _, c10⟩ := (hj.past hV).c
    exact ⟨(hV.cell (p := ⟨B, 0, none⟩) (World.block_lt_of_cell? w _ b0)).trans b0, c10⟩)
  generalize (⟨(leB o 4 ++ encW f N).toArray⟩ : ByteArray) = tB at *
  generalize (⟨(encW f N).toArray⟩ : ByteArray) = rB at *
  generalize (⟨pl.toArray⟩ : ByteArray) = pB at *
  clear h2 h3 hj hO hZ hla htab hne hal hLE hME b1 hLl hMl hl1 hl2 b0
  go_enter Tryd.func75, Tryd.ntmps75
  go_upto_region 2 with (go_at_call 73; go_loud ((refine HRe.out.mono ?_; rintro e w1 ⟨rfl, hb1⟩; have HB1 := hid0 hb1; clear hb1)))
  obtain ⟨w2, hw2⟩ : ∃ w2, w2 = w1.alloc (.cells #[.string pB, .slice aE ne.length cE] 103) := ⟨_, rfl⟩
  have hr2 : w2.heap[w1.heap.size]? = some (.cells #[.string pB, .slice aE ne.length cE] 103 (0, 0)) := by rw [hw2]; exact heap_alloc_new w1 _
  have HB2 : Hid (Below w.heap.size w w2) := hid0 (Below.later HB1.out (by rw [hw2]; exact (Below.refl _ _).alloc (Nat.le_refl _) _))
  have HS : Hid (∀ V : World, Below w2.heap.size w2 V → V.cell? ⟨B, 0, none⟩ = some (.pointer (some ⟨J, 0, none⟩)) ∧ V.cell? ⟨J, 10, none⟩ = some (.slice aA alw.length cA) ∧ V.cell? ⟨w1.heap.size, 1, none⟩ = some (.slice aE ne.length cE) ∧ Below w.heap.size w V) := hid0 (fun V hV => by
    have h := Below.later HB2.out hV
    have hq : V.heap[w1.heap.size]? = _ := (hV.block _ (Array.getElem?_eq_some_iff.1 hr2).1).trans hr2
    exact ⟨(HC.out V h).1, (HC.out V h).2, by rw [cell_of_row _ _ _ _ _ _ hq]; rfl, h⟩)
  have HX : Hid (∀ V : World, Below w2.heap.size w2 V → V.cell? ⟨B, 0, none⟩ = some (.pointer (some ⟨J, 0, none⟩)) ∧ V.cell? ⟨J, 10, none⟩ = some (.slice aA alw.length cA) ∧ V.cell? ⟨w1.heap.size, 1, none⟩ = some (.slice aE ne.length cE) ∧ Below w2.heap.size w2 V) := hid0 (fun V hV => ⟨(HS.out V hV).1, (HS.out V hV).2.1, (HS.out V hV).2.2.1, hV⟩)
  have HT : Hid (∀ V : World, Below w2.heap.size w2 V → Calls Tryd.prog 49 #[.pointer (some ⟨J, 0, none⟩), .string rB] V fun e w' => ∃ a c, e = .returned (.slice a LE.length c) ∧ Hid (IA w' a (nI LE) ∧ LE.length ≤ c ∧ (a = none → c = 0)) ∧ Below w2.heap.size w2 w') := hid0 (fun V hV => (HEn.out V (Below.later HB2.out hV)).mono (fun e w' ⟨v, he, ho, hb⟩ => by obtain ⟨a, c, e1, h1, h2, h3⟩ := ho.sl; exact ⟨a, c, by rw [he, e1], hid0 ⟨h1, h2, h3⟩, Below.later hV hb⟩))
  have HU : Hid (∀ (V : World) (a : Option Addr) (c : Nat), Below w2.heap.size w2 V → Hid (IA V a (nI LE) ∧ LE.length ≤ c ∧ (a = none → c = 0)) → Calls Tryd.prog 54 #[.slice aE ne.length cE, .slice a LE.length c] V fun e w' => ∃ a c, e = .returned (.slice a ME.length c) ∧ Hid (IA w' a (nI ME) ∧ ME.length ≤ c ∧ (a = none → c = 0)) ∧ Below w2.heap.size w2 w') := hid0 (fun V a c hV hh => (HM1.out V a c (Below.later HB2.out hV) hh.out.1 hh.out.2.1 hh.out.2.2).mono (fun e w' ⟨v, he, ho, hb⟩ => by obtain ⟨a, c, e1, h1, h2, h3⟩ := ho.sl; exact ⟨a, c, by rw [he, e1], hid0 ⟨h1, h2, h3⟩, Below.later hV hb⟩))
  have HV : Hid (∀ (V : World) (a : Option Addr) (c : Nat), Below w2.heap.size w2 V → Hid (IA V a (nI ME) ∧ ME.length ≤ c ∧ (a = none → c = 0)) → Calls Tryd.prog 54 #[.slice aA alw.length cA, .slice a ME.length c] V fun e w' => ∃ v, e = .returned v ∧ Hid (OwnI w' V.heap.size v (nI (mrg alw ME)) ∧ Below w2.heap.size w2 V) ∧ Below w2.heap.size w2 w') := hid0 (fun V a c hV hh => (HM2.out V a c (Below.later HB2.out hV) hh.out.1 hh.out.2.1 hh.out.2.2).mono (fun e w' ⟨v, he, ho, hb⟩ => ⟨v, he, hid0 ⟨ho, hV⟩, Below.later hV hb⟩))
  obtain ⟨s0, s1, s2, s3⟩ := HX.out w2 (Below.refl _ _)
  have HLow : Hid (w.heap.size ≤ w2.heap.size) := hid0 HB2.out.size
  have q2 := hw2.symm
  clear hw2 hr2 HEn HM1 HM2 HC HS HRe
  rw [q2]
  have M1 : Hid True := trivial
  go_region_held3 (fun V => V.cell? ⟨B, 0, none⟩ = some (.pointer (some ⟨J, 0, none⟩)) ∧ V.cell? ⟨J, 10, none⟩ = some (.slice aA alw.length cA) ∧ V.cell? ⟨w1.heap.size, 1, none⟩ = some (.slice aE ne.length cE) ∧ Below w2.heap.size w2 V) (first | exact HX.out _ (by go_grown) | (go_split_ands; exact HX.out _ (by go_grown)) | (go_split_ands; exact HX.out _ (by assumption)))
    (first
      | (go_at_call 49; go_split_ands; refine (HT.out _ (by go_grown)).mono ?_; rintro e w3 ⟨a3, c3, rfl, H3, hx3⟩)
      | (go_at_call 54; clear M1; go_split_ands; refine (HU.out _ a3 c3 (by go_grown) H3).mono ?_; rintro e w4 ⟨a4, c4, rfl, H4, hx4⟩)
      | (go_at_call 54; go_split_ands; refine (HV.out _ a4 c4 (by go_grown) H4).mono ?_; rintro e w5 ⟨v5, rfl, H5, hx5⟩))
  go_split_ands
  have HX5 := hid0 hx5
  go_wp2
  go_ret
  exact ⟨v5, rfl, H5.out.1.lower (by have := H5.out.2.size; have := HLow.out; omega), Below.later HB2.out HX5.out⟩
end Go.Proofs.YtleeedjpccooaaaDoor
namespace Go.Proofs.YtleeedjpccooaaaDoor
open Go.RowKit Go.Shelf
theorem Only.afterBelow {w w1 w2 : World} {S : Nat → Prop} {B : Nat} (h : Only w1 w2 S) (hb : Below B w w1) (hB : B ≤ w1.heap.size) (hs : ∀ i, S i → B ≤ i) : Below B w w2 :=
  ⟨h.os.trans hb.os, h.tape.trans hb.tape, h.output.trans hb.output, Nat.le_trans hb.size h.size, fun k hk => (h.block k (by omega) (fun s => by have := hs k s; omega)).trans (hb.block k hk)⟩
def RowR (n : Nat) (L : List Int) (a : Option Addr) (w : World) (e : Ending) (w' : World) : Prop :=
  ∃ x v, e = .returned v ∧ RowIs w' ((n + 511) / 512) L x v ∧ (x = a.map (·.block) ∨ ∃ b, x = some b ∧ w.heap.size ≤ b ∧ b < w'.heap.size) ∧ Below w.heap.size w w'
set_option maxRecDepth 10000 in
set_option maxHeartbeats 1600000 in
theorem rowOf_any (n : Nat) (L : List Int) (a : Option Addr) (c : Nat) (w : World) (hn : n ≤ 100000000) (hl : L.length ≤ 100000000000000) (hall : L.all (oneOf n) = true) (ha : IA w a L) :
    Calls Tryd.prog 78 #[.slice a L.length c, .int .i64 (n : Int)] w (RowR n L a w) := by
  obtain ⟨w0, hw0⟩ : ∃ w0, w0 = w.alloc (.cells #[.slice none 0 0, .slice none 0 0] 142) := ⟨_, rfl⟩
  have hb0 : Below w.heap.size w w0 := by rw [hw0]; exact (Below.refl _ _).alloc (Nat.le_refl _) _
  have hr0 : w0.heap[w.heap.size]? = some (.cells #[.slice none 0 0, .slice none 0 0] 142 (0, 0)) := by rw [hw0]; exact heap_alloc_new w _
  have hs0 : w0.heap.size = w.heap.size + 1 := by rw [hw0]; simp
  have hfold := hw0.symm
  have hn0 : (0 : Int) ≤ (n : Int) := by omega
  have hB2 : ∀ (w1 : World) u v, Below w.heap.size w w1 → Below w.heap.size w ((w1.setCell ⟨w.heap.size, 0, none⟩ u).setCell ⟨w.heap.size, 1, none⟩ v) := fun w1 u v h => (h.setCell (p := ⟨w.heap.size, 0, none⟩) (Nat.le_refl _) u).setCell (p := ⟨w.heap.size, 1, none⟩) (Nat.le_refl _) v
  have hC2 : ∀ (w1 : World), w1.heap[w.heap.size]? = some (.cells #[.slice none 0 0, .slice none 0 0] 142 (0, 0)) → (w1.cell? ⟨w.heap.size, 0, none⟩ = some (.slice none 0 0) ∧ w1.cell? ⟨w.heap.size, 1, none⟩ = some (.slice none 0 0) ∧ w1.frozen? ⟨w.heap.size, 0, none⟩ = false ∧ w1.frozen? ⟨w.heap.size, 1, none⟩ = false) ∧ ∀ u v, ((w1.setCell ⟨w.heap.size, 0, none⟩ u).setCell ⟨w.heap.size, 1, none⟩ v).cell? ⟨w.heap.size, 0, none⟩ = some u ∧ ((w1.setCell ⟨w.heap.size, 0, none⟩ u).setCell ⟨w.heap.size, 1, none⟩ v).cell? ⟨w.heap.size, 1, none⟩ = some v := fun w1 h1 => by
    refine ⟨⟨by rw [cell_of_row _ _ _ _ _ _ h1]; rfl, by rw [cell_of_row _ _ _ _ _ _ h1]; rfl, by simp [World.frozen?, h1], by simp [World.frozen?, h1]⟩, fun u v => ?_⟩
    have h2 := heap_setCell_same w1 w.heap.size 0 _ _ u h1
    have h3 := heap_setCell_same _ w.heap.size 1 _ _ v h2
    exact ⟨by rw [cell_of_row _ _ _ _ _ _ h3]; rfl, by rw [cell_of_row _ _ _ _ _ _ h3]; rfl⟩
  by_cases hsh : L.length ≤ n / 64
  · have hI : (L.length : Int) ≤ (n : Int) / 64 := by omega
    obtain ⟨⟨k0, k1, f0, f1⟩, hk⟩ := hC2 w0 hr0
    obtain ⟨j0, j1⟩ := hk (.slice a L.length c) (.slice none 0 0)
    have HE : Hid (RowR n L a w (.returned (.agg #[.slice a L.length c, .slice none 0 0])) ((w0.setCell ⟨w.heap.size, 0, none⟩ (.slice a L.length c)).setCell ⟨w.heap.size, 1, none⟩ (.slice none 0 0))) := hid0 (by
      exact ⟨_, _, rfl, .short a c (ha.past (hB2 w0 _ _ hb0)), .inl rfl, hB2 w0 _ _ hb0⟩)
    clear hB2 hC2 hb0 hr0 hk ha hall hw0
    go_enter Tryd.func78, Tryd.ntmps78
    go_wp2
    exact bodyPost_ret (v := .agg #[.slice a L.length c, .slice none 0 0]) (by simp [results, Tryd.results78, go_sem, j0, j1]) rfl HE.out
  · have hI : ¬ (L.length : Int) ≤ (n : Int) / 64 := by omega
    have hag : ∀ p, a = some p → p.block < w.heap.size := by
      obtain ⟨b, off, rfl, h1, _⟩ := ha.at' 0 (by omega)
      intro p hp; cases hp; exact h1
    obtain ⟨m, hm⟩ : ∃ m : Nat, m = (n + 511) / 512 := ⟨_, rfl⟩
    have HRm := hid0 (roomFor_any n w0 hn)
    rw [← hm] at HRm
    have HA : Hid (∀ (w1 : World) g, w0.heap.size ≤ g → BS w1 g m (fun _ => false) → Below w0.heap.size w0 w1 → ((w1.alloc (.cells #[.slice none 0 0] 119)).cell? ⟨w1.heap.size, 0, none⟩ = some (.slice none 0 0) ∧ (w1.alloc (.cells #[.slice none 0 0] 119)).frozen? ⟨w1.heap.size, 0, none⟩ = false) ∧ ∀ W, W = w1.alloc (.cells #[.slice (some ⟨g, 0, none⟩) m m] 119) → Calls Tryd.prog 80 #[.pointer (some ⟨w1.heap.size, 0, none⟩), .slice a L.length c] W fun e w' => e = .returned (.tuple #[]) ∧ w'.cell? ⟨w1.heap.size, 0, none⟩ = some (.slice (some ⟨g, 0, none⟩) m m) ∧ w'.heap[w.heap.size]? = some (.cells #[.slice none 0 0, .slice none 0 0] 142 (0, 0)) ∧ (∀ u v, RowR n L a w (.returned (.agg #[.slice none 0 0, .slice (some ⟨g, 0, none⟩) m m])) ((w'.setCell ⟨w.heap.size, 0, none⟩ u).setCell ⟨w.heap.size, 1, none⟩ v))) := hid0 (by
      intro w1 g hg hbs hb1
      have hr1 := heap_alloc_new w1 (.cells #[.slice none 0 0] 119)
      refine ⟨⟨by rw [cell_of_row _ _ _ _ _ _ hr1]; rfl, by simp only [World.frozen?, hr1]; rfl⟩, ?_⟩
      rintro W rfl
      have hgl := hbs.lt
      have hsz := hb1.size
      have hr2 := heap_alloc_new w1 (.cells #[.slice (some ⟨g, 0, none⟩) m m] 119)
      have hbW : Below w0.heap.size w0 (w1.alloc (.cells #[.slice (some ⟨g, 0, none⟩) m m] 119)) := hb1.alloc (by omega) _
      have hbW1 : Below w1.heap.size w1 (w1.alloc (.cells #[.slice (some ⟨g, 0, none⟩) m m] 119)) := (Below.refl _ w1).alloc (Nat.le_refl _) _
      have hbw : Below w.heap.size w _ := Below.later hb0 hbW
      refine (addAll_any w1.heap.size 0 g m n (fun _ => false) L a c _ hl (by omega) (by omega) hall (by simp) (by omega) (by rw [cell_of_row _ _ _ _ _ _ hr2]; rfl) (ha.past hbw) (fun p hp e => by have := hag p hp; omega) (hbs.kept (hbW1.block g hgl))).mono ?_
      rintro e w' ⟨rfl, hb', ho'⟩
      have hx : w'.heap[w.heap.size]? = some (.cells #[.slice none 0 0, .slice none 0 0] 142 (0, 0)) := by
        rw [ho'.block w.heap.size (by have := hbW.size; omega) (by omega), hbW.block w.heap.size (by omega)]; exact hr0
      have hbb : Below w.heap.size w w' := ho'.afterBelow hbw (by have := hbW.size; omega) (fun i hi => by omega)
      refine ⟨rfl, ?_, hx, fun u v => ⟨some g, _, rfl, ?_, .inr ⟨g, rfl, by omega, by have := hb'.lt; simpa using this⟩, hB2 _ _ _ hbb⟩⟩
      · rw [ho'.cell (p := ⟨w1.heap.size, 0, none⟩) (by show w1.heap.size < _; simp) (by show ¬ w1.heap.size = g; omega), cell_of_row _ _ _ _ _ _ hr2]; rfl
      · rw [← hm]
        refine .long g (hb'.kept ?_)
        rw [Below.heap_setCell _ _ _ _ (by show g ≠ w.heap.size; omega), Below.heap_setCell _ _ _ _ (by show g ≠ w.heap.size; omega)])
    have HC2 := hid0 hC2
    clear hB2 hC2 hb0 hr0 ha hall hw0 hag hm
    go_enter Tryd.func78, Tryd.ntmps78
    go_wp2_with (first
      | (go_at_call 77; refine HRm.out.mono ?_; rintro e w1 ⟨g, rfl, hg, hbs, hb1⟩; obtain ⟨⟨y0, y1⟩, ha2⟩ := HA.out w1 g hg hbs hb1; have HA2 := hid0 ha2; clear hbs hb1 ha2)
      | (go_at_call 80; go_loud ((refine (HA2.out _ rfl).mono ?_; rintro e w2 ⟨rfl, z0, hx2, hend⟩; obtain ⟨⟨k0, k1, f0, f1⟩, hk⟩ := HC2.out w2 hx2; obtain ⟨j0, j1⟩ := hk (.slice none 0 0) (.slice (some ⟨g, 0, none⟩) m m); have HE := hid0 hend; clear hx2 hend hk))))
    exact bodyPost_ret (v := .agg #[.slice none 0 0, .slice (some ⟨g, 0, none⟩) m m]) (by simp [results, Tryd.results78, go_sem, j0, j1]) rfl (HE.out _ _)
end Go.Proofs.YtleeedjpccooaaaDoor
namespace Go.Proofs.YtleeedjpccooaaaDoor
open Go.RowKit Go.Shelf
/-- Two refusals. -/
structure Sen2 (w : World) (A : Nat → Addr) : Prop where
  c0 : w.cell? ⟨0, 0, none⟩ = some (.iface 157 (.pointer (some (A 0))))
  c2 : w.cell? ⟨1, 0, none⟩ = some (.iface 157 (.pointer (some (A 2))))
theorem Sen2.below {w w' : World} {A : Nat → Addr} (h : Sen2 w A) (hb : Below w.heap.size w w') : Sen2 w' A where
  c0 := (hb.cell (p := ⟨0, 0, none⟩) (World.block_lt_of_cell? w _ h.c0)).trans h.c0
  c2 := (hb.cell (p := ⟨1, 0, none⟩) (World.block_lt_of_cell? w _ h.c2)).trans h.c2
/-- What the world holds besides. -/
structure EnvT (w : World) (A : Nat → Addr) : Prop where
  sen : Sen2 w A
  tab : TabAt 11 Lib.deBruijn64tab w
  tl : 11 < w.heap.size
theorem EnvT.past {w w' : World} {A : Nat → Addr} (h : EnvT w A) (hb : Below w.heap.size w w') : EnvT w' A :=
  ⟨h.sen.below hb, fun j hj => (hb.cell (p := ⟨11, j, none⟩) h.tl).trans (h.tab j hj), Nat.lt_of_lt_of_le h.tl hb.size⟩
set_option maxRecDepth 10000 in
set_option maxHeartbeats 3200000 in
theorem check_two (A : Nat → Addr) (sy : Int) (aL aF aA aO : Option Addr) (cL cF cA cO : Nat) (Le Fo : List (List Int)) (Fi La : List Int) (em : Bool) (w : World) (hp : PosA w aL aF aA aO Le Fo Fi La) (hsy : sy ≤ 9223372036854775807) (he : Sen2 w A) :
    Calls Tryd.prog 26 #[posV aL aF aA aO cL cF cA cO Le Fo Fi La em, .int .i64 sy] w fun e w' => e = .returned (errP A (chkP Le Fo Fi La sy)) ∧ Below w.heap.size w w' := by
  unfold posV
  obtain ⟨w0, hw0⟩ : ∃ w0, w0 = w.alloc (.cells #[.slice aL Le.length cL, .slice aF Fi.length cF, .slice aA La.length cA, .slice aO Fo.length cO, .bool em] 46) := ⟨_, rfl⟩
  have hB0 : Below w.heap.size w w0 := by rw [hw0]; exact (Below.refl _ _).alloc (Nat.le_refl _) _
  have hX0 : w0.heap[w.heap.size]? = some (.cells #[.slice aL Le.length cL, .slice aF Fi.length cF, .slice aA La.length cA, .slice aO Fo.length cO, .bool em] 46 (0, 0)) := by rw [hw0]; exact heap_alloc_new w _
  have HB0 := hid0 hB0
  have hp0 := hp.past hB0
  obtain ⟨x0, x1, x2, x3, x4⟩ := row5 hX0
  have he0 := he.below hB0
  have HE := hid0 he0
  have e0 := he0.c0
  have e2 := he0.c2
  have hl1 := hp.l1
  have hl4 := hp.l4
  have H1 := hid0 (hasMore_any 4194304 Le aL cL w0 (by decide) (by omega) (fun r hr => by have := hp.r1 r hr; omega) hp0.le)
  have H2 := hid0 (hasMore_any 1048576 Fo aO cO w0 (by decide) (by omega) (fun r hr => by have := hp.r4 r hr; omega) hp0.fo)
  have H3 := hid0 (allRise_any sy Le aL cL w0 (by omega) (fun r hr => by have := hp.r1 r hr; omega) hsy hp0.le)
  have H4 := hid0 (fun W (hW : Below w0.heap.size w0 W) => placesRise_any aL aF aA aO cL cF cA cO Le Fo Fi La em W (hp0.past hW))
  unfold posV at H4
  have hfold := hw0.symm
  clear hw0 hp hp0 hB0 hX0 he he0
  by_cases h1 : (Le.length : Int) > 4000
  case pos =>
    have HV : Hid (chkP Le Fo Fi La sy = some 2) := hid0 (by unfold chkP; rw [if_pos (.inl (by omega))])
    go_enter Tryd.func26, Tryd.ntmps26
    go_wp2_with (first
      | (go_at_call 47; refine (H4.out _ (Below.refl _ _)).mono ?_; rintro e w4 ⟨rfl, h⟩; have HB4 := hid0 (Below.later HB0.out h); have e4 := (HE.out.below h).c0; clear h)
      | (go_at_call 46; refine H3.out.mono ?_; rintro e w3 ⟨rfl, hw3⟩; have hw3' := hw3.symm; subst hw3'; clear hw3)
      | (go_at_call 45; have hq := HQ1.out; refine H2.out.mono ?_; rintro e w2 ⟨rfl, hw2⟩; have hw2' := hw2.symm; subst hw2'; clear hw2 hq)
      | (go_at_call 45; (fail_if_success (have hq := HQ1.out)); refine H1.out.mono ?_; rintro e w1 ⟨rfl, hw1⟩; have hw1' := hw1.symm; subst hw1'; clear hw1; have HQ1 : Hid True := hid0 trivial)
      | fail)
    go_ret
    exact ⟨by rw [HV.out]; rfl, HB0.out⟩
  by_cases h2 : 4194304 < sumL Le
  case pos =>
    rw [decide_eq_true h2] at H1
    have HV : Hid (chkP Le Fo Fi La sy = some 2) := hid0 (by unfold chkP; rw [if_pos (.inr (.inl h2))])
    go_enter Tryd.func26, Tryd.ntmps26
    go_wp2_with (first
      | (go_at_call 47; refine (H4.out _ (Below.refl _ _)).mono ?_; rintro e w4 ⟨rfl, h⟩; have HB4 := hid0 (Below.later HB0.out h); have e4 := (HE.out.below h).c0; clear h)
      | (go_at_call 46; refine H3.out.mono ?_; rintro e w3 ⟨rfl, hw3⟩; have hw3' := hw3.symm; subst hw3'; clear hw3)
      | (go_at_call 45; have hq := HQ1.out; refine H2.out.mono ?_; rintro e w2 ⟨rfl, hw2⟩; have hw2' := hw2.symm; subst hw2'; clear hw2 hq)
      | (go_at_call 45; (fail_if_success (have hq := HQ1.out)); refine H1.out.mono ?_; rintro e w1 ⟨rfl, hw1⟩; have hw1' := hw1.symm; subst hw1'; clear hw1; have HQ1 : Hid True := hid0 trivial)
      | fail)
    go_ret
    exact ⟨by rw [HV.out]; rfl, HB0.out⟩
  rw [decide_eq_false h2] at H1
  by_cases h3 : 1048576 < sumL Fo
  case pos =>
    rw [decide_eq_true h3] at H2
    have HV : Hid (chkP Le Fo Fi La sy = some 2) := hid0 (by unfold chkP; rw [if_pos (.inr (.inr h3))])
    go_enter Tryd.func26, Tryd.ntmps26
    go_wp2_with (first
      | (go_at_call 47; refine (H4.out _ (Below.refl _ _)).mono ?_; rintro e w4 ⟨rfl, h⟩; have HB4 := hid0 (Below.later HB0.out h); have e4 := (HE.out.below h).c0; clear h)
      | (go_at_call 46; refine H3.out.mono ?_; rintro e w3 ⟨rfl, hw3⟩; have hw3' := hw3.symm; subst hw3'; clear hw3)
      | (go_at_call 45; have hq := HQ1.out; refine H2.out.mono ?_; rintro e w2 ⟨rfl, hw2⟩; have hw2' := hw2.symm; subst hw2'; clear hw2 hq)
      | (go_at_call 45; (fail_if_success (have hq := HQ1.out)); refine H1.out.mono ?_; rintro e w1 ⟨rfl, hw1⟩; have hw1' := hw1.symm; subst hw1'; clear hw1; have HQ1 : Hid True := hid0 trivial)
      | fail)
    go_ret
    exact ⟨by rw [HV.out]; rfl, HB0.out⟩
  rw [decide_eq_false h3] at H2
  have HC : Hid (chkP Le Fo Fi La sy = if sy < 1 ∨ 16384 < sy ∨ ¬ Fo.length = Le.length then some 0 else if riseA sy Le && plRise Le.length Fi La Fo then none else some 0) := hid0 (by unfold chkP; rw [if_neg (by omega)])
  clear h2 h3
  by_cases h4 : sy < 1
  case pos =>
    have HV : Hid (chkP Le Fo Fi La sy = some 0) := hid0 (by rw [HC.out, if_pos (.inl h4)])
    go_enter Tryd.func26, Tryd.ntmps26
    go_wp2_with (first
      | (go_at_call 47; refine (H4.out _ (Below.refl _ _)).mono ?_; rintro e w4 ⟨rfl, h⟩; have HB4 := hid0 (Below.later HB0.out h); have e4 := (HE.out.below h).c0; clear h)
      | (go_at_call 46; refine H3.out.mono ?_; rintro e w3 ⟨rfl, hw3⟩; have hw3' := hw3.symm; subst hw3'; clear hw3)
      | (go_at_call 45; have hq := HQ1.out; refine H2.out.mono ?_; rintro e w2 ⟨rfl, hw2⟩; have hw2' := hw2.symm; subst hw2'; clear hw2 hq)
      | (go_at_call 45; (fail_if_success (have hq := HQ1.out)); refine H1.out.mono ?_; rintro e w1 ⟨rfl, hw1⟩; have hw1' := hw1.symm; subst hw1'; clear hw1; have HQ1 : Hid True := hid0 trivial)
      | fail)
    go_ret
    exact ⟨by rw [HV.out]; rfl, HB0.out⟩
  by_cases h5 : sy > 16384
  case pos =>
    have HV : Hid (chkP Le Fo Fi La sy = some 0) := hid0 (by rw [HC.out, if_pos (.inr (.inl h5))])
    go_enter Tryd.func26, Tryd.ntmps26
    go_wp2_with (first
      | (go_at_call 47; refine (H4.out _ (Below.refl _ _)).mono ?_; rintro e w4 ⟨rfl, h⟩; have HB4 := hid0 (Below.later HB0.out h); have e4 := (HE.out.below h).c0; clear h)
      | (go_at_call 46; refine H3.out.mono ?_; rintro e w3 ⟨rfl, hw3⟩; have hw3' := hw3.symm; subst hw3'; clear hw3)
      | (go_at_call 45; have hq := HQ1.out; refine H2.out.mono ?_; rintro e w2 ⟨rfl, hw2⟩; have hw2' := hw2.symm; subst hw2'; clear hw2 hq)
      | (go_at_call 45; (fail_if_success (have hq := HQ1.out)); refine H1.out.mono ?_; rintro e w1 ⟨rfl, hw1⟩; have hw1' := hw1.symm; subst hw1'; clear hw1; have HQ1 : Hid True := hid0 trivial)
      | fail)
    go_ret
    exact ⟨by rw [HV.out]; rfl, HB0.out⟩
  by_cases h6 : (Fo.length : Int) = (Le.length : Int)
  case neg =>
    have h6n : ¬ Fo.length = Le.length := by omega
    have h6b : ((Fo.length : Int) != (Le.length : Int)) = true := by simp; omega
    have h6c : (Fo.length != Le.length) = true := by simp; omega
    have HV : Hid (chkP Le Fo Fi La sy = some 0) := hid0 (by rw [HC.out, if_pos (.inr (.inr (by omega)))])
    go_enter Tryd.func26, Tryd.ntmps26
    go_wp2_with (first
      | (go_at_call 47; refine (H4.out _ (Below.refl _ _)).mono ?_; rintro e w4 ⟨rfl, h⟩; have HB4 := hid0 (Below.later HB0.out h); have e4 := (HE.out.below h).c0; clear h)
      | (go_at_call 46; refine H3.out.mono ?_; rintro e w3 ⟨rfl, hw3⟩; have hw3' := hw3.symm; subst hw3'; clear hw3)
      | (go_at_call 45; have hq := HQ1.out; refine H2.out.mono ?_; rintro e w2 ⟨rfl, hw2⟩; have hw2' := hw2.symm; subst hw2'; clear hw2 hq)
      | (go_at_call 45; (fail_if_success (have hq := HQ1.out)); refine H1.out.mono ?_; rintro e w1 ⟨rfl, hw1⟩; have hw1' := hw1.symm; subst hw1'; clear hw1; have HQ1 : Hid True := hid0 trivial)
      | fail)
    go_ret
    exact ⟨by rw [HV.out]; rfl, HB0.out⟩
  have HC2 : Hid (chkP Le Fo Fi La sy = if riseA sy Le && plRise Le.length Fi La Fo then none else some 0) := hid0 (by rw [HC.out, if_neg (by omega)])
  clear HC
  cases g1 : riseA sy Le with
  | false =>
    rw [g1] at H3
    have HV : Hid (chkP Le Fo Fi La sy = some 0) := hid0 (by rw [HC2.out, g1]; rfl)
    go_enter Tryd.func26, Tryd.ntmps26
    go_wp2_with (first
      | (go_at_call 47; refine (H4.out _ (Below.refl _ _)).mono ?_; rintro e w4 ⟨rfl, h⟩; have HB4 := hid0 (Below.later HB0.out h); have e4 := (HE.out.below h).c0; clear h)
      | (go_at_call 46; refine H3.out.mono ?_; rintro e w3 ⟨rfl, hw3⟩; have hw3' := hw3.symm; subst hw3'; clear hw3)
      | (go_at_call 45; have hq := HQ1.out; refine H2.out.mono ?_; rintro e w2 ⟨rfl, hw2⟩; have hw2' := hw2.symm; subst hw2'; clear hw2 hq)
      | (go_at_call 45; (fail_if_success (have hq := HQ1.out)); refine H1.out.mono ?_; rintro e w1 ⟨rfl, hw1⟩; have hw1' := hw1.symm; subst hw1'; clear hw1; have HQ1 : Hid True := hid0 trivial)
      | fail)
    go_ret
    exact ⟨by rw [HV.out]; rfl, HB0.out⟩
  | true =>
    rw [g1] at H3
    cases g2 : plRise Le.length Fi La Fo with
    | false =>
      rw [g2] at H4
      have HV : Hid (chkP Le Fo Fi La sy = some 0) := hid0 (by rw [HC2.out, g1, g2]; rfl)
      go_enter Tryd.func26, Tryd.ntmps26
      go_wp2_with (first
      | (go_at_call 47; refine (H4.out _ (Below.refl _ _)).mono ?_; rintro e w4 ⟨rfl, h⟩; have HB4 := hid0 (Below.later HB0.out h); have e4 := (HE.out.below h).c0; clear h)
      | (go_at_call 46; refine H3.out.mono ?_; rintro e w3 ⟨rfl, hw3⟩; have hw3' := hw3.symm; subst hw3'; clear hw3)
      | (go_at_call 45; have hq := HQ1.out; refine H2.out.mono ?_; rintro e w2 ⟨rfl, hw2⟩; have hw2' := hw2.symm; subst hw2'; clear hw2 hq)
      | (go_at_call 45; (fail_if_success (have hq := HQ1.out)); refine H1.out.mono ?_; rintro e w1 ⟨rfl, hw1⟩; have hw1' := hw1.symm; subst hw1'; clear hw1; have HQ1 : Hid True := hid0 trivial)
      | fail)
      go_ret
      exact ⟨by rw [HV.out]; rfl, HB4.out⟩
    | true =>
      rw [g2] at H4
      have HV : Hid (chkP Le Fo Fi La sy = none) := hid0 (by rw [HC2.out, g1, g2]; rfl)
      go_enter Tryd.func26, Tryd.ntmps26
      go_wp2_with (first
      | (go_at_call 47; refine (H4.out _ (Below.refl _ _)).mono ?_; rintro e w4 ⟨rfl, h⟩; have HB4 := hid0 (Below.later HB0.out h); have e4 := (HE.out.below h).c0; clear h)
      | (go_at_call 46; refine H3.out.mono ?_; rintro e w3 ⟨rfl, hw3⟩; have hw3' := hw3.symm; subst hw3'; clear hw3)
      | (go_at_call 45; have hq := HQ1.out; refine H2.out.mono ?_; rintro e w2 ⟨rfl, hw2⟩; have hw2' := hw2.symm; subst hw2'; clear hw2 hq)
      | (go_at_call 45; (fail_if_success (have hq := HQ1.out)); refine H1.out.mono ?_; rintro e w1 ⟨rfl, hw1⟩; have hw1' := hw1.symm; subst hw1'; clear hw1; have HQ1 : Hid True := hid0 trivial)
      | fail)
      go_ret
      exact ⟨by rw [HV.out]; rfl, HB4.out⟩
end Go.Proofs.YtleeedjpccooaaaDoor
namespace Go.Proofs.YtleeedjpccooaaaDoor
open Go.RowKit Go.Shelf
/-- The builder: the block. -/
structure Bb (W : World) (B J : Nat) (vOp vRe vTe vNu vSt : Value) (most outs : Nat) (vNx vOu : Value) : Prop where
  r : W.heap[B]? = some (.cells #[.pointer (some ⟨J, 0, none⟩), vOp, vRe, vTe, vNu, vSt, .int .i64 (most : Int), .int .i64 (outs : Int), .int .i64 0, vNx, vOu] 97 (0, 0))
theorem Bb.lt {W : World} {B J : Nat} {vOp vRe vTe vNu vSt : Value} {most outs : Nat} {vNx vOu : Value} (h : Bb W B J vOp vRe vTe vNu vSt most outs vNx vOu) : B < W.heap.size := (Array.getElem?_eq_some_iff.1 h.r).1
theorem Bb.kept {W W' : World} {B J : Nat} {vOp vRe vTe vNu vSt : Value} {most outs : Nat} {vNx vOu : Value} (h : Bb W B J vOp vRe vTe vNu vSt most outs vNx vOu) (e : W'.heap[B]? = W.heap[B]?) : Bb W' B J vOp vRe vTe vNu vSt most outs vNx vOu := ⟨e.trans h.r⟩
theorem Bb.past {W W' : World} {B J : Nat} {vOp vRe vTe vNu vSt : Value} {most outs : Nat} {vNx vOu : Value} (h : Bb W B J vOp vRe vTe vNu vSt most outs vNx vOu) (hb : Below W.heap.size W W') : Bb W' B J vOp vRe vTe vNu vSt most outs vNx vOu := h.kept (hb.block _ h.lt)
theorem Bb.c {W : World} {B J : Nat} {vOp vRe vTe vNu vSt : Value} {most outs : Nat} {vNx vOu : Value} (h : Bb W B J vOp vRe vTe vNu vSt most outs vNx vOu) :
    W.cell? ⟨B, 0, none⟩ = some (.pointer (some ⟨J, 0, none⟩)) ∧ W.cell? ⟨B, 1, none⟩ = some vOp ∧ W.cell? ⟨B, 2, none⟩ = some vRe ∧ W.cell? ⟨B, 3, none⟩ = some vTe ∧ W.cell? ⟨B, 4, none⟩ = some vNu ∧ W.cell? ⟨B, 5, none⟩ = some vSt ∧ W.cell? ⟨B, 6, none⟩ = some (.int .i64 (most : Int)) ∧ W.cell? ⟨B, 7, none⟩ = some (.int .i64 (outs : Int)) ∧ W.cell? ⟨B, 8, none⟩ = some (.int .i64 0) ∧ W.cell? ⟨B, 9, none⟩ = some vNx ∧ W.cell? ⟨B, 10, none⟩ = some vOu := by
  refine ⟨?_, ?_, ?_, ?_, ?_, ?_, ?_, ?_, ?_, ?_, ?_⟩ <;> (rw [cell_of_row _ _ _ _ _ _ h.r]; rfl)
theorem Bb.fz {W : World} {B J : Nat} {vOp vRe vTe vNu vSt : Value} {most outs : Nat} {vNx vOu : Value} (h : Bb W B J vOp vRe vTe vNu vSt most outs vNx vOu) (i : Nat) : W.frozen? ⟨B, i, none⟩ = false := by simp [World.frozen?, h.r]
theorem Bb.setOuts {W : World} {B J : Nat} {vOp vRe vTe vNu vSt : Value} {most outs : Nat} {vNx vOu : Value} (h : Bb W B J vOp vRe vTe vNu vSt most outs vNx vOu) (n : Nat) : Bb (W.setCell ⟨B, 7, none⟩ (.int .i64 (n : Int))) B J vOp vRe vTe vNu vSt most n vNx vOu := ⟨heap_setCell_same W _ 7 _ _ _ h.r⟩
theorem Bb.setSt {W : World} {B J : Nat} {vOp vRe vTe vNu vSt : Value} {most outs : Nat} {vNx vOu : Value} (h : Bb W B J vOp vRe vTe vNu vSt most outs vNx vOu) (v : Value) : Bb (W.setCell ⟨B, 5, none⟩ v) B J vOp vRe vTe vNu v most outs vNx vOu := ⟨heap_setCell_same W _ 5 _ _ _ h.r⟩
theorem Bb.setOu {W : World} {B J : Nat} {vOp vRe vTe vNu vSt : Value} {most outs : Nat} {vNx vOu : Value} (h : Bb W B J vOp vRe vTe vNu vSt most outs vNx vOu) (v : Value) : Bb (W.setCell ⟨B, 10, none⟩ v) B J vOp vRe vTe vNu vSt most outs vNx v := ⟨heap_setCell_same W _ 10 _ _ _ h.r⟩
theorem Bb.setNx {W : World} {B J : Nat} {vOp vRe vTe vNu vSt : Value} {most outs : Nat} {vNx vOu : Value} (h : Bb W B J vOp vRe vTe vNu vSt most outs vNx vOu) (v : Value) : Bb (W.setCell ⟨B, 9, none⟩ v) B J vOp vRe vTe vNu vSt most outs v vOu := ⟨heap_setCell_same W _ 9 _ _ _ h.r⟩
/-- A row that grew by one. -/
structure ApG (ty : TypeId) (w w' : World) (lo : Nat) (v v' : Value) (xs : List Value) : Prop where
  own : w'.ownsRow lo ty 1 v' xs.length xs
  frm : Only w w' (fun k => v.ownBlock = some k)
  at' : ∀ k, v'.ownBlock = some k → v.ownBlock = some k ∨ w.heap.size ≤ k
theorem apG_one {ty : TypeId} {w w2 : World} {lo : Nat} {v v' x : Value} {xs : List Value} {o : Obj} (hown : w2.ownsRow lo ty 1 v' (xs.length + 1) (xs ++ [x])) (hg : (w.alloc o).grownBy w2 v.ownBlock) (hat : v'.ownBlock = v.ownBlock ∨ v'.ownBlock = some (w.alloc o).heap.size) : ApG ty w w2 lo v v' (xs ++ [x]) := by
  refine ⟨?_, (Only.alloc w o (fun k => v.ownBlock = some k)).trans (Only.ofGrown hg) (fun _ h => .inl h), fun k hk => ?_⟩
  · rw [List.length_append, List.length_singleton]; exact hown
  · rcases hat with e | e
    · exact .inl (by rw [← e]; exact hk)
    · rw [e] at hk
      cases hk
      right
      simp
theorem infoStr : (Tryd.prog.info? 9).map (fun i => (i.zero, i.size, i.bytes)) = some (some (.string ⟨#[]⟩), 1, 16) := by kernel_rfl
theorem infoIntsM : (Tryd.prog.info? 34).map (fun i => (i.zero, i.size, i.bytes)) = some (some (.slice none 0 0), 1, 24) := by kernel_rfl
theorem own_ne_blk {w : World} {lo : Nat} {t t' : TypeId} {s n : Nat} {v : Value} {xs : List Value} (h : w.ownsRow lo t s v n xs) {B : Nat} {cs : Array Value} {f : Nat × Nat} (hB : w.heap[B]? = some (.cells cs t' f)) (ht : t ≠ t') : v.ownBlock ≠ some B := fun e => by
  obtain ⟨c, hc⟩ := own_typ h e
  rw [hB] at hc
  injection hc with hc
  injection hc with _ h2 _
  exact ht h2.symm
theorem own_sl {w : World} {lo : Nat} {t : TypeId} {s n : Nat} {v : Value} {xs : List Value} (h : w.ownsRow lo t s v n xs) : ∃ a c, v = .slice a n c := by
  rcases h.2 with ⟨e, e2⟩ | ⟨g, cap, cur, e, _⟩
  · exact ⟨none, 0, by rw [e, e2]⟩
  · exact ⟨_, _, e⟩
end Go.Proofs.YtleeedjpccooaaaDoor
namespace Go.Proofs.YtleeedjpccooaaaDoor
open Go.RowKit Go.Shelf
set_option maxRecDepth 10000 in
set_option maxHeartbeats 1600000 in
theorem addState_any (B J lo most outs n co : Nat) (A : Nat → Addr) (vOp vRe vTe vNu vSt vNx vOu : Value) (L : List ByteArray) (VS : List Value) (tx : ByteArray) (ao : Option Addr) (w : World) (hb : Bb w B J vOp vRe vTe vNu vSt most outs vNx vOu) (hst : w.ownsRow lo 9 1 vSt L.length (L.map Value.string)) (hou : w.ownsRow lo 34 1 vOu VS.length VS) (hlo : lo ≤ w.heap.size) (hsen : Sen2 w A) (hL : L.length ≤ 16384) (hV : VS.length ≤ 16384) (_hm : most ≤ 16384) (ho : outs ≤ 4194304) (hn : n ≤ 1000000000) :
    Calls Tryd.prog 53 #[.pointer (some ⟨B, 0, none⟩), .string tx, .slice ao n co] w fun e w' =>
      (L.length = most ∨ 4194304 < outs + n → e = .returned (.iface 157 (.pointer (some (A 2)))) ∧ Only w w' (fun k => k = B))
      ∧ (¬ (L.length = most ∨ 4194304 < outs + n) → e = .returned .nilIface ∧ ∃ vSt' vOu', Bb w' B J vOp vRe vTe vNu vSt' most (outs + n) vNx vOu' ∧ w'.ownsRow lo 9 1 vSt' (L ++ [tx]).length ((L ++ [tx]).map Value.string) ∧ w'.ownsRow lo 34 1 vOu' (VS ++ [Value.slice ao n co]).length (VS ++ [Value.slice ao n co])
        ∧ Only w w' (fun k => k = B ∨ vSt.ownBlock = some k ∨ vOu.ownBlock = some k) ∧ (∀ k, vSt'.ownBlock = some k → vSt.ownBlock = some k ∨ w.heap.size ≤ k) ∧ (∀ k, vOu'.ownBlock = some k → vOu.ownBlock = some k ∨ w.heap.size ≤ k)) := by
  obtain ⟨j0, hj, jy⟩ := Option.map_eq_some_iff.1 infoStr
  simp only [Prod.mk.injEq] at jy
  obtain ⟨jy0, jy1, jy2⟩ := jy
  obtain ⟨i0, hi, hz⟩ := Option.map_eq_some_iff.1 infoIntsM
  simp only [Prod.mk.injEq] at hz
  obtain ⟨hz0, hz1, hz2⟩ := hz
  obtain ⟨s, hs⟩ : ∃ s : Nat, s = outs + n := ⟨_, rfl⟩
  rw [← hs]
  have hgB : B ≠ 1 := fun e => by
    have h1 := hb.c.1
    rw [e, hsen.c2] at h1
    injection h1 with h1
    cases h1
  obtain ⟨w0, hw0⟩ : ∃ w0, w0 = w.setCell ⟨B, 7, none⟩ (.int .i64 (s : Int)) := ⟨_, rfl⟩
  have hO0 : Only w w0 (fun k => k = B) := by rw [hw0]; exact Only.setCell _ _ _ _
  have hb0 : Bb w0 B J vOp vRe vTe vNu vSt most s vNx vOu := by rw [hw0]; exact hb.setOuts s
  have n1 := own_ne_blk hst hb.r (by decide)
  have n2 := own_ne_blk hou hb.r (by decide)
  have hst0 : w0.ownsRow lo 9 1 vSt L.length (L.map Value.string) := own_blk hst (fun k hk => hO0.block k (World.ownsRow.lt hst k hk).2 (fun e => n1 (e ▸ hk)))
  have hou0 : w0.ownsRow lo 34 1 vOu VS.length VS := own_blk hou (fun k hk => hO0.block k (World.ownsRow.lt hou k hk).2 (fun e => n2 (e ▸ hk)))
  have e2 : w0.cell? ⟨1, 0, none⟩ = some (.iface 157 (.pointer (some (A 2)))) := (hO0.cell (p := ⟨1, 0, none⟩) (World.block_lt_of_cell? w _ hsen.c2) (fun e => hgB e.symm)).trans hsen.c2
  have hlo0 : lo ≤ w0.heap.size := Nat.le_trans hlo hO0.size
  obtain ⟨a5, c5, hv5⟩ : ∃ a c, vSt = .slice a L.length c := own_sl hst
  subst hv5
  have k7 := hb.c.2.2.2.2.2.2.2.1
  have f7 := hb.fz 7
  obtain ⟨_, _, _, _, _, d5, d6, d7, _, _, d10⟩ := hb0.c
  have HO0 := hid0 hO0
  have HB0 := hid0 hb0
  have HSt0 := hid0 hst0
  have HOu0 := hid0 hou0
  have hsI : (outs : Int) + (n : Int) = (s : Int) := by omega
  have hws : IntKind.i64.wrap (s : Int) = (s : Int) := by rw [IntKind.wrap_i64]; omega
  have hfold := hw0.symm
  have hsb : s ≤ 1004194304 := by omega
  clear hw0 hb hst hou hlo hsen hO0 hb0 hst0 hou0 hs n1 n2 hgB
  by_cases h1 : L.length = most ∨ 4194304 < s
  · have HH := hid0 h1
    have hq : ((L.length : Int) == (most : Int)) = true ∨ (((L.length : Int) == (most : Int)) = false ∧ (4194304 : Int) < (s : Int)) := by
      by_cases e : L.length = most
      · left; simp [e]
      · right
        have : 4194304 < s := by rcases h1 with h | h; exact absurd h e; exact h
        exact ⟨by rw [beq_eq_false_iff_ne]; omega, by omega⟩
    clear h1
    rcases hq with h1 | ⟨h1, h2⟩
    all_goals
      go_enter Tryd.func53, Tryd.ntmps53
      go_wp2
      go_region
      all_goals
        go_wp2
        go_ret
        exact ⟨fun _ => ⟨rfl, HO0.out.trans (Only.drewN w0 _ _) (fun _ h => .inl h)⟩, fun h => absurd HH.out h⟩
  · have HH := hid0 h1
    have hq1 : ((L.length : Int) == (most : Int)) = false := by rw [beq_eq_false_iff_ne]; omega
    have hq2 : ¬ (4194304 : Int) < (s : Int) := by omega
    clear h1
    go_enter Tryd.func53, Tryd.ntmps53
    go_wp2
    go_region
    have HDw : Hid (Only w w0.drew (fun k => k = B) ∧ Bb w0.drew B J vOp vRe vTe vNu (.slice a5 L.length c5) most s vNx vOu ∧ w0.drew.ownsRow lo 9 1 (.slice a5 L.length c5) L.length (L.map Value.string) ∧ w0.drew.ownsRow lo 34 1 vOu VS.length VS ∧ lo ≤ w0.drew.heap.size) := hid0 ⟨HO0.out.trans (Only.drewN w0 1 _) (fun _ h => .inl h), HB0.out.kept rfl, own_blk HSt0.out (fun _ _ => rfl), own_blk HOu0.out (fun _ _ => rfl), hlo0⟩
    generalize w0.drew = wd at *
    have HD1 := hid0 HDw.out.2.2.1
    have hlod := HDw.out.2.2.2.2
    clear d5 d6 d7 d10 e2 k7 f7 hfold HO0 HB0 HSt0 HOu0 hlo0 hsI hws
    obtain ⟨d0, _, _, _, _, d5, _, _, _, _, _⟩ := HDw.out.2.1.c
    have HS1 : Hid (∀ (v1 : Value) (w1 : World), ApG 9 wd w1 lo (.slice a5 L.length c5) v1 (L.map Value.string ++ [.string tx]) → Bb w1 B J vOp vRe vTe vNu (.slice a5 L.length c5) most s vNx vOu ∧ (Bb (w1.setCell ⟨B, 5, none⟩ v1) B J vOp vRe vTe vNu v1 most s vNx vOu ∧ (w1.setCell ⟨B, 5, none⟩ v1).ownsRow lo 9 1 v1 (L ++ [tx]).length ((L ++ [tx]).map Value.string) ∧ (w1.setCell ⟨B, 5, none⟩ v1).ownsRow lo 34 1 vOu VS.length VS ∧ lo ≤ (w1.setCell ⟨B, 5, none⟩ v1).heap.size ∧ Only w (w1.setCell ⟨B, 5, none⟩ v1) (fun k => k = B ∨ (Value.slice a5 L.length c5).ownBlock = some k ∨ vOu.ownBlock = some k) ∧ (∀ k, v1.ownBlock = some k → (Value.slice a5 L.length c5).ownBlock = some k ∨ w.heap.size ≤ k))) := hid0 (fun v1 w1 h => by
      obtain ⟨g1, g2, g3, g4, g5⟩ := HDw.out
      have m1 := own_ne_blk g3 g2.r (by decide)
      have m2 := own_ne_blk g4 g2.r (by decide)
      have b1 := g2.kept (h.frm.block _ g2.lt m1)
      have m3 := own_ne_blk h.own b1.r (by decide)
      have hn : ∀ k, vOu.ownBlock = some k → (Value.slice a5 L.length c5).ownBlock ≠ some k := fun k hk => by
        obtain ⟨c, hc⟩ := own_typ g4 hk
        exact own_ne_blk g3 hc (by decide)
      have o1 : w1.ownsRow lo 34 1 vOu VS.length VS := own_blk g4 (fun k hk => h.frm.block k (World.ownsRow.lt g4 k hk).2 (hn k hk))
      have hO := Only.setCell w1 B 5 v1
      refine ⟨b1, b1.setSt v1, ?_, own_blk o1 (fun k hk => hO.block k (World.ownsRow.lt o1 k hk).2 (fun e => m2 (e ▸ hk))), Nat.le_trans g5 (Nat.le_trans h.frm.size hO.size), ((g1.mono (fun _ h => .inl h)).trans h.frm (fun i hi => .inl (.inr (.inl hi)))).trans hO (fun i hi => .inl (.inl hi)), fun k hk => (h.at' k hk).imp_right (fun h => Nat.le_trans g1.size h)⟩
      have h2 := own_blk (W' := w1.setCell ⟨B, 5, none⟩ v1) h.own (fun k hk => hO.block k (World.ownsRow.lt h.own k hk).2 (fun e => m3 (e ▸ hk)))
      simpa using h2)
    have HS2 : Hid (∀ (v1 v2 : Value) (w2 w3 : World), (Bb w2 B J vOp vRe vTe vNu v1 most s vNx vOu ∧ w2.ownsRow lo 9 1 v1 (L ++ [tx]).length ((L ++ [tx]).map Value.string) ∧ w2.ownsRow lo 34 1 vOu VS.length VS ∧ lo ≤ w2.heap.size ∧ Only w w2 (fun k => k = B ∨ (Value.slice a5 L.length c5).ownBlock = some k ∨ vOu.ownBlock = some k) ∧ (∀ k, v1.ownBlock = some k → (Value.slice a5 L.length c5).ownBlock = some k ∨ w.heap.size ≤ k)) → ApG 34 w2 w3 lo vOu v2 (VS ++ [Value.slice ao n co]) → Bb w3 B J vOp vRe vTe vNu v1 most s vNx vOu ∧ Bb (w3.setCell ⟨B, 10, none⟩ v2) B J vOp vRe vTe vNu v1 most s vNx v2 ∧ (w3.setCell ⟨B, 10, none⟩ v2).ownsRow lo 9 1 v1 (L ++ [tx]).length ((L ++ [tx]).map Value.string) ∧ (w3.setCell ⟨B, 10, none⟩ v2).ownsRow lo 34 1 v2 (VS ++ [Value.slice ao n co]).length (VS ++ [Value.slice ao n co])
        ∧ Only w (w3.setCell ⟨B, 10, none⟩ v2) (fun k => k = B ∨ (Value.slice a5 L.length c5).ownBlock = some k ∨ vOu.ownBlock = some k) ∧ (∀ k, v1.ownBlock = some k → (Value.slice a5 L.length c5).ownBlock = some k ∨ w.heap.size ≤ k) ∧ (∀ k, v2.ownBlock = some k → vOu.ownBlock = some k ∨ w.heap.size ≤ k)) := hid0 (fun v1 v2 w2 w3 ⟨g2, g3, g4, g5, g6, g7⟩ h => by
      have m1 := own_ne_blk g3 g2.r (by decide)
      have m2 := own_ne_blk g4 g2.r (by decide)
      have b1 := g2.kept (h.frm.block _ g2.lt m2)
      have m3 := own_ne_blk h.own b1.r (by decide)
      have hn : ∀ k, v1.ownBlock = some k → vOu.ownBlock ≠ some k := fun k hk => by
        obtain ⟨c, hc⟩ := own_typ g3 hk
        exact own_ne_blk g4 hc (by decide)
      have o1 : w3.ownsRow lo 9 1 v1 (L ++ [tx]).length ((L ++ [tx]).map Value.string) := own_blk g3 (fun k hk => h.frm.block k (World.ownsRow.lt g3 k hk).2 (hn k hk))
      have hO := Only.setCell w3 B 10 v2
      exact ⟨b1, b1.setOu v2, own_blk o1 (fun k hk => hO.block k (World.ownsRow.lt o1 k hk).2 (fun e => m1 (e ▸ hk))), own_blk h.own (fun k hk => hO.block k (World.ownsRow.lt h.own k hk).2 (fun e => m3 (e ▸ hk))), (g6.trans h.frm (fun i hi => .inl (.inr (.inr hi)))).trans hO (fun i hi => .inl (.inl hi)), g7, fun k hk => (h.at' k hk).imp_right (fun h => Nat.le_trans g6.size h)⟩)
    clear HDw
    go_upto_region 5 with (at_builtin; go_loud ((refine wpList_append_own_at _ rfl _ _ 95 rfl lo 9 j0 (.string ⟨#[]⟩) 1 16 Tryd.underlying95 hj jy0 jy1 jy2 rfl (by decide) (.slice a5 L.length c5) L.length (L.map Value.string) rfl (World.ownsRow.alloc HD1.out _) ⟨wd.heap.size, 0, none⟩ 1 1 [.string tx] rfl rfl (cell_one_new _ _ _) (by simp [Value.oneCell']) (by unfold maxLen; omega) (by omega) (by simp; omega) ?_; intro v1 w1 h1 h2 _ h4; obtain ⟨a1, c1, rfl⟩ := own_sl h1; have R := hid0 (HS1.out _ w1 (apG_one (by rw [List.length_map]; exact h1) h2 h4)); clear h1 h2 h4; have d5 := R.out.1.c.2.2.2.2.2.1; have f5 := R.out.1.fz 5)))
    have HR2 := hid0 R.out.2
    clear R d5 f5 d0
    generalize w1.setCell ⟨B, 5, none⟩ (.slice a1 (L.length + 1) c1) = w2 at *
    have HD2 := hid0 HR2.out.2.2.1
    have hlo2 := HR2.out.2.2.2.1
    obtain ⟨_, _, _, _, _, _, _, _, _, _, d10⟩ := HR2.out.1.c
    obtain ⟨aU, cU, rfl⟩ := own_sl HD2.out
    clear HS1 HD1
    go_wp2_with (at_builtin; go_loud ((refine wpList_append_own_at _ rfl _ _ 26 rfl lo 34 i0 (.slice none 0 0) 1 24 Tryd.underlying26 hi hz0 hz1 hz2 rfl (by decide) (.slice aU VS.length cU) VS.length VS rfl (World.ownsRow.alloc HD2.out _) ⟨w2.heap.size, 0, none⟩ 1 1 [.slice ao n co] rfl rfl (cell_one_new _ _ _) (by simp [Value.oneCell']) (by unfold maxLen; omega) (by omega) (by simp; omega) ?_; intro v2 w3 h1 h2 _ h4; obtain ⟨a2, c2, rfl⟩ := own_sl h1; have R := hid0 (HS2.out _ _ w2 w3 HR2.out (apG_one h1 h2 h4)); clear h1 h2 h4; have d10 := R.out.1.c.2.2.2.2.2.2.2.2.2.2; have f10 := R.out.1.fz 10)))
    go_ret
    exact ⟨fun h => absurd h HH.out, fun _ => ⟨rfl, _, _, R.out.2⟩⟩
end Go.Proofs.YtleeedjpccooaaaDoor
namespace Go.Proofs.YtleeedjpccooaaaDoor
open Go.RowKit Go.Shelf
/-- A set without the places of another's first k words. -/
def anF (h op : Nat → Bool) (k : Nat) : Nat → Bool := fun q => h q && !(decide (q / 64 < k) && op q)
theorem anF_zero (h op : Nat → Bool) : anF h op 0 = h := by funext q; simp [anF]
theorem word_andn (h op : Nat → Bool) (k : Nat) : wordOf (anF h op k) k &&& (18446744073709551615 - wordOf op k) = wordOf (anF h op (k + 1)) k := by
  apply Nat.eq_of_testBit_eq
  intro i
  have e : 18446744073709551615 - wordOf op k = 2 ^ 64 - (wordOf op k + 1) := by omega
  rw [e, Nat.testBit_and, Nat.testBit_two_pow_sub_succ (wordOf_lt op k), wordOf_bit, wordOf_bit, wordOf_bit]
  by_cases hi : i < 64
  · have e1 : (64 * k + i) / 64 = k := by omega
    have e2 : k < k + 1 := by omega
    simp [hi, anF, e1, e2]
  · simp [hi]
theorem word_andn_other (h op : Nat → Bool) (k i : Nat) (hi : i ≠ k) : wordOf (anF h op (k + 1)) i = wordOf (anF h op k) i := by
  apply Nat.eq_of_testBit_eq
  intro j
  rw [wordOf_bit, wordOf_bit]
  by_cases hj : j < 64
  · have e1 : (64 * i + j) / 64 = i := by omega
    have e2 : (i < k + 1) = (i < k) := by simp; omega
    simp [hj, anF, e1, e2]
  · simp [hj]
theorem OwnU.put {W : World} {base g n c a : Nat} {h h' : Nat → Bool} (ho : OwnU W base (.slice (some ⟨g, 0, none⟩) n c) n h) (ha : a < n) (hh : ∀ i, i ≠ a → wordOf h' i = wordOf h i) : OwnU (W.setCell ⟨g, a, none⟩ (.int .u64 (wordOf h' a : Int))) base (.slice (some ⟨g, 0, none⟩) n c) n h' := by
  have h1 := (World.ownsRow.stored ho a (.int .u64 (wordOf h' a : Int))).1
  have e : (wdV h n).set a (.int .u64 (wordOf h' a : Int)) = wdV h' n := by
    apply List.ext_getElem?
    intro i
    by_cases hi : i < n
    · by_cases hia : a = i
      · subst hia
        rw [List.getElem?_set_self (by rw [wdV_len]; exact ha), wdV_at _ ha]
      · rw [List.getElem?_set_ne hia, wdV_at _ hi, wdV_at _ hi, hh i (fun e => hia e.symm)]
    · rw [List.getElem?_eq_none (by rw [List.length_set, wdV_len]; omega), List.getElem?_eq_none (by rw [wdV_len]; omega)]
  unfold OwnU
  rw [← e]
  exact h1
theorem wordOf_none (i : Nat) : wordOf (fun _ => false) i = 0 := by
  apply Nat.eq_of_testBit_eq
  intro j
  rw [wordOf_bit]
  simp
theorem wdV_none (n : Nat) : wdV (fun _ => false) n = List.replicate n (.int .u64 0) := by
  apply List.ext_getElem?
  intro i
  by_cases hi : i < n
  · rw [wdV_at _ hi, List.getElem?_replicate, if_pos hi, wordOf_none]; rfl
  · rw [List.getElem?_eq_none (by rw [wdV_len]; omega), List.getElem?_eq_none (by rw [List.length_replicate]; omega)]
theorem Only.setRow (w : World) (g : Nat) (cs : Array Value) : Only w (w.setRow g cs) (fun k => k = g) := ⟨rfl, rfl, rfl, by simp [World.setRow], fun k _ h => by
  simp only [World.setRow, Array.getElem?_modify]
  rw [if_neg (fun e => h e.symm)]⟩
theorem infoU64s : (Tryd.prog.info? 105).map (·.size) = some 1 := by kernel_rfl
set_option maxRecDepth 10000 in
theorem copy_own {W : World} {lo lo' G N c : Nat} {h k : Nat → Bool} {aC : Option Addr} {cC : Nat} (ho : OwnU W lo (.slice (some ⟨G, 0, none⟩) N c) N h) (hc : OwnU W lo' (.slice aC N cC) N k) :
    ∃ W', (∀ ty, (Builtin.copy_ #[83, 83] ty #[.slice (some ⟨G, 0, none⟩) N c, .slice aC N cC]).run Tryd.prog W = .ok (.int .i64 (N : Int)) W') ∧ OwnU W' lo (.slice (some ⟨G, 0, none⟩) N c) N k ∧ Only W W' (fun i => i = G) := by
  by_cases h0 : N = 0
  · subst h0
    refine ⟨W, fun ty => ?_, ⟨by simp [wdV_len], ?_⟩, Only.refl _ _⟩
    · exact run_copy_none (P := Tryd.prog) W 83 83 ty 105 _ _ 0 c 0 cC Tryd.underlying83 infoU64s (by simp)
    · rcases ho.2 with ⟨e, _⟩ | ⟨g, cap, cur, e, h1, h2, h3, h4, h5, h6⟩
      · cases e
      · exact .inr ⟨g, cap, cur, e, h1, h2, h3, h4, h5, by simp [wdV]⟩
  · obtain ⟨g', c', e', _, _, _⟩ := OwnU.at' hc (i := 0) (by omega)
    have e2 : aC = some ⟨g', 0, none⟩ := by injection e'
    subst e2
    rcases ho.2 with ⟨e, _⟩ | ⟨g, cap, cur, e, h1, h2, h3, h4, h5, h6⟩
    · cases e
    · simp only [Value.slice.injEq, Option.some.injEq, Addr.mk.injEq, and_true, true_and] at e
      obtain ⟨rfl, rfl⟩ := e
      refine ⟨_, fun ty => (run_copy_row (P := Tryd.prog) W 83 83 ty 105 G 0 N c ⟨g', 0, none⟩ N cC cur 105 (wdV k N) Tryd.underlying83 infoU64s h2 (by simp [wdV_len]) (fun j v hj => ?_) (by rw [wdV_len]; omega) (fun v hv => ?_)).trans (by rw [wdV_len]; rfl), ⟨by simp [wdV_len], .inr ⟨G, c, _, rfl, h1, setRow_heap W G _ _ _ _ h2, h3, h4, ?_, ?_⟩⟩, Only.setRow _ _ _⟩
      · have hj2 : j < N := by have := (List.getElem?_eq_some_iff.1 hj).1; rw [wdV_len] at this; exact this
        obtain ⟨g2, c2, e2, _, _, h8, _⟩ := OwnU.at' hc hj2
        have e3 : g' = g2 := by simp only [Value.slice.injEq, Option.some.injEq, Addr.mk.injEq, and_true] at e2; exact e2.1
        subst e3
        rw [Addr.add_lit, Nat.zero_add, h8, ← hj, wdV_at k hj2]
      · unfold wdV at hv
        obtain ⟨i, _, rfl⟩ := List.mem_map.1 hv
        rfl
      · simp [wdV_len]; omega
      · simp only [List.take_zero, List.nil_append, Nat.mul_one]
        rw [List.take_append_of_le_length (by rw [wdV_len]; omega), List.take_of_length_le (by rw [wdV_len]; omega)]
theorem own_cells {lo G n c : Nat} {t : TypeId} : ∀ (vs : List Value) (o : Nat) (W : World) (xs : List Value), W.ownsRow lo t 1 (.slice (some ⟨G, 0, none⟩) n c) n xs → o + vs.length ≤ n → (W.setCells G o vs).ownsRow lo t 1 (.slice (some ⟨G, 0, none⟩) n c) n (xs.take o ++ vs ++ xs.drop (o + vs.length)) ∧ Only W (W.setCells G o vs) (fun k => k = G)
  | [], o, W, xs, h, _ => ⟨by simpa [World.setCells] using h, Only.refl _ _⟩
  | v :: vs, o, W, xs, h, hl => by
    have hx : xs.length = n := by have := h.1; omega
    rw [List.length_cons] at hl
    obtain ⟨h1, h2⟩ := own_cells vs (o + 1) _ _ (World.ownsRow.stored h o v).1 (by omega)
    refine ⟨?_, (Only.setCell W G o v).trans h2 (fun _ h => .inl h)⟩
    have e : (xs.set o v).take (o + 1) ++ vs ++ (xs.set o v).drop (o + 1 + vs.length) = xs.take o ++ v :: vs ++ xs.drop (o + (v :: vs).length) := by
      rw [List.take_set, List.drop_set_of_lt (by omega), List.take_add_one, List.getElem?_eq_getElem (by omega), List.length_cons, show o + 1 + vs.length = o + (vs.length + 1) by omega]
      rw [Option.toList_some, List.set_append_right _ _ (by rw [List.length_take]; omega)]
      rw [show o - (xs.take o).length = 0 by rw [List.length_take]; omega]
      simp
    rw [← e]
    exact h1
set_option maxRecDepth 10000 in
theorem clear_own {W : World} {lo G N c : Nat} {h : Nat → Bool} (ho : OwnU W lo (.slice (some ⟨G, 0, none⟩) N c) N h) :
    ∃ W', (∀ ty, (Builtin.clear_ #[83] ty #[.slice (some ⟨G, 0, none⟩) N c]).run Tryd.prog W = .ok (.tuple #[]) W') ∧ OwnU W' lo (.slice (some ⟨G, 0, none⟩) N c) N (fun _ => false) ∧ Only W W' (fun i => i = G) := by
  by_cases h0 : N = 0
  · subst h0
    refine ⟨W, fun ty => ?_, ⟨by simp [wdV_len], ?_⟩, Only.refl _ _⟩
    · simp [Builtin.clear_, run_underlying Tryd.underlying83]
    · rcases ho.2 with ⟨e, _⟩ | ⟨g, cap, cur, e, h1, h2, h3, h4, h5, h6⟩
      · cases e
      · exact .inr ⟨g, cap, cur, e, h1, h2, h3, h4, h5, by simp [wdV]⟩
  · obtain ⟨h1, h2⟩ := own_cells (List.replicate N (.int .u64 0)) 0 W _ ho (by simp)
    refine ⟨_, fun ty => Lib.run_clear_slice W 83 105 ty (.int .u64 0) Tryd.underlying83 (fun w => by rfl) rfl rfl G 0 N c (by omega) (fun j hj => ?_) (fun j hj => ?_), ?_, h2⟩
    · obtain ⟨g, c', e, _, _, h8, _⟩ := OwnU.at' ho hj
      cases e
      rw [Nat.zero_add, h8]
      rfl
    · obtain ⟨g, c', e, _, _, _, h9⟩ := OwnU.at' ho hj
      cases e
      rw [Nat.zero_add]
      exact h9
    · unfold OwnU
      rw [wdV_none]
      have e : List.drop N (wdV h N) = [] := List.drop_eq_nil_of_le (by rw [wdV_len]; omega)
      simpa [e] using h1
end Go.Proofs.YtleeedjpccooaaaDoor
namespace Go.Proofs.YtleeedjpccooaaaDoor
open Go.RowKit Go.Shelf
set_option maxRecDepth 10000 in
set_option maxHeartbeats 1600000 in
theorem reach0_any (B J G N cR lo lo' most outs sy cC : Nat) (h cl : Nat → Bool) (aC : Option Addr) (vOp vTe vNu vSt vNx vOu vO vF vE vL vM vZ vP vS vA : Value) (w : World) (hb : Bb w B J vOp (.slice (some ⟨G, 0, none⟩) N cR) vTe vNu vSt most outs vNx vOu) (hj : Jb w J sy vO vF vE vL vM vZ vP (.slice aC N cC) vS vA) (hR : OwnU w lo (.slice (some ⟨G, 0, none⟩) N cR) N h) (hC : OwnU w lo' (.slice aC N cC) N cl) :
    Calls Tryd.prog 55 #[.pointer (some ⟨B, 0, none⟩), .int .i64 0] w fun e w' => (∃ v, e = .returned v) ∧ OwnU w' lo (.slice (some ⟨G, 0, none⟩) N cR) N cl ∧ Only w w' (fun k => k = G) := by
  obtain ⟨W', hcp, h1, h2⟩ := copy_own (hR.kept (W' := w.drew) rfl) (hC.kept (W' := w.drew) rfl)
  have HF := hid0 (show OwnU W' lo (.slice (some ⟨G, 0, none⟩) N cR) N cl ∧ Only w W' (fun k => k = G) from ⟨h1, (Only.drewN w 1 _).trans h2 (fun _ h => .inl h)⟩)
  obtain ⟨b0, _, b2, _⟩ := hb.c
  obtain ⟨_, _, _, _, _, _, _, _, c8, _⟩ := hj.c
  clear hb hj hR hC h1 h2
  go_enter Tryd.func55, Tryd.ntmps55
  go_wp2
  go_region
  all_goals
    go_wp2
    refine bodyPost_ret (results_none rfl _ _ _) rfl ?_
    exact ⟨⟨_, rfl⟩, HF.out⟩
end Go.Proofs.YtleeedjpccooaaaDoor
namespace Go.Proofs.YtleeedjpccooaaaDoor
open Go.RowKit Go.Shelf
/-- What reachFrom asks of the world, whatever the set holds. -/
structure Rch (V : World) (B J G N cR sy most outs GS nS cS st GO nO cO o cE cP : Nat) (nE : Nat) (aE aP : Option Addr) (f fo op : Nat → Bool) (FO : List (List (Nat × Nat))) (vTe vNu vNx vOu vO vF vE vL vM vZ vC vS vA : Value) : Prop where
  b : Bb V B J (.slice (some ⟨GO, 0, none⟩) nO cO) (.slice (some ⟨G, 0, none⟩) N cR) vTe vNu (.slice (some ⟨GS, 0, none⟩) nS cS) most outs vNx vOu
  j : Jb V J sy vO vF vE vL vM vZ (.slice aP N cP) vC vS vA
  s : V.cell? ⟨GS, st, none⟩ = some (.string ⟨(leB o 4 ++ encW f N).toArray⟩)
  o2 : V.cell? ⟨GO, o * 2, none⟩ = some (.string ⟨(encW fo N).toArray⟩)
  o3 : V.cell? ⟨GO, o * 2 + 1, none⟩ = some (.slice aE nE cE)
  r : RwW V vF vE FO
  t : TabAt 11 Lib.deBruijn64tab V
  p : ∃ lo', OwnU V lo' (.slice aP N cP) N op
set_option maxRecDepth 10000 in
set_option maxHeartbeats 3200000 in
theorem reach_any (B J G N cR lo sy most outs GS nS cS st GO nO cO o cE cP : Nat) (nE : Nat) (aE aP : Option Addr) (h f fo op : Nat → Bool) (FO : List (List (Nat × Nat))) (vTe vNu vNx vOu vO vF vE vL vM vZ vC vS vA : Value) (w : World)
    (hall : ∀ V : World, Only w V (fun k => k = G) → Rch V B J G N cR sy most outs GS nS cS st GO nO cO o cE cP nE aE aP f fo op FO vTe vNu vNx vOu vO vF vE vL vM vZ vC vS vA) (hR : OwnU w lo (.slice (some ⟨G, 0, none⟩) N cR) N h)
    (hN : N ≤ 1000000) (hfo : ∀ r ∈ FO, ∀ x ∈ r, x.1 < N ∧ x.2 < 18446744073709551616) (hff : ∀ q, f q = true → q < FO.length) (hfg : ∀ q, fo q = true → q < FO.length) (hl1 : FO.flatten.length ≤ 1000000000) (hl2 : FO.length ≤ 1000000000) (hst : st < nS) (hst0 : 0 < st) (_hnS : nS ≤ 100000000) (ho : o < nO) (hnO : nO ≤ 100000000) :
    Calls Tryd.prog 55 #[.pointer (some ⟨B, 0, none⟩), .int .i64 (st : Int)] w fun e w' => (∃ v, e = .returned v) ∧ OwnU w' lo (.slice (some ⟨G, 0, none⟩) N cR) N (anF (accF (accF (fun _ => false) FO (plB fo (64 * N))) FO (plB f (64 * N))) op N) ∧ Only w w' (fun k => k = G) := by
  have HA := hid0 hall
  obtain ⟨H1, hH1⟩ : ∃ H1, H1 = accF (fun _ => false) FO (plB fo (64 * N)) := ⟨_, rfl⟩
  obtain ⟨H2, hH2⟩ : ∃ H2, H2 = accF H1 FO (plB f (64 * N)) := ⟨_, rfl⟩
  have HFo : Hid (∀ (V : World) (h' f' : Nat → Bool), Only w V (fun k => k = G) → OwnU V lo (.slice (some ⟨G, 0, none⟩) N cR) N h' → (∀ q, f' q = true → q < FO.length) → Calls Tryd.prog 74 #[.pointer (some ⟨J, 0, none⟩), .slice (some ⟨G, 0, none⟩) N cR, .string ⟨(encW f' N).toArray⟩] V fun e w' => (∃ v, e = .returned v) ∧ OwnU w' lo (.slice (some ⟨G, 0, none⟩) N cR) N (accF h' FO (plB f' (64 * N))) ∧ Only V w' (fun k => k = G)) := hid0 (fun V h' f' hV hU hf' => follows_any J G N cR lo f' h' FO vF vE V hN hU (fun X hX => by
      have q := HA.out X (hV.trans hX (fun _ h => .inl h))
      exact ⟨q.j.c.2.2.1, q.j.c.2.2.2.1, q.r, q.t⟩) hfo hf' hl1 hl2)
  have HG1 := hid0 hfg
  have HG2 := hid0 hff
  rw [← hH1, ← hH2]
  obtain ⟨w1, hcl, hu1, ho1⟩ := clear_own hR
  have HU1 := hid0 hu1
  have HO1 := hid0 ho1
  have q0 := hall w (Only.refl _ _)
  have q1 := hall w1 ho1
  have b2 := q0.b.c.2.2.1
  have b5 := q1.b.c.2.2.2.2.2.1
  have bs := q1.s
  have HRe := hid0 (read_any B GO nO cO o nE cE aE (encW fo N) (encW f N) w1 q1.b.c.2.1 q1.o2 q1.o3 ho hnO (by have := encW_len f N; omega))
  have HH := hid0 (show H1 = accF (fun _ => false) FO (plB fo (64 * N)) ∧ H2 = accF H1 FO (plB f (64 * N)) from ⟨hH1, hH2⟩)
  obtain ⟨tB, htB⟩ : ∃ tB : ByteArray, tB = ⟨(leB o 4 ++ encW f N).toArray⟩ := ⟨_, rfl⟩
  obtain ⟨rB, hrB⟩ : ∃ rB : ByteArray, rB = ⟨(encW f N).toArray⟩ := ⟨_, rfl⟩
  obtain ⟨pB, hpB⟩ : ∃ pB : ByteArray, pB = ⟨(encW fo N).toArray⟩ := ⟨_, rfl⟩
  rw [← htB] at bs
  rw [← htB, ← hrB, ← hpB] at HRe
  have HrB := hid0 hrB
  have HpB := hid0 hpB
  have hstI : (st : Int) < (nS : Int) := by omega
  have hstI0 : (0 : Int) ≤ (st : Int) := by omega
  have hst1 : ((st : Int) == 0) = false := by rw [beq_eq_false_iff_ne]; omega
  clear hall hR hfo hff hfg hl1 hl2 hu1 ho1 q0 q1 hH1 hH2 htB hrB hpB hst hst0
  go_enter Tryd.func55, Tryd.ntmps55
  go_upto_region 4 with (go_at_call 73; go_loud ((refine HRe.out.mono ?_; rintro e w2 ⟨rfl, hb2⟩; have HB2 := hid0 hb2; clear hb2)))
  obtain ⟨w3, hw3⟩ : ∃ w3, w3 = w2.alloc (.cells #[.string pB, .slice aE nE cE] 103) := ⟨_, rfl⟩
  have hr3 : w3.heap[w2.heap.size]? = some (.cells #[.string pB, .slice aE nE cE] 103 (0, 0)) := by rw [hw3]; exact heap_alloc_new w2 _
  have hb3 : Below w1.heap.size w1 w3 := Below.later HB2.out (by rw [hw3]; exact (Below.refl _ _).alloc (Nat.le_refl _) _)
  have HO3 : Hid (Only w w3 (fun k => k = G)) := hid0 (HO1.out.trans (Only.ofNew hb3 (fun k => k = G)) (fun _ h => .inl h))
  have HU3 : Hid (OwnU w3 lo (.slice (some ⟨G, 0, none⟩) N cR) N (fun _ => false)) := hid0 (HU1.out.past hb3)
  have hGl : G < w2.heap.size := Nat.lt_of_lt_of_le (World.ownsRow.lt HU1.out G rfl).2 HB2.out.size
  have HX : Hid (∀ V : World, Only w3 V (fun k => k = G) → V.cell? ⟨B, 0, none⟩ = some (.pointer (some ⟨J, 0, none⟩)) ∧ V.cell? ⟨B, 2, none⟩ = some (.slice (some ⟨G, 0, none⟩) N cR) ∧ V.cell? ⟨w2.heap.size, 0, none⟩ = some (.string pB)) := hid0 (fun V hV => by
    have q := HA.out V (HO3.out.trans hV (fun _ h => .inl h))
    have hq : V.heap[w2.heap.size]? = _ := (hV.block _ (Array.getElem?_eq_some_iff.1 hr3).1 (by omega)).trans hr3
    exact ⟨q.b.c.1, q.b.c.2.2.1, by rw [cell_of_row _ _ _ _ _ _ hq]; rfl⟩)
  have HF4 : Hid (Calls Tryd.prog 74 #[.pointer (some ⟨J, 0, none⟩), .slice (some ⟨G, 0, none⟩) N cR, .string pB] w3.drew fun e w' => (∃ v, e = .returned v) ∧ Hid (OwnU w' lo (.slice (some ⟨G, 0, none⟩) N cR) N H1) ∧ Hid (Only w3 w' (fun k => k = G))) := hid0 (by
    rw [HpB.out, HH.out.1]
    exact (HFo.out w3.drew _ fo (HO3.out.trans (Only.drewN w3 1 _) (fun _ h => .inl h)) (HU3.out.kept rfl) HG1.out).mono (fun e w' ⟨h1, h2, h3⟩ => ⟨h1, hid0 h2, hid0 ((Only.drewN w3 1 _).trans h3 (fun _ h => .inl h))⟩))
  have HF5 : Hid (∀ V : World, Only w3 V (fun k => k = G) → OwnU V lo (.slice (some ⟨G, 0, none⟩) N cR) N H1 → Calls Tryd.prog 74 #[.pointer (some ⟨J, 0, none⟩), .slice (some ⟨G, 0, none⟩) N cR, .string rB] V.drew fun e w' => (∃ v, e = .returned v) ∧ Hid (OwnU w' lo (.slice (some ⟨G, 0, none⟩) N cR) N H2) ∧ Hid (Only w3 w' (fun k => k = G))) := hid0 (fun V hV hU => by
    rw [HrB.out, HH.out.2]
    exact (HFo.out V.drew _ f ((HO3.out.trans hV (fun _ h => .inl h)).trans (Only.drewN V 1 _) (fun _ h => .inl h)) (hU.kept rfl) HG2.out).mono (fun e w' ⟨h1, h2, h3⟩ => ⟨h1, hid0 h2, hid0 (hV.trans ((Only.drewN V 1 _).trans h3 (fun _ h => .inl h)) (fun _ h => .inl h))⟩))
  have q3 := hw3.symm
  obtain ⟨s0, s1, s2⟩ := HX.out w3 (Only.refl _ _)
  clear hw3 hr3 hb3 HU3 hGl HRe HU1 HO1 HG1 HG2 HFo HB2 b2 b5 bs hcl
  rw [q3]
  go_region_held3 (fun V => V.cell? ⟨B, 0, none⟩ = some (.pointer (some ⟨J, 0, none⟩)) ∧ V.cell? ⟨B, 2, none⟩ = some (.slice (some ⟨G, 0, none⟩) N cR) ∧ V.cell? ⟨w2.heap.size, 0, none⟩ = some (.string pB)) (first | exact HX.out _ (Only.refl _ _) | exact HX.out _ (Only.drewN _ 1 _) | assumption)
    (first
      | (go_at_call 74; refine HF4.out.mono ?_; rintro e w4 ⟨⟨v4, rfl⟩, H4, HO4⟩; have hs4 := HX.out _ HO4.out))
  clear s0 s1 s2 HF4 q3
  have HD4 := hid0 (HX.out _ (HO4.out.trans (Only.drewN w4 1 _) (fun _ h => .inl h)))
  have HC5 := hid0 (HF5.out w4 HO4.out H4.out)
  obtain ⟨s0, s1, s2⟩ := hs4
  go_wp2
  clear HF5 H4
  go_region_held3 (fun V => V.cell? ⟨B, 0, none⟩ = some (.pointer (some ⟨J, 0, none⟩)) ∧ V.cell? ⟨B, 2, none⟩ = some (.slice (some ⟨G, 0, none⟩) N cR) ∧ V.cell? ⟨w2.heap.size, 0, none⟩ = some (.string pB)) (first | exact HX.out _ HO4.out | exact HD4.out | assumption)
    (first
      | (go_at_call 74; refine HC5.out.mono ?_; rintro e w5 ⟨⟨v5, rfl⟩, H5, HO5⟩; have hs5 := HX.out _ HO5.out))
  have HO6 : Hid (Only w w5 (fun k => k = G)) := hid0 (HO3.out.trans HO5.out (fun _ h => .inl h))
  clear s0 s1 s2 HC5 HD4 HX HO3 HO4 HO5 hs5
  have q5 := HA.out w5 HO6.out
  have s0 := q5.b.c.1
  have s7 := q5.j.c.2.2.2.2.2.2.2.1
  have hNI : (N : Int) ≤ 1000000 := by omega
  clear q5
  go_wp2
  go_loopw [67] (fun i wr => ∃ k : Nat, k ≤ N ∧ i = .int .i64 (k : Int) ∧ Hid (OwnU wr lo (.slice (some ⟨G, 0, none⟩) N cR) N (anF H2 op k)) ∧ Hid (Only w wr (fun k => k = G))) (fun i _ => N - (intOf i).toNat)
  case atStart => exact ⟨0, Nat.zero_le _, rfl, hid0 (by rw [anF_zero]; exact H5.out), HO6⟩
  case round =>
    obtain ⟨k, hk, rfl, HK, HW⟩ := hrel
    have q := HA.out wr HW.out
    have b2 := q.b.c.2.2.1
    by_cases hkl : k < N
    · obtain ⟨lp, hp⟩ := q.p
      obtain ⟨gp, cp, ep, _, _, p0, _⟩ := hp.at' hkl
      have ep2 : aP = some ⟨gp, 0, none⟩ := by injection ep
      subst ep2
      obtain ⟨g', c', e', _, _, k0, k1⟩ := HK.out.at' hkl
      cases e'
      obtain ⟨x, hx⟩ : ∃ x : Nat, x = wordOf (anF H2 op k) k := ⟨_, rfl⟩
      obtain ⟨y, hy⟩ : ∃ y : Nat, y = wordOf op k := ⟨_, rfl⟩
      obtain ⟨z, hz⟩ : ∃ z : Nat, z = wordOf (anF H2 op (k + 1)) k := ⟨_, rfl⟩
      have hbits : bits .andNot .u64 (x : Int) (y : Int) = (z : Int) := by rw [hx, hy, hz, u64_andNot_nat _ _ (wordOf_lt _ _) (wordOf_lt _ _), word_andn]
      have hP := HK.out.put hkl (fun i hi => word_andn_other H2 op k i hi)
      rw [← hz] at hP
      have HN1 : Hid (OwnU (wr.setCell ⟨G, k, none⟩ (.int .u64 (z : Int))) lo (.slice (some ⟨G, 0, none⟩) N cR) N (anF H2 op (k + 1)) ∧ Only w (wr.setCell ⟨G, k, none⟩ (.int .u64 (z : Int))) (fun k => k = G)) := hid0 ⟨hP, HW.out.trans (Only.setCell wr G k _) (fun _ h => .inl h)⟩
      rw [← hx] at k0
      rw [← hy] at p0
      have hkI : (k : Int) < (N : Int) := by omega
      have hkI0 : (0 : Int) ≤ (k : Int) := by omega
      clear hP hx hy hz HK hp q ep
      go_wp2
      go_roundw
      case rel => exact ⟨k + 1, by omega, by go_num, hid0 HN1.out.1, hid0 HN1.out.2⟩
      case measure => simp [intOf]; omega
    · obtain rfl : k = N := by omega
      clear q
      go_wp2
      go_end0
      exact ⟨⟨_, rfl⟩, HK.out, HW.out⟩
end Go.Proofs.YtleeedjpccooaaaDoor
namespace Go.Proofs.YtleeedjpccooaaaDoor
open Go.RowKit
theorem step_append_own_at {P : Program} {ops : Array Oper} {o : Oper} {a : Act} {w : World} {K : Act → World → Prop} {Q : Exit → Act → World → Prop} {E : Prop} (hg : o.guard = none) (s x : Operand) (t : TypeId)
    (ho : o.op = .call { callee := .builtin .append, args := #[s, x], argTypes := #[t, t] })
    (base : Nat) (e : TypeId) (i : TypeInfo) (z : Value) (size bytes : Nat) (ht : P.underlying t = some (.slice e)) (hi : P.info? e = some i) (hz : i.zero = some z)
    (hsize : i.size = size) (hby : i.bytes = bytes) (hzs : z.cells.size = size) (hsz : 0 < size)
    (v : Value) (n : Nat) (xs : List Value) (hs : a.eval s = v) (hown : w.ownsRow base e size v n xs)
    (ad : Addr) (m c : Nat) (news : List Value) (hx : a.eval x = .slice (some ad) m c) (hl : news.length = m * size) (hnews : ∀ j u, news[j]? = some u → w.cell? (ad.add j) = some u) (h1 : ∀ u ∈ news, u.oneCell' = true)
    (h63 : n + m ≤ maxLen) (hbytes : (n + m) * bytes ≤ 140737488355328) (hbase : base ≤ w.heap.size)
    (h : ∀ v' w', w'.ownsRow base e size v' (n + m) (xs ++ news) → w.grownBy w' v.ownBlock → (v'.ownBlock = v.ownBlock ∨ v'.ownBlock = some w.heap.size) → K (a.put o.dst v') w') :
    if Region.wanted o (yielded ops a.tmps) = true then Oper.wp P o a w K Q else E := by
  have hw : Region.wanted o (yielded ops a.tmps) = true := by simp [Region.wanted, hg]
  rw [if_pos hw]
  obtain ⟨v', w', hr, h2, h3, _, h5⟩ := run_append_own_at (P := P) w base t o.type e i z size bytes ht hi hz hsize hby hzs hsz v n xs hown ad m c news hl hnews h1 h63 hbytes hbase
  unfold Oper.wp execOp
  simp only [ho, resolve, invoke, builtin, Sem.run_bind, Sem.run_pure, Result.andThen_ok, List.map_toArray, List.map_cons, List.map_nil, hs, hx, hr]
  exact h v' w' h2 h3 h5
end Go.Proofs.YtleeedjpccooaaaDoor
namespace Go.Proofs.YtleeedjpccooaaaDoor
open Go.RowKit Go.Shelf
theorem infoInt1 : (Tryd.prog.info? 3).map (fun i => (i.zero, i.size, i.bytes)) = some (some (.int .i64 0), 1, 8) := by kernel_rfl
theorem nI_len1 (L : List Nat) (n : Nat) : (nI L ++ nI [n]).length = L.length + 1 := by rw [List.length_append, nI_len, nI_len]; rfl
theorem Jb.setE {W : World} {J sy : Nat} {vO vF vE vL vM vZ vP vC vS vA : Value} (h : Jb W J sy vO vF vE vL vM vZ vP vC vS vA) (v : Value) : Jb (W.setCell ⟨J, 3, none⟩ v) J sy vO vF v vL vM vZ vP vC vS vA := ⟨heap_setCell_same W _ 3 _ _ _ h.r⟩
set_option maxRecDepth 10000 in
set_option maxHeartbeats 1600000 in
theorem endW_any (J sy lo n cI cE : Nat) (L : List Nat) (aI aE : Option Addr) (vO vL vM vZ vP vC vS vA : Value) (w : World) (hj : Jb w J sy vO (.slice aI n cI) (.slice aE L.length cE) vL vM vZ vP vC vS vA) (ho : OwnI w lo (.slice aE L.length cE) (nI L)) (hlo : lo ≤ w.heap.size) (_hn : n ≤ 1000000000) (hL : L.length ≤ 1000000000) :
    Calls Tryd.prog 71 #[.pointer (some ⟨J, 2, none⟩)] w fun e w' => (∃ v, e = .returned v) ∧ ∃ v', Jb w' J sy vO (.slice aI n cI) v' vL vM vZ vP vC vS vA ∧ OwnI w' lo v' (nI (L ++ [n])) ∧ Only w w' (fun k => k = J ∨ (Value.slice aE L.length cE).ownBlock = some k) ∧ (∀ k, v'.ownBlock = some k → (Value.slice aE L.length cE).ownBlock = some k ∨ w.heap.size ≤ k) := by
  obtain ⟨i0, hi, hz⟩ := Option.map_eq_some_iff.1 infoInt1
  simp only [Prod.mk.injEq] at hz
  obtain ⟨hz0, hz1, hz2⟩ := hz
  have hlen := nI_len L
  have hown : w.drew.ownsRow lo 3 1 (.slice aE L.length cE) L.length ((nI L).map (Value.int .i64)) := by
    have h := own_blk (W' := w.drew) ho (fun _ _ => rfl)
    rw [hlen] at h
    exact h
  have hjd : Jb w.drew J sy vO (.slice aI n cI) (.slice aE L.length cE) vL vM vZ vP vC vS vA := ⟨hj.r⟩
  have HNx : Hid (∀ (v' : Value) (w2 : World), w2.ownsRow lo 3 1 v' (L.length + 1) ((nI L).map (Value.int .i64) ++ [.int .i64 (n : Int)]) → (w.drew.alloc (.cells #[.int .i64 (n : Int)] 3)).grownBy w2 (Value.slice aE L.length cE).ownBlock → (v'.ownBlock = (Value.slice aE L.length cE).ownBlock ∨ v'.ownBlock = some (w.drew.alloc (.cells #[.int .i64 (n : Int)] 3)).heap.size) → Jb w2 J sy vO (.slice aI n cI) (.slice aE L.length cE) vL vM vZ vP vC vS vA ∧ Jb (w2.setCell ⟨J, 3, none⟩ v') J sy vO (.slice aI n cI) v' vL vM vZ vP vC vS vA ∧ OwnI (w2.setCell ⟨J, 3, none⟩ v') lo v' (nI (L ++ [n])) ∧ Only w (w2.setCell ⟨J, 3, none⟩ v') (fun k => k = J ∨ (Value.slice aE L.length cE).ownBlock = some k) ∧ (∀ k, v'.ownBlock = some k → (Value.slice aE L.length cE).ownBlock = some k ∨ w.heap.size ≤ k)) := hid0 (fun v' w2 h1 h2 h3 => by
    have g := apG_one (xs := (nI L).map (Value.int .i64)) (by rw [List.length_map, hlen]; exact h1) h2 h3
    have m1 := own_ne_blk hown hjd.r (by decide)
    have j2 : Jb w2 J sy vO (.slice aI n cI) (.slice aE L.length cE) vL vM vZ vP vC vS vA := ⟨(g.frm.block _ (Array.getElem?_eq_some_iff.1 hjd.r).1 m1).trans hjd.r⟩
    have m2 := own_ne_blk g.own j2.r (by decide)
    have hO := Only.setCell w2 J 3 v'
    refine ⟨j2, j2.setE v', ?_, (((Only.drewN w 1 _).trans g.frm (fun _ h => .inl (.inr h))).trans hO (fun _ h => .inl (.inl h))), fun k hk => g.at' k hk⟩
    have h4 := own_blk (W' := w2.setCell ⟨J, 3, none⟩ v') g.own (fun k hk => hO.block k (World.ownsRow.lt g.own k hk).2 (fun e => m2 (e ▸ hk)))
    unfold OwnI
    rw [nI_app, List.map_append, nI_len1]
    simpa [nI] using h4)
  obtain ⟨vB, hvB⟩ : ∃ vB, vB = w.drew.alloc (.cells #[.int .i64 (n : Int)] 3) := ⟨_, rfl⟩
  have HOw : Hid (vB.ownsRow lo 3 1 (.slice aE L.length cE) L.length ((nI L).map (Value.int .i64))) := hid0 (by rw [hvB]; exact World.ownsRow.alloc hown _)
  have HNw : Hid (∀ j u, [Value.int .i64 (n : Int)][j]? = some u → vB.cell? ((⟨w.heap.size, 0, none⟩ : Addr).add j) = some u) := hid0 (by rw [hvB]; exact cell_one_new _ _ _)
  have HLw : Hid (lo ≤ vB.heap.size) := hid0 (by rw [hvB]; simp; omega)
  have hjB : Jb vB J sy vO (.slice aI n cI) (.slice aE L.length cE) vL vM vZ vP vC vS vA := by rw [hvB]; exact hjd.past ((Below.refl _ _).alloc (Nat.le_refl _) _)
  have d0 : w.cell? ⟨J, 2, none⟩ = some (.slice aI n cI) := by rw [cell_of_row _ _ _ _ _ _ hj.r]; rfl
  have d1 : w.cell? ⟨J, 3, none⟩ = some (.slice aE L.length cE) := by rw [cell_of_row _ _ _ _ _ _ hj.r]; rfl
  have dB0 : vB.cell? ⟨J, 2, none⟩ = some (.slice aI n cI) := by rw [cell_of_row _ _ _ _ _ _ hjB.r]; rfl
  have dB1 : vB.cell? ⟨J, 3, none⟩ = some (.slice aE L.length cE) := by rw [cell_of_row _ _ _ _ _ _ hjB.r]; rfl
  rw [← hvB] at HNx
  have gB := hvB.symm
  clear hvB hjB hj hjd ho hown
  go_enter Tryd.func71, Tryd.ntmps71
  go_wp2
  go_region_law ((refine step_append_own_at (by rfl) _ _ 34 (by rfl) lo 3 i0 _ 1 8 Tryd.underlying34 hi hz0 hz1 hz2 rfl (by decide) (.slice aE L.length cE) L.length ((nI L).map (Value.int .i64)) (by rfl) HOw.out ⟨w.heap.size, 0, none⟩ 1 1 [.int .i64 (n : Int)] (by rfl) (by rfl) HNw.out (by simp [Value.oneCell']) (by unfold maxLen; omega) (by omega) HLw.out ?_; intro v' w2 h1 h2 h3; obtain ⟨a2, c2, rfl⟩ := own_sl h1; have R := hid0 (HNx.out _ _ h1 ⟨h2.os, h2.tape, h2.output, h2.size, h2.block⟩ h3); clear h1 h2 h3; have t1 : w2.cell? ⟨J, 3, none⟩ = some (.slice aE L.length cE) := (by rw [cell_of_row _ _ _ _ _ _ R.out.1.r]; rfl); have t2 : w2.frozen? ⟨J, 3, none⟩ = false := (by simp [World.frozen?, R.out.1.r])))
  all_goals
    go_wp2
    go_end0
    exact ⟨⟨_, rfl⟩, _, R.out.2⟩
theorem Jb.setM {W : World} {J sy : Nat} {vO vF vE vL vM vZ vP vC vS vA : Value} (h : Jb W J sy vO vF vE vL vM vZ vP vC vS vA) (v : Value) : Jb (W.setCell ⟨J, 5, none⟩ v) J sy vO vF vE vL v vZ vP vC vS vA := ⟨heap_setCell_same W _ 5 _ _ _ h.r⟩
set_option maxRecDepth 10000 in
set_option maxHeartbeats 1600000 in
theorem endL_any (J sy lo n cI cE : Nat) (L : List Nat) (aI aE : Option Addr) (vO vF vE vZ vP vC vS vA : Value) (w : World) (hj : Jb w J sy vO vF vE (.slice aI n cI) (.slice aE L.length cE) vZ vP vC vS vA) (ho : OwnI w lo (.slice aE L.length cE) (nI L)) (hlo : lo ≤ w.heap.size) (_hn : n ≤ 1000000000) (hL : L.length ≤ 1000000000) :
    Calls Tryd.prog 72 #[.pointer (some ⟨J, 4, none⟩)] w fun e w' => (∃ v, e = .returned v) ∧ ∃ v', Jb w' J sy vO vF vE (.slice aI n cI) v' vZ vP vC vS vA ∧ OwnI w' lo v' (nI (L ++ [n])) ∧ Only w w' (fun k => k = J ∨ (Value.slice aE L.length cE).ownBlock = some k) ∧ (∀ k, v'.ownBlock = some k → (Value.slice aE L.length cE).ownBlock = some k ∨ w.heap.size ≤ k) := by
  obtain ⟨i0, hi, hz⟩ := Option.map_eq_some_iff.1 infoInt1
  simp only [Prod.mk.injEq] at hz
  obtain ⟨hz0, hz1, hz2⟩ := hz
  have hlen := nI_len L
  have hown : w.drew.ownsRow lo 3 1 (.slice aE L.length cE) L.length ((nI L).map (Value.int .i64)) := by
    have h := own_blk (W' := w.drew) ho (fun _ _ => rfl)
    rw [hlen] at h
    exact h
  have hjd : Jb w.drew J sy vO vF vE (.slice aI n cI) (.slice aE L.length cE) vZ vP vC vS vA := ⟨hj.r⟩
  have HNx : Hid (∀ (v' : Value) (w2 : World), w2.ownsRow lo 3 1 v' (L.length + 1) ((nI L).map (Value.int .i64) ++ [.int .i64 (n : Int)]) → (w.drew.alloc (.cells #[.int .i64 (n : Int)] 3)).grownBy w2 (Value.slice aE L.length cE).ownBlock → (v'.ownBlock = (Value.slice aE L.length cE).ownBlock ∨ v'.ownBlock = some (w.drew.alloc (.cells #[.int .i64 (n : Int)] 3)).heap.size) → Jb w2 J sy vO vF vE (.slice aI n cI) (.slice aE L.length cE) vZ vP vC vS vA ∧ Jb (w2.setCell ⟨J, 5, none⟩ v') J sy vO vF vE (.slice aI n cI) v' vZ vP vC vS vA ∧ OwnI (w2.setCell ⟨J, 5, none⟩ v') lo v' (nI (L ++ [n])) ∧ Only w (w2.setCell ⟨J, 5, none⟩ v') (fun k => k = J ∨ (Value.slice aE L.length cE).ownBlock = some k) ∧ (∀ k, v'.ownBlock = some k → (Value.slice aE L.length cE).ownBlock = some k ∨ w.heap.size ≤ k)) := hid0 (fun v' w2 h1 h2 h3 => by
    have g := apG_one (xs := (nI L).map (Value.int .i64)) (by rw [List.length_map, hlen]; exact h1) h2 h3
    have m1 := own_ne_blk hown hjd.r (by decide)
    have j2 : Jb w2 J sy vO vF vE (.slice aI n cI) (.slice aE L.length cE) vZ vP vC vS vA := ⟨(g.frm.block _ (Array.getElem?_eq_some_iff.1 hjd.r).1 m1).trans hjd.r⟩
    have m2 := own_ne_blk g.own j2.r (by decide)
    have hO := Only.setCell w2 J 5 v'
    refine ⟨j2, j2.setM v', ?_, (((Only.drewN w 1 _).trans g.frm (fun _ h => .inl (.inr h))).trans hO (fun _ h => .inl (.inl h))), fun k hk => g.at' k hk⟩
    have h4 := own_blk (W' := w2.setCell ⟨J, 5, none⟩ v') g.own (fun k hk => hO.block k (World.ownsRow.lt g.own k hk).2 (fun e => m2 (e ▸ hk)))
    unfold OwnI
    rw [nI_app, List.map_append, nI_len1]
    simpa [nI] using h4)
  obtain ⟨vB, hvB⟩ : ∃ vB, vB = w.drew.alloc (.cells #[.int .i64 (n : Int)] 3) := ⟨_, rfl⟩
  have HOw : Hid (vB.ownsRow lo 3 1 (.slice aE L.length cE) L.length ((nI L).map (Value.int .i64))) := hid0 (by rw [hvB]; exact World.ownsRow.alloc hown _)
  have HNw : Hid (∀ j u, [Value.int .i64 (n : Int)][j]? = some u → vB.cell? ((⟨w.heap.size, 0, none⟩ : Addr).add j) = some u) := hid0 (by rw [hvB]; exact cell_one_new _ _ _)
  have HLw : Hid (lo ≤ vB.heap.size) := hid0 (by rw [hvB]; simp; omega)
  have hjB : Jb vB J sy vO vF vE (.slice aI n cI) (.slice aE L.length cE) vZ vP vC vS vA := by rw [hvB]; exact hjd.past ((Below.refl _ _).alloc (Nat.le_refl _) _)
  have d0 : w.cell? ⟨J, 4, none⟩ = some (.slice aI n cI) := by rw [cell_of_row _ _ _ _ _ _ hj.r]; rfl
  have d1 : w.cell? ⟨J, 5, none⟩ = some (.slice aE L.length cE) := by rw [cell_of_row _ _ _ _ _ _ hj.r]; rfl
  have dB0 : vB.cell? ⟨J, 4, none⟩ = some (.slice aI n cI) := by rw [cell_of_row _ _ _ _ _ _ hjB.r]; rfl
  have dB1 : vB.cell? ⟨J, 5, none⟩ = some (.slice aE L.length cE) := by rw [cell_of_row _ _ _ _ _ _ hjB.r]; rfl
  rw [← hvB] at HNx
  have gB := hvB.symm
  clear hvB hjB hj hjd ho hown
  go_enter Tryd.func72, Tryd.ntmps72
  go_wp2
  go_region_law ((refine step_append_own_at (by rfl) _ _ 34 (by rfl) lo 3 i0 _ 1 8 Tryd.underlying34 hi hz0 hz1 hz2 rfl (by decide) (.slice aE L.length cE) L.length ((nI L).map (Value.int .i64)) (by rfl) HOw.out ⟨w.heap.size, 0, none⟩ 1 1 [.int .i64 (n : Int)] (by rfl) (by rfl) HNw.out (by simp [Value.oneCell']) (by unfold maxLen; omega) (by omega) HLw.out ?_; intro v' w2 h1 h2 h3; obtain ⟨a2, c2, rfl⟩ := own_sl h1; have R := hid0 (HNx.out _ _ h1 ⟨h2.os, h2.tape, h2.output, h2.size, h2.block⟩ h3); clear h1 h2 h3; have t1 : w2.cell? ⟨J, 5, none⟩ = some (.slice aE L.length cE) := (by rw [cell_of_row _ _ _ _ _ _ R.out.1.r]; rfl); have t2 : w2.frozen? ⟨J, 5, none⟩ = false := (by simp [World.frozen?, R.out.1.r])))
  all_goals
    go_wp2
    go_end0
    exact ⟨⟨_, rfl⟩, _, R.out.2⟩
end Go.Proofs.YtleeedjpccooaaaDoor
