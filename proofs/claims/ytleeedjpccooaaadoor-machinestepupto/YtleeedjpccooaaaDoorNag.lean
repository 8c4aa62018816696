/-
  MbLW, MbMM, MbMW, MbNW, MbOW, PlMM, PlFaM, PlMpM, PlFbW, PlEdW, PlYW, PlGbM, PlGcM, PlGdM, PlHaM, PlRM.
-/
import Derived.Test.YtleeedjpccooaaaDoorNaf
import Derived.BigRegion
import Derived.Test.YtleeedjpccooaaaDoorNaa
import Derived.Maps.OwnSet
import Derived.Maps.OwnOps
import Derived.Test.YtleeedjpccooaaaDoorNac
import Derived.Laws.CopyRow
import Derived.Test.YtleeedjpccooaaaDoorNab
import Derived.Deep.RegionLaw
namespace Go.Proofs.YtleeedjpccooaaaDoor
open Go.RowKit Go.Shelf
/-- Places put into a set. -/
def setL (R : Nat → Bool) (base : Nat) (L : List Nat) : Nat → Bool := fun q => L.any (fun p => decide (q = base + p)) || R q
theorem setL_nil (R : Nat → Bool) (base : Nat) : setL R base [] = R := by funext q; simp [setL]
theorem setL_take (R : Nat → Bool) (base : Nat) {L : List Nat} {k : Nat} (hk : k < L.length) : setL R base (L.take (k + 1)) = fun q => decide (q = base + L[k]) || setL R base (L.take k) q := by
  funext q
  unfold setL
  rw [List.take_add_one, List.getElem?_eq_getElem hk, Option.toList_some, List.any_append]
  simp only [List.any_cons, List.any_nil, Bool.or_false]
  rw [Bool.or_right_comm, Bool.or_comm]
theorem OwnU.add {W : World} {base g n c p : Nat} {h : Nat → Bool} (ho : OwnU W base (.slice (some ⟨g, 0, none⟩) n c) n h) (ha : p / 64 < n) : OwnU (W.setCell ⟨g, p / 64, none⟩ (.int .u64 (wordOf (fun q => decide (q = p) || h q) (p / 64) : Int))) base (.slice (some ⟨g, 0, none⟩) n c) n (fun q => decide (q = p) || h q) := by
  have h1 := (World.ownsRow.stored ho (p / 64) (.int .u64 (wordOf (fun q => decide (q = p) || h q) (p / 64) : Int))).1
  have e : (wdV h n).set (p / 64) (.int .u64 (wordOf (fun q => decide (q = p) || h q) (p / 64) : Int)) = wdV (fun q => decide (q = p) || h q) n := by
    apply List.ext_getElem?
    intro i
    by_cases hi : i < n
    · by_cases hia : p / 64 = i
      · subst hia
        rw [List.getElem?_set_self (by rw [wdV_len]; exact ha), wdV_at _ ha]
      · rw [List.getElem?_set_ne hia, wdV_at _ hi, wdV_at _ hi, word_other h p i (fun e => hia e.symm)]
    · rw [List.getElem?_eq_none (by rw [List.length_set, wdV_len]; omega), List.getElem?_eq_none (by rw [wdV_len]; omega)]
  unfold OwnU
  rw [← e]
  exact h1
theorem OwnU.kept {W W' : World} {base : Nat} {v : Value} {n : Nat} {f : Nat → Bool} (h : OwnU W base v n f) (hh : W'.heap = W.heap) : OwnU W' base v n f := own_blk h (fun k _ => by rw [hh])
set_option maxRecDepth 10000 in
set_option maxHeartbeats 1600000 in
theorem addAllM_any (G N c lo base : Nat) (h : Nat → Bool) (L : List Nat) (aL : Option Addr) (cL : Nat) (w : World) (hN : N ≤ 1000000) (ho : OwnU w lo (.slice (some ⟨G, 0, none⟩) N c) N h) (hL : ∀ V : World, Only w V (fun k => k = G) → IA V aL (nI L)) (hb : ∀ p ∈ L, base + p < 64 * N) (hl : L.length ≤ 100000000) (_hbs : base ≤ 100000000) :
    Calls Tryd.prog 69 #[.slice (some ⟨G, 0, none⟩) N c, .int .i64 (base : Int), .slice aL L.length cL] w fun e w' => (∃ v, e = .returned v) ∧ OwnU w' lo (.slice (some ⟨G, 0, none⟩) N c) N (setL h base L) ∧ Only w w' (fun k => k = G) := by
  have HO := hid0 ho
  have HL := hid0 hL
  have HB := hid0 hb
  have hlI : (L.length : Int) ≤ 100000000 := by omega
  clear ho hL hb
  go_enter Tryd.func69, Tryd.ntmps69
  go_wp2
  go_loopw [10] (fun i wr => ∃ k : Nat, k ≤ L.length ∧ i = .int .i64 (k : Int) ∧ Hid (OwnU wr lo (.slice (some ⟨G, 0, none⟩) N c) N (setL h base (L.take k))) ∧ Hid (Only w wr (fun k => k = G))) (fun i _ => L.length - (intOf i).toNat)
  case atStart => exact ⟨0, Nat.zero_le _, rfl, hid0 (by rw [List.take_zero, setL_nil]; exact HO.out), hid0 (Only.refl _ _)⟩
  case round =>
    obtain ⟨k, hk, rfl, HK, HW⟩ := hrel
    by_cases hkl : k < L.length
    · obtain ⟨bl, ol, el, _, dl⟩ := (HL.out wr HW.out).at' k (by rw [nI_len]; exact hkl)
      subst el
      obtain ⟨p, hp⟩ : ∃ p : Nat, p = base + L[k] := ⟨_, rfl⟩
      obtain ⟨x, hx⟩ : ∃ x : Nat, x = L[k] := ⟨_, rfl⟩
      replace dl : wr.cell? ⟨bl, ol + k, none⟩ = some (.int .i64 (x : Int)) := by rw [dl, hx]; simp [nI]
      have hpb : p < 64 * N := by rw [hp]; exact HB.out _ (List.getElem_mem hkl)
      have hpx : (base : Int) + (x : Int) = (p : Int) := by rw [hp, hx]; omega
      obtain ⟨R, hR⟩ : ∃ R : Nat → Bool, R = setL h base (L.take k) := ⟨_, rfl⟩
      have HSt : Hid (setL h base (L.take (k + 1)) = fun q => decide (q = p) || R q) := hid0 (by rw [setL_take h base hkl, ← hp, ← hR])
      have hU : OwnU wr lo (.slice (some ⟨G, 0, none⟩) N c) N R := by rw [hR]; exact HK.out
      obtain ⟨d, hd⟩ : ∃ d : Nat, d = p / 64 := ⟨_, rfl⟩
      obtain ⟨g', c', e', _, _, k0, k1⟩ := hU.at' (i := p / 64) (by omega)
      cases e'
      obtain ⟨b, hb⟩ : ∃ b : Nat, b = 2 ^ (p % 64) := ⟨_, rfl⟩
      have hp0 : (0 : Int) ≤ (p : Int) := by omega
      have hdI : (p : Int) / 64 = (d : Int) := by omega
      have hdI1 : (d : Int) < (N : Int) := by omega
      have hdI0 : (0 : Int) ≤ (d : Int) := by omega
      have hmI : (0 : Int) ≤ (p : Int) % 64 := by omega
      have hmI2 : (p : Int) % 64 < 64 := by omega
      have hbl : b < 18446744073709551616 := by
        rw [hb]; exact Nat.lt_of_lt_of_le (Nat.pow_lt_pow_right (by omega) (Nat.mod_lt p (by omega) : p % 64 < 64)) (by decide)
      have hwb : IntKind.u64.wrap (2 ^ (p % 64)) = (b : Int) := by
        rw [hb, IntKind.wrap_u64]
        have e : (2 : Int) ^ (p % 64) = ((2 ^ (p % 64) : Nat) : Int) := by simp
        rw [e]
        rw [hb] at hbl
        omega
      obtain ⟨a, ha⟩ : ∃ a : Nat, a = wordOf R (p / 64) := ⟨_, rfl⟩
      rw [← ha] at k0
      obtain ⟨aI, haI⟩ : ∃ aI : Int, (a : Int) = aI := ⟨_, rfl⟩
      obtain ⟨bI, hbI⟩ : ∃ bI : Int, (b : Int) = bI := ⟨_, rfl⟩
      have hal : a < 18446744073709551616 := by rw [ha]; exact wordOf_lt _ _
      obtain ⟨eI, heI⟩ : ∃ eI : Int, ((a ||| b : Nat) : Int) = eI := ⟨_, rfl⟩
      have hor : bits .or .u64 aI bI = eI := by rw [← haI, ← hbI, ← heI]; exact bits_or_u64_nat a b hal hbl
      have hs2 := word_or R p
      rw [← ha, ← hb] at hs2
      have hBS := hU.add (p := p) (by omega)
      rw [← hs2, heI, ← hd] at hBS
      have HBS : Hid (∀ n, OwnU ((wr.drewN n).setCell ⟨G, d, none⟩ (.int .u64 eI)) lo (.slice (some ⟨G, 0, none⟩) N c) N (setL h base (L.take (k + 1)))) := hid0 (fun n => by rw [HSt.out]; exact hBS.kept rfl)
      have HOn : Hid (∀ n, Only w ((wr.drewN n).setCell ⟨G, d, none⟩ (.int .u64 eI)) (fun k => k = G)) := hid0 (fun n => HW.out.trans ((Only.drewN wr n _).trans (Only.setCell _ G _ _) (fun i hi => .inl hi)) (fun i hi => .inl hi))
      rw [haI, ← hd] at k0
      rw [← hd] at k1
      rw [hbI] at hwb
      have hkI : (k : Int) < (L.length : Int) := by omega
      have hkI0 : (0 : Int) ≤ (k : Int) := by omega
      have hwp : IntKind.i64.wrap (p : Int) = (p : Int) := by rw [IntKind.wrap_i64]; omega
      clear hb hd hp ha hbl haI hbI heI hal hs2 hBS hU hR hx HK HSt hpb
      go_wp2
      go_region
      all_goals
        go_wp2
        go_roundw
        case rel => exact ⟨k + 1, by omega, by go_num, hid0 (HBS.out 1), hid0 (HOn.out 1)⟩
        case measure => simp [intOf]; omega
    · obtain rfl : k = L.length := by omega
      have HF : Hid (OwnU wr lo (.slice (some ⟨G, 0, none⟩) N c) N (setL h base L)) := hid0 (by have h := HK.out; rw [List.take_length] at h; exact h)
      go_wp2
      go_end0
      exact ⟨⟨_, rfl⟩, HF.out, HW.out⟩
end Go.Proofs.YtleeedjpccooaaaDoor
namespace Go.Proofs.YtleeedjpccooaaaDoor
open Go.RowKit Go.Shelf
abbrev Lob := List (Value × List UInt8)
structure BagT (w : World) (base : Nat) (v : Value) (ps : Lob) : Prop where
  outer : w.ownsRow base 99 1 v ps.length (ps.map (·.1))
  row : ∀ x ∈ ps, OwnB w base x.1 x.2
  apart : ps.Pairwise fun x y => ∀ g, x.1.ownBlock = some g → y.1.ownBlock ≠ some g
  away : ∀ x ∈ ps, ∀ g, v.ownBlock = some g → x.1.ownBlock ≠ some g
theorem BagT.nil (w : World) (base : Nat) : BagT w base (.slice none 0 0) [] := ⟨World.ownsRow_nil _ _ _ _, by simp, List.Pairwise.nil, by simp⟩
theorem BagT.later {w w' : World} {base : Nat} {v : Value} {ps : Lob} (h : BagT w base v ps) (hb : Below w.heap.size w w') : BagT w' base v ps :=
  ⟨row_later h.outer hb, fun x hx => own_blk (h.row x hx) (fun k hk => hb.block k (World.ownsRow.lt (h.row x hx) k hk).2), h.apart, h.away⟩
/-- All lists empty. -/
theorem BagT.made {w : World} {base : Nat} {v : Value} {n : Nat} (h : w.ownsRow base 99 1 v n (List.replicate n (.slice none 0 0))) : BagT w base v (List.replicate n (.slice none 0 0, [])) := by
  refine ⟨?_, ?_, ?_, ?_⟩
  · rw [List.length_replicate, List.map_replicate]; exact h
  · intro x hx
    rw [List.eq_of_mem_replicate hx]
    exact World.ownsRow_nil _ _ _ _
  · rw [List.pairwise_replicate]
    right
    intro g hg
    cases hg
  · intro x hx g _ hxg
    rw [List.eq_of_mem_replicate hx] at hxg
    cases hxg
/-- One list is another one. -/
theorem BagT.set {W w1 : World} {base g n c : Nat} {ps : Lob} (h : BagT W base (.slice (some ⟨g, 0, none⟩) n c) ps) (hn : n = ps.length) (y : Nat) (hy : y < ps.length) {v' : Value} {l' : List UInt8}
    (hk : ∀ k, k < W.heap.size → (ps[y]).1.ownBlock ≠ some k → w1.heap[k]? = W.heap[k]?) (hv : OwnB w1 base v' l') (hnew : ∀ q, v'.ownBlock = some q → (ps[y]).1.ownBlock = some q ∨ W.heap.size ≤ q) :
    BagT (w1.setCell ⟨g, y, none⟩ v') base (.slice (some ⟨g, 0, none⟩) n c) (ps.set y (v', l')) := by
  subst hn
  have hmem : ps[y] ∈ ps := List.getElem_mem hy
  have hgl := World.ownsRow.lt h.outer g rfl
  have hvg : ∀ q, v'.ownBlock = some q → q ≠ g := fun q hq e => by
    subst e
    rcases hnew q hq with h1 | h1
    · exact h.away _ hmem q rfl h1
    · omega
  have hyg : (ps[y]).1.ownBlock ≠ some g := h.away _ hmem g rfl
  have hout1 : w1.ownsRow base 99 1 (.slice (some ⟨g, 0, none⟩) ps.length c) ps.length (ps.map (·.1)) := own_blk h.outer (fun k hk' => by
    have e : g = k := by simpa [Value.ownBlock] using hk'
    subst e
    exact hk g hgl.2 hyg)
  have hother : ∀ {t : TypeId} {size m : Nat} {u : Value} {xs : List Value}, w1.ownsRow base t size u m xs → (∀ q, u.ownBlock = some q → q ≠ g) → (w1.setCell ⟨g, y, none⟩ v').ownsRow base t size u m xs := by
    intro t size m u xs ho hne
    exact own_blk ho (fun q hq => Below.heap_setCell w1 _ _ q (hne q hq))
  refine ⟨?_, ?_, ?_, ?_⟩
  · have h1 := (World.ownsRow.stored hout1 y v').1
    rw [List.length_set, List.map_set]
    exact h1
  · intro x hx
    obtain ⟨j, hj, rfl⟩ := List.getElem_of_mem hx
    have hj2 : j < ps.length := by simpa using hj
    rw [List.getElem_set]
    split
    · exact hother hv hvg
    · rename_i hne
      have hr := h.row _ (List.getElem_mem hj2)
      refine hother (own_blk hr (fun q hq => hk q (World.ownsRow.lt hr q hq).2 ?_)) (fun q hq e => ?_)
      · intro hyq
        have := List.pairwise_iff_getElem.1 h.apart
        rcases Nat.lt_or_gt_of_ne hne with hlt | hlt
        · exact this y j hy hj2 hlt q hyq hq
        · exact this j y hj2 hy hlt q hq hyq
      · subst e
        exact h.away _ (List.getElem_mem hj2) q rfl hq
  · rw [List.pairwise_iff_getElem]
    intro i j hi hj hij q hiq hjq
    have hi2 : i < ps.length := by simpa using hi
    have hj2 : j < ps.length := by simpa using hj
    have ap := List.pairwise_iff_getElem.1 h.apart
    rw [List.getElem_set] at hiq hjq
    split at hiq
    · rename_i e
      subst e
      rw [if_neg (by omega)] at hjq
      rcases hnew q hiq with h1 | h1
      · exact ap y j hi2 hj2 hij q h1 hjq
      · have := (World.ownsRow.lt (h.row _ (List.getElem_mem hj2)) q hjq).2; omega
    · split at hjq
      · rename_i e
        subst e
        rcases hnew q hjq with h1 | h1
        · exact ap i y hi2 hj2 hij q hiq h1
        · have := (World.ownsRow.lt (h.row _ (List.getElem_mem hi2)) q hiq).2; omega
      · exact ap i j hi2 hj2 hij q hiq hjq
  · intro x hx q hq hxq
    have e : g = q := by simpa [Value.ownBlock] using hq
    subst e
    obtain ⟨j, hj, rfl⟩ := List.getElem_of_mem hx
    have hj2 : j < ps.length := by simpa using hj
    rw [List.getElem_set] at hxq
    split at hxq
    · exact hvg g hxq rfl
    · exact h.away _ (List.getElem_mem hj2) g rfl hxq
theorem BagT.cells {w : World} {base g n c : Nat} {ps : Lob} (h : BagT w base (.slice (some ⟨g, 0, none⟩) n c) ps) (hn : n = ps.length) (j : Nat) (hj : j < ps.length) : w.cell? ⟨g, j, none⟩ = some (ps[j]).1 ∧ w.frozen? ⟨g, j, none⟩ = false := by
  subst hn
  refine ⟨?_, World.ownsRow.frozenAt h.outer j⟩
  rw [World.ownsRow.cellAt h.outer j (by omega)]
  simp [hj]

/-- The letters of words of places: of each word the symbols, each once, with its places. -/
structure LtOk (N sy : Nat) (LT : List (List (Nat × Nat))) (lt : Nat → Nat → Bool) : Prop where
  len : LT.length = N
  sym : ∀ r ∈ LT, ∀ x ∈ r, x.1 < sy
  once : ∀ r ∈ LT, (r.map (·.1)).Nodup
  bits : ∀ i (h : i < LT.length), ∀ x ∈ LT[i], x.2 = wordOf (lt x.1) i
  all : ∀ i (h : i < LT.length) c, c < sy → wordOf (lt c) i ≠ 0 → c ∈ (LT[i]).map (·.1)
/-- Both at once. -/
def andB (f g : Nat → Bool) : Nat → Bool := fun q => f q && g q
theorem word_and2 (f g : Nat → Bool) (i : Nat) : wordOf f i &&& wordOf g i = wordOf (andB f g) i := word_mask f g i
/-- The text of a symbol: so many words of places, and of the next one the letters ahead of the k-th. -/
def txF (S : Nat → Bool) (lt : Nat → Nat → Bool) (old : Nat → List UInt8) (i : Nat) (r : List (Nat × Nat)) (k c : Nat) : List UInt8 :=
  old c ++ encW (andB S (lt c)) i ++ if c ∈ (r.take k).map (·.1) then wdT (andB S (lt c)) i else []
theorem txF_start (S : Nat → Bool) (lt : Nat → Nat → Bool) (old : Nat → List UInt8) (i : Nat) (r : List (Nat × Nat)) (c : Nat) : txF S lt old i r 0 c = old c ++ encW (andB S (lt c)) i := by
  unfold txF; simp
theorem txF_other {S : Nat → Bool} {lt : Nat → Nat → Bool} {old : Nat → List UInt8} {i : Nat} {r : List (Nat × Nat)} {k c : Nat} (hk : k < r.length) (hc : c ≠ (r[k]).1) : txF S lt old i r (k + 1) c = txF S lt old i r k c := by
  unfold txF
  rw [List.take_add_one, List.getElem?_eq_getElem hk, Option.toList_some, List.map_append]
  simp only [List.map_cons, List.map_nil, List.mem_append, List.mem_singleton, hc, or_false]
theorem txF_same {S : Nat → Bool} {lt : Nat → Nat → Bool} {old : Nat → List UInt8} {i : Nat} {r : List (Nat × Nat)} {k : Nat} (hk : k < r.length) (hn : (r.map (·.1)).Nodup) : txF S lt old i r (k + 1) (r[k]).1 = txF S lt old i r k (r[k]).1 ++ wdT (andB S (lt (r[k]).1)) i := by
  have h1 : (r[k]).1 ∉ (r.take k).map (·.1) := fun hm => by
    obtain ⟨x, hx, he⟩ := List.mem_map.1 hm
    obtain ⟨j, hj, rfl⟩ := List.getElem_of_mem hx
    rw [List.getElem_take] at he
    have hjk : j < k := by rw [List.length_take] at hj; omega
    have hp := List.pairwise_iff_getElem.1 hn j k (by rw [List.length_map]; omega) (by rw [List.length_map]; omega) hjk
    simp only [List.getElem_map] at hp
    exact hp he
  have h2 : (r[k]).1 ∈ (r.take (k + 1)).map (·.1) := by
    rw [List.take_add_one, List.getElem?_eq_getElem hk, Option.toList_some, List.map_append]
    simp
  unfold txF
  rw [if_pos h2, if_neg h1, List.append_nil]
theorem txF_end {N sy : Nat} {LT : List (List (Nat × Nat))} {lt : Nat → Nat → Bool} (h : LtOk N sy LT lt) (S : Nat → Bool) (old : Nat → List UInt8) {i c : Nat} (hi : i < LT.length) (hc : c < sy) : txF S lt old i LT[i] (LT[i]).length c = old c ++ encW (andB S (lt c)) (i + 1) := by
  unfold txF
  rw [List.take_length, encW, ← List.append_assoc]
  congr 1
  split
  · rfl
  · rename_i hn
    have h0 : wordOf (lt c) i = 0 := by
      cases Nat.eq_zero_or_pos (wordOf (lt c) i) with
      | inl h => exact h
      | inr h1 => exact absurd (h.all i hi c hc (by omega)) hn
    unfold wdT
    rw [← word_and2, h0, Nat.and_zero, if_pos rfl]
theorem txF_skip (S : Nat → Bool) (lt : Nat → Nat → Bool) {i : Nat} (h : wordOf S i = 0) (c : Nat) : encW (andB S (lt c)) (i + 1) = encW (andB S (lt c)) i := by
  rw [encW]
  unfold wdT
  rw [← word_and2, h, Nat.zero_and, if_pos rfl, List.append_nil]
theorem txF_len (S : Nat → Bool) (lt : Nat → Nat → Bool) (old : Nat → List UInt8) (i : Nat) (r : List (Nat × Nat)) (k c : Nat) : (txF S lt old i r k c).length ≤ (old c).length + 12 * (i + 1) := by
  unfold txF
  have h1 := encW_len (andB S (lt c)) i
  have h2 := wdT_len (andB S (lt c)) i
  rw [List.length_append, List.length_append]
  split
  · omega
  · simp; omega
end Go.Proofs.YtleeedjpccooaaaDoor
namespace Go.Proofs.YtleeedjpccooaaaDoor
open Go.RowKit Go.Shelf
/-- The blocks that texts lie in. -/
def PtS (GT : Nat) (ps0 : Lob) : Nat → Prop := fun i => i = GT ∨ ∃ x ∈ ps0, x.1.ownBlock = some i
/-- The texts, while they grow. -/
structure PtI (w : World) (GT cT sy lo : Nat) (ps0 : Lob) (tx : Nat → List UInt8) (W : World) : Prop where
  bag : ∃ ps : Lob, ps.length = sy ∧ BagT W lo (.slice (some ⟨GT, 0, none⟩) sy cT) ps ∧ (∀ c (h : c < ps.length), (ps[c]).2 = tx c) ∧ ∀ x ∈ ps, ∀ g, x.1.ownBlock = some g → PtS GT ps0 g ∨ w.heap.size ≤ g
  only : Only w W (PtS GT ps0)
theorem PtI.new {w A B : World} {GT cT sy lo : Nat} {ps0 : Lob} {tx : Nat → List UInt8} (h : PtI w GT cT sy lo ps0 tx A) (hb : Below A.heap.size A B) : PtI w GT cT sy lo ps0 tx B := by
  obtain ⟨ps, h1, h2, h3, h4⟩ := h.bag
  exact ⟨⟨ps, h1, h2.later hb, h3, h4⟩, h.only.trans (Only.ofNew hb (PtS GT ps0)) (fun i hi => .inl hi)⟩
theorem PtI.congr {w A : World} {GT cT sy lo : Nat} {ps0 : Lob} {tx tx' : Nat → List UInt8} (h : PtI w GT cT sy lo ps0 tx A) (he : ∀ c, c < sy → tx c = tx' c) : PtI w GT cT sy lo ps0 tx' A := by
  obtain ⟨ps, h1, h2, h3, h4⟩ := h.bag
  exact ⟨⟨ps, h1, h2, fun c hc => (h3 c hc).trans (he c (by omega)), h4⟩, h.only⟩
/-- One text, and where it lies; when it has grown. -/
theorem PtI.at' {w A : World} {GT cT sy lo : Nat} {ps0 : Lob} {tx : Nat → List UInt8} (h : PtI w GT cT sy lo ps0 tx A) {y : Nat} (hy : y < sy) :
    ∃ a c, A.cell? ⟨GT, y, none⟩ = some (.slice a (tx y).length c) ∧ A.frozen? ⟨GT, y, none⟩ = false ∧ OwnB A lo (.slice a (tx y).length c) (tx y) ∧ (∀ k, (Value.slice a (tx y).length c).ownBlock = some k → k < A.heap.size ∧ (PtS GT ps0 k ∨ w.heap.size ≤ k)) ∧
      ∀ (w1 : World) (v' : Value) (l' : List UInt8), Apd A w1 lo (.slice a (tx y).length c) v' l' → PtI w GT cT sy lo ps0 (fun c => if c = y then l' else tx c) (w1.setCell ⟨GT, y, none⟩ v') := by
  obtain ⟨ps, h1, h2, h3, h4⟩ := h.bag
  have hy2 : y < ps.length := by omega
  have hmem : ps[y] ∈ ps := List.getElem_mem hy2
  obtain ⟨k0, k1⟩ := h2.cells h1.symm y hy2
  have hr := h2.row _ hmem
  have e2 := h3 y hy2
  obtain ⟨a, c, ev⟩ : ∃ a c, (ps[y]).1 = .slice a (tx y).length c := by
    rcases hr.2 with ⟨e, hn⟩ | ⟨g, cap, cur, e, _⟩
    · exact ⟨none, 0, by rw [e, ← e2, hn]⟩
    · exact ⟨_, cap, by rw [e, ← e2]⟩
  rw [ev] at k0
  rw [ev, e2] at hr
  refine ⟨a, c, k0, k1, hr, fun k hk => ⟨(World.ownsRow.lt hr k hk).2, h4 _ hmem k (by rw [ev]; exact hk)⟩, fun w1 v' l' hap => ?_⟩
  have hs := h2.set h1.symm y hy2 (w1 := w1) (v' := v') (l' := l') (fun k hk hne => hap.frm.block k hk (by rw [ev] at hne; exact hne)) hap.own (fun q hq => by rw [ev]; exact hap.at' q hq)
  refine ⟨⟨ps.set y (v', l'), by rw [List.length_set]; exact h1, hs, fun j hj => ?_, fun x hx g hg => ?_⟩, ?_⟩
  · rw [List.getElem_set]
    split
    · rename_i e; rw [if_pos e.symm]
    · rename_i e; rw [if_neg (fun q => e q.symm)]; exact h3 j (by simpa using hj)
  · obtain ⟨j, hj, rfl⟩ := List.getElem_of_mem hx
    rw [List.getElem_set] at hg
    split at hg
    · rcases hap.at' g hg with q | q
      · exact h4 _ hmem g (by rw [ev]; exact q)
      · right; have := h.only.size; omega
    · exact h4 _ (List.getElem_mem (by simpa using hj)) g hg
  · refine (h.only.trans hap.frm (fun i hi => h4 _ hmem i (by rw [ev]; exact hi))).trans (Only.setCell w1 GT y v') (fun i hi => .inl (.inl hi))
set_option maxRecDepth 10000 in
set_option maxHeartbeats 2000000 in
theorem part_any (B J GT cT GS cS N sy lo lo2 : Nat) (vL vM : Value) (LT : List (List (Nat × Nat))) (lt : Nat → Nat → Bool) (S : Nat → Bool) (old : Nat → List UInt8) (ps0 : Lob) (w : World) (hN : N ≤ 1000000) (hN0 : 0 < N) (hlo : lo ≤ w.heap.size) (hok : LtOk N sy LT lt) (hl1 : LT.flatten.length ≤ 1000000000) (_hsy : sy ≤ 100000) (hold : ∀ c, c < sy → (old c).length ≤ 1000)
    (hrd : ∀ V : World, Only w V (PtS GT ps0) → V.cell? ⟨B, 0, none⟩ = some (.pointer (some ⟨J, 0, none⟩)) ∧ V.cell? ⟨B, 3, none⟩ = some (.slice (some ⟨GT, 0, none⟩) sy cT) ∧ V.cell? ⟨J, 4, none⟩ = some vL ∧ V.cell? ⟨J, 5, none⟩ = some vM ∧ RwW V vL vM LT ∧ OwnU V lo2 (.slice (some ⟨GS, 0, none⟩) N cS) N S)
    (hp : PtI w GT cT sy lo ps0 old w) :
    Calls Tryd.prog 48 #[.pointer (some ⟨B, 0, none⟩), .slice (some ⟨GS, 0, none⟩) N cS] w fun e w' => (∃ v, e = .returned v) ∧ PtI w GT cT sy lo ps0 (fun c => old c ++ encW (andB S (lt c)) N) w' := by
  have HOk := hid0 hok
  have HOl := hid0 hold
  have HRd := hid0 hrd
  have HP := hid0 hp
  have HLo := hid0 hlo
  have HGT : Hid (GT < w.heap.size) := hid0 (by obtain ⟨ps, h1, h2, _⟩ := HP.out.bag; exact (World.ownsRow.lt h2.outer GT rfl).2)
  have hNI : (N : Int) ≤ 1000000 := by omega
  clear hok hold hrd hp hlo
  go_enter Tryd.func48, Tryd.ntmps48
  go_wp2
  go_loopw [11] (fun i wr => ∃ k : Nat, k ≤ N ∧ i = .int .i64 (k : Int) ∧ Hid (PtI w GT cT sy lo ps0 (fun c => old c ++ encW (andB S (lt c)) k) wr)) (fun i _ => N - (intOf i).toNat)
  case atStart => exact ⟨0, Nat.zero_le _, rfl, hid0 (HP.out.congr (fun c _ => by simp [encW]))⟩
  case round =>
    clear HP
    obtain ⟨i, hi, rfl, HP⟩ := hrel
    by_cases hiN : i < N
    · obtain ⟨b0, _, j4, j5, hrw, hou⟩ := HRd.out wr HP.out.only
      obtain ⟨g', c', e', _, _, dS, _⟩ := hou.at' hiN
      cases e'
      have hwl := wordOf_lt S i
      have hiI : (i : Int) < (N : Int) := by omega
      have hiI0 : (0 : Int) ≤ (i : Int) := by omega
      by_cases h0 : wordOf S i = 0
      · have HN1 : Hid (PtI w GT cT sy lo ps0 (fun c => old c ++ encW (andB S (lt c)) (i + 1)) wr) := hid0 (HP.out.congr (fun c _ => by rw [txF_skip S lt h0 c]))
        rw [h0] at dS
        replace dS : wr.cell? ⟨GS, i, none⟩ = some (.int .u64 0) := dS
        clear hwl h0 b0 j4 j5 hrw hou
        go_wp2
        go_roundw
        case rel => exact ⟨i + 1, by omega, by go_num, HN1⟩
        case measure => simp [intOf]; omega
      · have hiL : i < LT.length := by rw [HOk.out.len]; exact hiN
        obtain ⟨r, hr⟩ : ∃ r, LT[i]? = some r := ⟨_, List.getElem?_eq_getElem hiL⟩
        have hri : LT[i] = r := (List.getElem?_eq_some_iff.1 hr).2
        have HOf := hid0 (ofL_any J 4 i LT vL vM wr j4 j5 hrw r hr hl1 (by rw [HOk.out.len]; omega))
        have HRi := hid0 (And.intro hr hri)
        have hrl : r.length ≤ 1000000000 := by
          have h2 := sum_take LT hiL
          have h3 := sum_le LT (i + 1)
          have h4 := flat_len LT
          rw [hri] at h2
          omega
        obtain ⟨s, hs⟩ : ∃ s : Nat, s = wordOf S i := ⟨_, rfl⟩
        have HSs := hid0 hs
        rw [← hs] at dS h0 hwl
        have hsI : ¬ (s : Int) = 0 := by omega
        have hsB : ((s : Int) == 0) = false := by rw [beq_eq_false_iff_ne]; omega
        have hsl : (s : Int) < 18446744073709551616 := by omega
        clear hs hr hri hrw hou h0
        go_wp2_with (go_at_call 65; go_loud ((refine HOf.out.mono ?_; rintro e V1 ⟨av, cv, rfl, hwd, hbv, _⟩; have HWv := hid0 hwd; have HBv := hid0 hbv; clear hwd hbv)))
        go_loopw [27] (fun j wr2 => ∃ k : Nat, k ≤ r.length ∧ j = .int .i64 (k : Int) ∧ Hid (PtI w GT cT sy lo ps0 (txF S lt old i r k) wr2)) (fun j _ => r.length - (intOf j).toNat)
        case atStart => exact ⟨0, Nat.zero_le _, rfl, hid0 ((HP.out.new HBv.out).congr (fun c _ => (txF_start S lt old i r c).symm))⟩
        case round =>
          obtain ⟨k, hk, rfl, HK⟩ := hrel
          clear b0 dS j4 j5
          obtain ⟨V, hV⟩ : ∃ V, V = wr := ⟨_, rfl⟩
          subst hV
          by_cases hkr : k < r.length
          · obtain ⟨_, b3, _, _, hrw, _⟩ := HRd.out V HK.out.only
            obtain ⟨b, off, eb, _, y0, y1⟩ := (HWv.out V hrw).at' k hkr
            subst eb
            have hrm : r ∈ LT := List.mem_of_getElem? HRi.out.1
            have hys := HOk.out.sym r hrm (r[k]) (List.getElem_mem hkr)
            have hxw : (r[k]).2 = wordOf (lt (r[k]).1) i := by
              have h := HOk.out.bits i hiL
              rw [HRi.out.2] at h
              exact h _ (List.getElem_mem hkr)
            have hts := txF_same (S := S) (lt := lt) (old := old) (i := i) hkr (HOk.out.once r hrm)
            have hto : ∀ c, c ≠ (r[k]).1 → txF S lt old i r (k + 1) c = txF S lt old i r k c := fun c hc => txF_other hkr hc
            rw [hxw] at y1
            generalize (r[k]).1 = ys at *
            obtain ⟨bo, hbo⟩ : ∃ bo : Nat, bo = wordOf (andB S (lt ys)) i := ⟨_, rfl⟩
            have hbl : bo < 18446744073709551616 := by rw [hbo]; exact wordOf_lt _ _
            obtain ⟨x, hx⟩ : ∃ x : Nat, x = wordOf (lt ys) i := ⟨_, rfl⟩
            have hxl : x < 18446744073709551616 := by rw [hx]; exact wordOf_lt _ _
            have hand : bits .and .u64 (s : Int) (x : Int) = (bo : Int) := by rw [bits_and_u64_nat _ _ hwl hxl, HSs.out, hx, word_and2, hbo]
            rw [← hx] at y1
            have HTs := hid0 (And.intro hts hto)
            have HBo := hid0 hbo
            obtain ⟨wA, hwA⟩ : ∃ wA, wA = V.alloc (.cells #[.int .i64 (ys : Int), .int .u64 (x : Int)] 127) := ⟨_, rfl⟩
            have hbA : Below V.heap.size V wA := by rw [hwA]; exact (Below.refl _ _).alloc (Nat.le_refl _) _
            have hrA : wA.heap[V.heap.size]? = some (.cells #[.int .i64 (ys : Int), .int .u64 (x : Int)] 127 (0, 0)) := by rw [hwA]; exact heap_alloc_new V _
            have hsA : wA.heap.size = V.heap.size + 1 := by rw [hwA]; simp
            have hPA := HK.out.new hbA
            have HPA := hid0 hPA
            have d8 : wA.cell? ⟨V.heap.size, 0, none⟩ = some (.int .i64 (ys : Int)) := by rw [cell_of_row _ _ _ _ _ _ hrA]; rfl
            have d9 : wA.cell? ⟨V.heap.size, 1, none⟩ = some (.int .u64 (x : Int)) := by rw [cell_of_row _ _ _ _ _ _ hrA]; rfl
            have hkI : (k : Int) < (r.length : Int) := by omega
            have hkI0 : (0 : Int) ≤ (k : Int) := by omega
            have hfold := hwA.symm
            by_cases hb0 : bo = 0
            · have HN2 : Hid (PtI w GT cT sy lo ps0 (txF S lt old i r (k + 1)) wA) := hid0 (HPA.out.congr (fun c _ => by
                by_cases hc : c = ys
                · subst hc
                  rw [HTs.out.1]
                  unfold wdT
                  rw [← HBo.out, if_pos hb0, List.append_nil]
                · rw [HTs.out.2 c hc]))
              rw [hb0] at hand
              replace hand : bits .and .u64 (s : Int) (x : Int) = 0 := hand
              clear hwA hbA hrA hPA hts hto hbo hbl hx hxl hys hxw hb0 hrw hsA b3
              go_wp2
              go_roundw
              case rel => exact ⟨k + 1, by omega, by go_num, HN2⟩
              case measure => simp [intOf]; omega
            · obtain ⟨at0, ct0, dT, fT, hoB, hlB, hput⟩ := hPA.at' hys
              have hl0 := txF_len S lt old i r k ys
              have hol := HOl.out ys hys
              obtain ⟨l, hl⟩ : ∃ l, l = txF S lt old i r k ys := ⟨_, rfl⟩
              rw [← hl] at dT hoB hlB hput hl0
              obtain ⟨n0, hn0⟩ : ∃ n0, n0 = l.length := ⟨_, rfl⟩
              rw [← hn0] at dT hoB hlB hput hl0
              obtain ⟨L1, hL1⟩ : ∃ L1, L1 = l ++ leB i 4 ++ leB bo 8 := ⟨_, rfl⟩
              have HL1 : Hid (0 < L1.length) := hid0 (by rw [hL1]; simp [leB_len])
              have HAw : Hid (Calls Tryd.prog 66 #[.slice at0 n0 ct0, .agg #[.int .i64 (i : Int), .int .u64 (bo : Int)]] wA.drew fun e w' => ∃ v', e = .returned v' ∧ Apd wA w' lo (.slice at0 n0 ct0) v' L1) := hid0 (by
                rw [hL1]
                have hd : Below wA.heap.size wA wA.drew := (Below.refl _ _).drew
                have h := addWord_any lo i bo (.slice at0 n0 ct0) l wA.drew (own_blk hoB (fun k _ => rfl)) (by omega) (by omega) hbl (by have := HLo.out; have := HK.out.only.size; have := hd.size; omega)
                exact h.mono (fun e w' ⟨v', q1, q2⟩ => ⟨v', q1, q2.since hd⟩))
              have HPut := hid0 hput
              have HoB := hid0 hoB
              have HOw : Hid (∀ k, (Value.slice at0 n0 ct0).ownBlock = some k → k < V.heap.size) := hid0 (fun k hk => by
                have h1 := (hlB k hk).1
                obtain ⟨cs, hcs⟩ := own_typ hoB hk
                have h2 : k ≠ V.heap.size := fun e => by rw [e, hrA] at hcs; cases hcs
                omega)
              have HS9 : Hid (∀ W' : World, Only wA W' (fun k => (Value.slice at0 n0 ct0).ownBlock = some k) → W'.cell? ⟨B, 3, none⟩ = some (.slice (some ⟨GT, 0, none⟩) sy cT) ∧ W'.cell? ⟨V.heap.size, 0, none⟩ = some (.int .i64 (ys : Int))) := hid0 (fun W' ho => by
                have h1 : Only w W' (PtS GT ps0) := HPA.out.only.trans ho (fun j hj => (hlB j hj).2)
                refine ⟨(HRd.out W' h1).2.1, (ho.cell (p := ⟨V.heap.size, 0, none⟩) (World.block_lt_of_cell? wA _ d8) (fun e => ?_)).trans d8⟩
                have h2 : V.heap.size < V.heap.size := HOw.out _ e
                omega)
              have hbI : ¬ (bo : Int) = 0 := by omega
              have hbB : ((bo : Int) != 0) = true := by rw [bne_iff_ne]; exact hbI
              have hysI : (ys : Int) < (sy : Int) := by omega
              have hysI0 : (0 : Int) ≤ (ys : Int) := by omega
              have b3A := (HS9.out wA (Only.refl _ _)).1
              have HSt : Hid (∀ (w1 : World) (v1 : Value), Apd wA w1 lo (.slice at0 n0 ct0) v1 L1 → (w1.setCell ⟨GT, ys, none⟩ v1).cell? ⟨B, 3, none⟩ = some (.slice (some ⟨GT, 0, none⟩) sy cT) ∧ (w1.setCell ⟨GT, ys, none⟩ v1).cell? ⟨V.heap.size, 0, none⟩ = some (.int .i64 (ys : Int))) := hid0 (fun w1 v1 hap => by
                have h1 := HS9.out w1 hap.frm
                have ho := Only.setCell w1 GT ys v1
                have h3 := HGT.out
                have h4 := HK.out.only.size
                exact ⟨(HRd.out _ (HPut.out w1 v1 _ hap).only).2.1, (ho.cell (p := ⟨V.heap.size, 0, none⟩) (World.block_lt_of_cell? w1 _ h1.2) (by show ¬ (V.heap.size = GT); omega)).trans h1.2⟩)
              have HfG : Hid (∀ (w1 : World) (v1 : Value), Apd wA w1 lo (.slice at0 n0 ct0) v1 L1 → w1.frozen? ⟨GT, ys, none⟩ = false ∧ w1.cell? ⟨GT, ys, none⟩ = some (.slice at0 n0 ct0)) := hid0 (fun w1 v1 hap => by
                obtain ⟨ps, h1, h2, _⟩ := HPA.out.bag
                obtain ⟨cs, hcs⟩ := own_typ h2.outer (show Value.ownBlock _ = some GT from rfl)
                have hne : ¬ (Value.slice at0 n0 ct0).ownBlock = some GT := fun e => by
                  obtain ⟨cs', hcs'⟩ := own_typ HoB.out e
                  rw [hcs] at hcs'
                  cases hcs'
                have hb := (hap.frm.block GT (Array.getElem?_eq_some_iff.1 hcs).1 hne)
                exact ⟨by simp [World.frozen?, hb, hcs], (hap.frm.cell (p := ⟨GT, ys, none⟩) (World.block_lt_of_cell? wA _ dT) hne).trans dT⟩)
              have HGn : Hid (∀ (w1 : World) (v1 : Value), Apd wA w1 lo (.slice at0 n0 ct0) v1 L1 → PtI w GT cT sy lo ps0 (txF S lt old i r (k + 1)) (w1.setCell ⟨GT, ys, none⟩ v1)) := hid0 (fun w1 v1 hap => (HPut.out w1 v1 _ hap).congr (fun c _ => by
                by_cases hc : c = ys
                · subst hc
                  rw [if_pos rfl, hL1, HTs.out.1, ← hl]
                  unfold wdT
                  rw [← HBo.out, if_neg hb0, List.append_assoc]
                · rw [if_neg hc, HTs.out.2 c hc]))
              clear hwA hbA hrA hPA hts hto hbo hx hxl hxw hrw b3 hput hoB hlB hl hol hL1 hl0 hn0
              go_wp2
              refine wp_region_noPanic ?_
              refine wp_region_held_drew (S := (fun W' => W'.cell? ⟨B, 3, none⟩ = some (.slice (some ⟨GT, 0, none⟩) sy cT) ∧ W'.cell? ⟨V.heap.size, 0, none⟩ = some (.int .i64 (ys : Int)))) (by kernel_rfl) ?_ (fun hHeld => ?_)
              · exact ⟨b3A, d8⟩
              refine tkV (i := 0) (d := some 37) (v := ?_) rfl (by kernel_rfl) (by kernel_rfl) (by kernel_rfl) rfl (fun _ _ _ h => h) (by rfl) ?_ (by assumption) ?_
              rotate_left
              · (intro w hSw; (try dsimp only at hSw); (try simp only [List.getElem_toArray, List.getElem_cons_zero]); go_simp; try with_reducible rfl)
              try simp only [Act.put, List.setIfInBounds_toArray, List.set_cons_zero, List.set_cons_succ]
              refine tkV (i := 1) (d := some 38) (v := ?_) rfl (by kernel_rfl) (by kernel_rfl) (by kernel_rfl) rfl (fun _ _ _ h => h) (by rfl) ?_ (by assumption) ?_
              rotate_left
              · (intro w hSw; (try dsimp only at hSw); (try simp only [List.getElem_toArray, List.getElem_cons_zero, List.getElem_cons_succ]); go_simp; try with_reducible rfl)
              try simp only [Act.put, List.setIfInBounds_toArray, List.set_cons_zero, List.set_cons_succ]
              refine tkV (i := 2) (d := some 39) (v := ?_) rfl (by kernel_rfl) (by kernel_rfl) (by kernel_rfl) rfl (fun _ _ _ h => h) (by rfl) ?_ (by assumption) ?_
              rotate_left
              · (intro w hSw; (try dsimp only at hSw); (try simp only [List.getElem_toArray, List.getElem_cons_zero, List.getElem_cons_succ]); go_simp; try with_reducible rfl)
              try simp only [Act.put, List.setIfInBounds_toArray, List.set_cons_zero, List.set_cons_succ]
              refine tkV (i := 3) (d := some 40) (v := ?_) rfl (by kernel_rfl) (by kernel_rfl) (by kernel_rfl) rfl (fun _ _ _ h => h) (by rfl) ?_ (by assumption) ?_
              rotate_left
              · (intro w hSw; (try dsimp only at hSw); (try simp only [List.getElem_toArray, List.getElem_cons_zero, List.getElem_cons_succ]); go_simp; try with_reducible rfl)
              try simp only [Act.put, List.setIfInBounds_toArray, List.set_cons_zero, List.set_cons_succ]
              refine tkV (i := 4) (d := some 41) (v := ?_) rfl (by kernel_rfl) (by kernel_rfl) (by kernel_rfl) rfl (fun _ _ _ h => h) (by rfl) ?_ (by assumption) ?_
              rotate_left
              · (intro w hSw; (try dsimp only at hSw); (try simp only [List.getElem_toArray, List.getElem_cons_zero, List.getElem_cons_succ]); go_simp; try with_reducible rfl)
              try simp only [Act.put, List.setIfInBounds_toArray, List.set_cons_zero, List.set_cons_succ]
              refine tkV (i := 5) (d := some 42) (v := ?_) rfl (by kernel_rfl) (by kernel_rfl) (by kernel_rfl) rfl (fun _ _ _ h => h) (by rfl) ?_ (by assumption) ?_
              rotate_left
              · (intro w hSw; (try dsimp only at hSw); (try simp only [List.getElem_toArray, List.getElem_cons_zero, List.getElem_cons_succ]); go_simp; try with_reducible rfl)
              try simp only [Act.put, List.setIfInBounds_toArray, List.set_cons_zero, List.set_cons_succ]
              refine tkV (i := 6) (d := some 43) (v := ?_) rfl (by kernel_rfl) (by kernel_rfl) (by kernel_rfl) rfl (fun _ _ _ h => h) (by rfl) ?_ (by assumption) ?_
              rotate_left
              · (intro w hSw; (try dsimp only at hSw); (try simp only [List.getElem_toArray, List.getElem_cons_zero, List.getElem_cons_succ]); go_simp; try with_reducible rfl)
              try simp only [Act.put, List.setIfInBounds_toArray, List.set_cons_zero, List.set_cons_succ]
              refine tkV (i := 7) (d := some 44) (v := ?_) rfl (by kernel_rfl) (by kernel_rfl) (by kernel_rfl) rfl (fun _ _ _ h => h) (by rfl) ?_ (by assumption) ?_
              rotate_left
              · (intro w hSw; (try dsimp only at hSw); (try simp only [List.getElem_toArray, List.getElem_cons_zero, List.getElem_cons_succ]); go_simp; try with_reducible rfl)
              try simp only [Act.put, List.setIfInBounds_toArray, List.set_cons_zero, List.set_cons_succ]
              refine tkV (i := 8) (d := some 45) (v := ?_) rfl (by kernel_rfl) (by kernel_rfl) (by kernel_rfl) rfl (fun _ _ _ h => h) (by rfl) ?_ (by assumption) ?_
              rotate_left
              · (intro w hSw; (try dsimp only at hSw); (try simp only [List.getElem_toArray, List.getElem_cons_zero, List.getElem_cons_succ]); go_simp; try with_reducible rfl)
              try simp only [Act.put, List.setIfInBounds_toArray, List.set_cons_zero, List.set_cons_succ]
              refine tkV (i := 9) (d := some 46) (v := ?_) rfl (by kernel_rfl) (by kernel_rfl) (by kernel_rfl) rfl (fun _ _ _ h => h) (by rfl) ?_ (by assumption) ?_
              rotate_left
              · (intro w hSw; (try dsimp only at hSw); (try simp only [List.getElem_toArray, List.getElem_cons_zero, List.getElem_cons_succ]); go_simp; try with_reducible rfl)
              try simp only [Act.put, List.setIfInBounds_toArray, List.set_cons_zero, List.set_cons_succ]
              refine tkV (i := 10) (d := some 47) (v := ?_) rfl (by kernel_rfl) (by kernel_rfl) (by kernel_rfl) rfl (fun _ _ _ h => h) (by rfl) ?_ (by assumption) ?_
              rotate_left
              · (intro w hSw; (try dsimp only at hSw); (try simp only [List.getElem_toArray, List.getElem_cons_zero, List.getElem_cons_succ]); go_simp; try with_reducible rfl)
              try simp only [Act.put, List.setIfInBounds_toArray, List.set_cons_zero, List.set_cons_succ]
              refine tkV (i := 11) (d := some 48) (v := ?_) rfl (by kernel_rfl) (by kernel_rfl) (by kernel_rfl) rfl (fun _ _ _ h => h) (by rfl) ?_ (by assumption) ?_
              rotate_left
              · (intro w hSw; (try dsimp only at hSw); (try simp only [List.getElem_toArray, List.getElem_cons_zero, List.getElem_cons_succ]); go_simp; try with_reducible rfl)
              try simp only [Act.put, List.setIfInBounds_toArray, List.set_cons_zero, List.set_cons_succ]
              refine tkV (i := 12) (d := some 49) (v := ?_) rfl (by kernel_rfl) (by kernel_rfl) (by kernel_rfl) rfl (fun _ _ _ h => h) (by rfl) ?_ (by assumption) ?_
              rotate_left
              · (intro w hSw; (try dsimp only at hSw); (try simp only [List.getElem_toArray, List.getElem_cons_zero, List.getElem_cons_succ]); go_simp; try with_reducible rfl)
              try simp only [Act.put, List.setIfInBounds_toArray, List.set_cons_zero, List.set_cons_succ]
              refine tkV (i := 14) (d := some 51) (v := ?_) rfl (by kernel_rfl) (by kernel_rfl) (by kernel_rfl) rfl (fun _ _ _ h => h) (by rfl) ?_ (by assumption) ?_
              rotate_left
              · (intro w hSw; (try dsimp only at hSw); (try simp only [List.getElem_toArray, List.getElem_cons_zero, List.getElem_cons_succ]); go_simp; try with_reducible rfl)
              try simp only [Act.put, List.setIfInBounds_toArray, List.set_cons_zero, List.set_cons_succ]
              refine tkV (i := 15) (d := some 52) (v := ?_) rfl (by kernel_rfl) (by kernel_rfl) (by kernel_rfl) rfl (fun _ _ _ h => h) (by rfl) ?_ (by assumption) ?_
              rotate_left
              · (intro w hSw; (try dsimp only at hSw); (try simp only [List.getElem_toArray, List.getElem_cons_zero, List.getElem_cons_succ]); go_simp; try with_reducible rfl)
              try simp only [Act.put, List.setIfInBounds_toArray, List.set_cons_zero, List.set_cons_succ]
              refine tkV (i := 16) (d := some 53) (v := ?_) rfl (by kernel_rfl) (by kernel_rfl) (by kernel_rfl) rfl (fun _ _ _ h => h) (by rfl) ?_ (by assumption) ?_
              rotate_left
              · (intro w hSw; (try dsimp only at hSw); (try simp only [List.getElem_toArray, List.getElem_cons_zero, List.getElem_cons_succ]); go_simp; try with_reducible rfl)
              try simp only [Act.put, List.setIfInBounds_toArray, List.set_cons_zero, List.set_cons_succ]
              refine wpAnyH_ready (rs := [13]) (by kernel_rfl) (by simp) (AllReadyH.cons rfl (fun K hK => ?_) AllReadyH.nil)
              try simp only [List.getElem_toArray, List.getElem_cons_zero, List.getElem_cons_succ]
              go_simp
              refine hK.out _ _ ?_ (fun hHeld13 => ?_)
              · exact ⟨b3A, d8⟩
              clear hK K
              (try simp only [Act.put]); (try simp only [List.setIfInBounds_toArray]); (try simp only [List.set_cons_succ]); (try simp only [List.set_cons_zero])
              refine wpAnyH_ready (rs := [17]) (by kernel_rfl) (by simp) (AllReadyH.cons rfl (fun K hK => ?_) AllReadyH.nil)
              try simp only [List.getElem_toArray, List.getElem_cons_zero, List.getElem_cons_succ]
              go_simp
              refine HAw.out.mono ?_
              rintro e w1 ⟨v1, rfl, hap⟩
              obtain ⟨g1, c1, ev1, _⟩ := own_form hap.own HL1.out
              obtain ⟨n1, hn1⟩ : ∃ n1, n1 = L1.length := ⟨_, rfl⟩
              rw [← hn1] at ev1
              subst ev1
              have HA1 := hid0 hap
              obtain ⟨fG, dG⟩ := HfG.out w1 _ hap
              clear hap hn1
              go_wp2_with fail
              refine hK.out _ _ ?_ (fun hHeld17 => ?_)
              · exact HS9.out w1 HA1.out.frm
              clear hK K
              (try simp only [Act.put]); (try simp only [List.setIfInBounds_toArray]); (try simp only [List.set_cons_succ]); (try simp only [List.set_cons_zero])
              refine tkV (i := 18) (d := some 55) (v := ?_) rfl (by kernel_rfl) (by kernel_rfl) (by kernel_rfl) rfl (fun _ _ _ h => h) (by rfl) ?_ (by assumption) ?_
              rotate_left
              · (intro w hSw; (try dsimp only at hSw); (try simp only [List.getElem_toArray, List.getElem_cons_zero, List.getElem_cons_succ]); go_simp; try with_reducible rfl)
              try simp only [Act.put, List.setIfInBounds_toArray, List.set_cons_zero, List.set_cons_succ]
              refine wpAnyH_ready (rs := [19]) (by kernel_rfl) (by simp) (AllReadyH.cons rfl (fun K hK => ?_) AllReadyH.nil)
              try simp only [List.getElem_toArray, List.getElem_cons_zero, List.getElem_cons_succ]
              go_simp
              refine hK.out _ _ ?_ (fun hHeld19 => ?_)
              · exact HSt.out w1 _ HA1.out
              clear hK K
              (try simp only [Act.put]); (try simp only [List.setIfInBounds_toArray]); (try simp only [List.set_cons_succ]); (try simp only [List.set_cons_zero])
              refine wpAnyH_done (by kernel_rfl) ?_ _
              refine NoPanic.normal ?_
              have HN4 := hid0 (HGn.out w1 _ HA1.out)
              clear d8 d9 dT fT hand b3A fG dG
              go_wp2
              go_roundw
              case rel => exact ⟨k + 1, by omega, by go_num, HN4⟩
              case measure => simp [intOf]; omega
          · obtain rfl : k = r.length := by omega
            have HN3 : Hid (PtI w GT cT sy lo ps0 (fun c => old c ++ encW (andB S (lt c)) (i + 1)) V) := hid0 (HK.out.congr (fun c hc => by
              have h := txF_end HOk.out S old hiL hc
              rw [HRi.out.2] at h
              exact h))
            go_wp2
            go_roundw
            case rel => exact ⟨i + 1, by omega, by go_num, HN3⟩
            case measure => simp [intOf]; omega
    · obtain rfl : i = N := by omega
      go_wp2
      go_end0
      exact ⟨⟨_, rfl⟩, HP.out⟩
end Go.Proofs.YtleeedjpccooaaaDoor
namespace Go.Proofs.YtleeedjpccooaaaDoor
open Go.RowKit Go.Shelf
set_option maxRecDepth 10000 in
set_option maxHeartbeats 1600000 in
theorem read_any (B GO nO cO o nE cE : Nat) (aE : Option Addr) (pl rest : List UInt8) (w : World) (h1 : w.cell? ⟨B, 1, none⟩ = some (.slice (some ⟨GO, 0, none⟩) nO cO)) (h2 : w.cell? ⟨GO, o * 2, none⟩ = some (.string ⟨pl.toArray⟩)) (h3 : w.cell? ⟨GO, o * 2 + 1, none⟩ = some (.slice aE nE cE)) (ho : o < nO) (hnO : nO ≤ 100000000) (hr : rest.length ≤ 100000000) :
    Calls Tryd.prog 73 #[.pointer (some ⟨B, 0, none⟩), .string ⟨(leB o 4 ++ rest).toArray⟩] w fun e w' => e = .returned (.tuple #[.agg #[.string ⟨pl.toArray⟩, .slice aE nE cE], .string ⟨rest.toArray⟩]) ∧ Below w.heap.size w w' := by
  obtain ⟨T, hT⟩ : ∃ T, T = leB o 4 ++ rest := ⟨_, rfl⟩
  have hTl : T.length = 4 + rest.length := by rw [hT, List.length_append, leB_len]
  obtain ⟨tB, htB⟩ : ∃ tB : ByteArray, tB = ⟨T.toArray⟩ := ⟨_, rfl⟩
  obtain ⟨m, hm⟩ : ∃ m : Nat, m = T.length := ⟨_, rfl⟩
  have hsz : tB.size = m := by rw [htB, hm]; simp [ByteArray.size]
  obtain ⟨rB, hrB⟩ : ∃ rB : ByteArray, tB.extract 4 m = rB := ⟨_, rfl⟩
  have HrB : Hid (rB = ⟨rest.toArray⟩) := hid0 (by rw [← hrB, ← hsz, htB, ba_cut T 4, hT, List.drop_left' (leB_len 4 o)])
  have HN1 : Hid (∀ V : World, Calls Tryd.prog 89 #[.string tB, .int .i64 4] V fun e w' => e = .returned (.int .u64 (o : Int)) ∧ w' = V) := hid0 (fun V => by
    have h := numberIn_any 4 T V (by omega) (by omega) (by omega)
    rw [hT, leD_take4 o _ (by omega)] at h
    rw [htB, hT]
    exact h)
  rw [← hT, ← htB]
  obtain ⟨pB, hpB⟩ : ∃ pB : ByteArray, pB = ⟨pl.toArray⟩ := ⟨_, rfl⟩
  rw [← hpB] at h2 ⊢
  obtain ⟨w0, hw0⟩ : ∃ w0, w0 = w.alloc (.cells #[.string ⟨#[]⟩, .slice none 0 0] 103) := ⟨_, rfl⟩
  have hb0 : Below w.heap.size w w0 := by rw [hw0]; exact (Below.refl _ _).alloc (Nat.le_refl _) _
  have hr0 : w0.heap[w.heap.size]? = some (.cells #[.string ⟨#[]⟩, .slice none 0 0] 103 (0, 0)) := by rw [hw0]; exact heap_alloc_new w _
  have k1 : w0.cell? ⟨B, 1, none⟩ = some (.slice (some ⟨GO, 0, none⟩) nO cO) := by rw [hb0.cell (p := ⟨B, 1, none⟩) (World.block_lt_of_cell? w _ h1)]; exact h1
  have k2 : w0.cell? ⟨GO, o * 2, none⟩ = some (.string pB) := by rw [hb0.cell (p := ⟨GO, o * 2, none⟩) (World.block_lt_of_cell? w _ h2)]; exact h2
  have k3 : w0.cell? ⟨GO, o * 2 + 1, none⟩ = some (.slice aE nE cE) := by rw [hb0.cell (p := ⟨GO, o * 2 + 1, none⟩) (World.block_lt_of_cell? w _ h3)]; exact h3
  have f0 : w0.frozen? ⟨w.heap.size, 0, none⟩ = false := by simp [World.frozen?, hr0]
  have f1 : w0.frozen? ⟨w.heap.size, 1, none⟩ = false := by simp [World.frozen?, hr0]
  have c0 : w0.cell? ⟨w.heap.size, 0, none⟩ = some (.string ⟨#[]⟩) := by rw [cell_of_row _ _ _ _ _ _ hr0]; rfl
  have c1 : w0.cell? ⟨w.heap.size, 1, none⟩ = some (.slice none 0 0) := by rw [cell_of_row _ _ _ _ _ _ hr0]; rfl
  have HFin : Hid (∀ V : World, V = ((w0.setCell ⟨w.heap.size, 0, none⟩ (.string pB)).setCell ⟨w.heap.size, 1, none⟩ (.slice aE nE cE)).drew → V.cell? ⟨w.heap.size, 0, none⟩ = some (.string pB) ∧ V.cell? ⟨w.heap.size, 1, none⟩ = some (.slice aE nE cE) ∧ Below w.heap.size w V) := hid0 (fun V hV => by
    have hq := heap_setCell_same _ _ 1 _ _ (.slice aE nE cE) (heap_setCell_same w0 _ 0 _ _ (.string pB) hr0)
    subst hV
    have q0 : ((w0.setCell ⟨w.heap.size, 0, none⟩ (.string pB)).setCell ⟨w.heap.size, 1, none⟩ (.slice aE nE cE)).cell? ⟨w.heap.size, 0, none⟩ = some (.string pB) := by rw [cell_of_row _ _ _ _ _ _ hq]; rfl
    have q1 : ((w0.setCell ⟨w.heap.size, 0, none⟩ (.string pB)).setCell ⟨w.heap.size, 1, none⟩ (.slice aE nE cE)).cell? ⟨w.heap.size, 1, none⟩ = some (.slice aE nE cE) := by rw [cell_of_row _ _ _ _ _ _ hq]; rfl
    exact ⟨q0, q1, ((hb0.setCell (p := ⟨w.heap.size, 0, none⟩) (Nat.le_refl _) _).setCell (p := ⟨w.heap.size, 1, none⟩) (Nat.le_refl _) _).drew⟩)
  have hoI : (o : Int) < (nO : Int) := by omega
  have hoI0 : (0 : Int) ≤ (o : Int) := by omega
  have hwo : IntKind.i64.wrap (o : Int) = (o : Int) := by rw [IntKind.wrap_i64]; omega
  have hm4 : 4 ≤ m := by omega
  have hm4I : (4 : Int) ≤ (m : Int) := by omega
  have hmb : m ≤ 1000000000 := by omega
  have hfold := hw0.symm
  clear hw0 hb0 hr0 h1 h2 h3 hT htB hm hTl hpB
  go_enter Tryd.func73, Tryd.ntmps73
  go_wp2
  go_region_with (go_at_call 89; refine (HN1.out _).mono ?_; rintro e w2 ⟨rfl, rfl⟩)
  all_goals
    go_wp2
    obtain ⟨V, hV⟩ : ∃ V, V = ((w0.setCell ⟨w.heap.size, 0, none⟩ (.string pB)).setCell ⟨w.heap.size, 1, none⟩ (.slice aE nE cE)).drew := ⟨_, rfl⟩
    rw [← hV]
    obtain ⟨q0, q1, hB⟩ := HFin.out V hV
    clear hV
    have HB := hid0 hB
    rw [← HrB.out]
    refine bodyPost_ret (v := .tuple #[.agg #[.string pB, .slice aE nE cE], .string rB]) (by simp [results, Tryd.results73, go_sem, q0, q1]) rfl ⟨rfl, HB.out⟩
end Go.Proofs.YtleeedjpccooaaaDoor
namespace Go.Proofs.YtleeedjpccooaaaDoor
open Go.RowKit Go.Shelf
theorem OwnI.sl {w : World} {base : Nat} {v : Value} {L : List Nat} (h : OwnI w base v (nI L)) : ∃ a c, v = .slice a L.length c ∧ IA w a (nI L) ∧ L.length ≤ c ∧ (a = none → c = 0) := by
  have h0 := h
  obtain ⟨a, c, e, hi⟩ := h.ia
  rw [nI_len] at e
  refine ⟨a, c, e, hi, ?_⟩
  rcases h0.2 with ⟨e2, hn⟩ | ⟨g, cap, cur, e2, _, _, hc, _⟩
  · rw [e] at e2
    simp only [Value.slice.injEq] at e2
    exact ⟨by omega, fun _ => e2.2.2⟩
  · rw [e] at e2
    simp only [Value.slice.injEq] at e2
    rw [nI_len] at hc
    exact ⟨by omega, fun q => by rw [e2.1] at q; cases q⟩
set_option maxRecDepth 10000 in
set_option maxHeartbeats 1600000 in
theorem endBehind_any (B J N sy lo GO nO cO o cE cA : Nat) (f la : Nat → Bool) (own ne alw : List Nat) (pl : List UInt8) (aE aO aA : Option Addr) (cW : Nat) (vF vE vL vM vZ vP vC vS : Value) (w : World) (hN : N ≤ 1000000)
    (b0 : w.cell? ⟨B, 0, none⟩ = some (.pointer (some ⟨J, 0, none⟩))) (b1 : w.cell? ⟨B, 1, none⟩ = some (.slice (some ⟨GO, 0, none⟩) nO cO)) (h2 : w.cell? ⟨GO, o * 2, none⟩ = some (.string ⟨pl.toArray⟩)) (h3 : w.cell? ⟨GO, o * 2 + 1, none⟩ = some (.slice aE ne.length cE)) (ho : o < nO) (hnO : nO ≤ 100000000)
    (hj : Jb w J sy (.slice aO own.length cW) vF vE vL vM vZ vP vC vS (.slice aA alw.length cA)) (hO : IA w aO (nI own)) (hZ : OwnU w lo vZ N la) (hla : ∀ q, la q = true → q < own.length) (hol : own.length ≤ 100000000) (htab : TabAt 11 Lib.deBruijn64tab w)
    (hne : IA w aE (nI ne) ∧ ne.length ≤ cE ∧ (aE = none → cE = 0)) (hal : IA w aA (nI alw) ∧ alw.length ≤ cA ∧ (aA = none → cA = 0)) (hl1 : ne.length ≤ 10000000) (hl2 : alw.length ≤ 10000000) :
    Calls Tryd.prog 75 #[.pointer (some ⟨B, 0, none⟩), .string ⟨(leB o 4 ++ encW f N).toArray⟩] w fun e w' => ∃ v, e = .returned v ∧ OwnI w' w.heap.size v (nI (mrg alw (mrg ne (endL (fun q => f q && la q) own (64 * N))))) ∧ Below w.heap.size w w' := by
  have HRe := hid0 (read_any B GO nO cO o ne.length cE aE pl (encW f N) w b1 h2 h3 ho hnO (by have := encW_len f N; omega))
  obtain ⟨LE, hLE⟩ : ∃ LE, LE = endL (fun q => f q && la q) own (64 * N) := ⟨_, rfl⟩
  have hLl : LE.length ≤ 64000000 := by
    rw [hLE]
    unfold endL
    have h1 := onceC_len ((plB (fun q => f q && la q) (64 * N)).map fun q => own.getD q 0) []
    have h2 := plB_len (fun q => f q && la q) (64 * N)
    rw [List.length_map] at h1
    simp only [List.length_nil] at h1
    omega
  have hMl := mrg_len ne LE
  have HEn : Hid (∀ V : World, Below w.heap.size w V → Calls Tryd.prog 49 #[.pointer (some ⟨J, 0, none⟩), .string ⟨(encW f N).toArray⟩] V fun e w' => ∃ v, e = .returned v ∧ OwnI w' V.heap.size v (nI LE) ∧ Below V.heap.size V w') := hid0 (fun V hV => by rw [hLE]; exact endAt_any J N sy lo f la own aO cW vF vE vL vM vZ vP vC vS _ V hN (hj.past hV) (hO.past hV) (hZ.past hV) hla hol (tab_past htab hV))
  have HM1 : Hid (∀ (V : World) (a : Option Addr) (c : Nat), Below w.heap.size w V → IA V a (nI LE) → LE.length ≤ c → (a = none → c = 0) → Calls Tryd.prog 54 #[.slice aE ne.length cE, .slice a LE.length c] V fun e w' => ∃ v, e = .returned v ∧ OwnI w' V.heap.size v (nI (mrg ne LE)) ∧ Below V.heap.size V w') := hid0 (fun V a c hV h1 h2 h3 => merged_any ne LE aE a cE c V (hne.1.past hV) h1 hne.2.1 h2 hne.2.2 h3 (by omega) (by omega))
  obtain ⟨ME, hME⟩ : ∃ ME, ME = mrg ne LE := ⟨_, rfl⟩
  have HM2 : Hid (∀ (V : World) (a : Option Addr) (c : Nat), Below w.heap.size w V → IA V a (nI ME) → ME.length ≤ c → (a = none → c = 0) → Calls Tryd.prog 54 #[.slice aA alw.length cA, .slice a ME.length c] V fun e w' => ∃ v, e = .returned v ∧ OwnI w' V.heap.size v (nI (mrg alw ME)) ∧ Below V.heap.size V w') := hid0 (fun V a c hV h1 h2 h3 => merged_any alw ME aA a cA c V (hal.1.past hV) h1 hal.2.1 h2 hal.2.2 h3 (by omega) (by rw [hME]; omega))
  rw [← hME] at HM1
  rw [← hLE, ← hME]
  have HC : Hid (∀ V : World, Below w.heap.size w V → V.cell? ⟨B, 0, none⟩ = some (.pointer (some ⟨J, 0, none⟩)) ∧ V.cell? ⟨J, 10, none⟩ = some (.slice aA alw.length cA)) := hid0 (fun V hV => by
    obtain ⟨_, _, _, _, _, _, _, _, _, _, c10⟩ := (hj.past hV).c
    exact ⟨(hV.cell (p := ⟨B, 0, none⟩) (World.block_lt_of_cell? w _ b0)).trans b0, c10⟩)
  generalize (⟨(leB o 4 ++ encW f N).toArray⟩ : ByteArray) = tB at *
  generalize (⟨(encW f N).toArray⟩ : ByteArray) = rB at *
  generalize (⟨pl.toArray⟩ : ByteArray) = pB at *
  clear h2 h3 hj hO hZ hla htab hne hal hLE hME b1 hLl hMl hl1 hl2 b0
  go_enter Tryd.func75, Tryd.ntmps75
  go_upto_region 2 with (go_at_call 73; go_loud ((refine HRe.out.mono ?_; rintro e w1 ⟨rfl, hb1⟩; have HB1 := hid0 hb1; clear hb1)))
  obtain ⟨w2, hw2⟩ : ∃ w2, w2 = w1.alloc (.cells #[.string pB, .slice aE ne.length cE] 103) := ⟨_, rfl⟩
  have hr2 : w2.heap[w1.heap.size]? = some (.cells #[.string pB, .slice aE ne.length cE] 103 (0, 0)) := by rw [hw2]; exact heap_alloc_new w1 _
  have HB2 : Hid (Below w.heap.size w w2) := hid0 (Below.later HB1.out (by rw [hw2]; exact (Below.refl _ _).alloc (Nat.le_refl _) _))
  have HS : Hid (∀ V : World, Below w2.heap.size w2 V → V.cell? ⟨B, 0, none⟩ = some (.pointer (some ⟨J, 0, none⟩)) ∧ V.cell? ⟨J, 10, none⟩ = some (.slice aA alw.length cA) ∧ V.cell? ⟨w1.heap.size, 1, none⟩ = some (.slice aE ne.length cE) ∧ Below w.heap.size w V) := hid0 (fun V hV => by
    have h := Below.later HB2.out hV
    have hq : V.heap[w1.heap.size]? = _ := (hV.block _ (Array.getElem?_eq_some_iff.1 hr2).1).trans hr2
    exact ⟨(HC.out V h).1, (HC.out V h).2, by rw [cell_of_row _ _ _ _ _ _ hq]; rfl, h⟩)
  have HX : Hid (∀ V : World, Below w2.heap.size w2 V → V.cell? ⟨B, 0, none⟩ = some (.pointer (some ⟨J, 0, none⟩)) ∧ V.cell? ⟨J, 10, none⟩ = some (.slice aA alw.length cA) ∧ V.cell? ⟨w1.heap.size, 1, none⟩ = some (.slice aE ne.length cE) ∧ Below w2.heap.size w2 V) := hid0 (fun V hV => ⟨(HS.out V hV).1, (HS.out V hV).2.1, (HS.out V hV).2.2.1, hV⟩)
  have HT : Hid (∀ V : World, Below w2.heap.size w2 V → Calls Tryd.prog 49 #[.pointer (some ⟨J, 0, none⟩), .string rB] V fun e w' => ∃ a c, e = .returned (.slice a LE.length c) ∧ Hid (IA w' a (nI LE) ∧ LE.length ≤ c ∧ (a = none → c = 0)) ∧ Below w2.heap.size w2 w') := hid0 (fun V hV => (HEn.out V (Below.later HB2.out hV)).mono (fun e w' ⟨v, he, ho, hb⟩ => by obtain ⟨a, c, e1, h1, h2, h3⟩ := ho.sl; exact ⟨a, c, by rw [he, e1], hid0 ⟨h1, h2, h3⟩, Below.later hV hb⟩))
  have HU : Hid (∀ (V : World) (a : Option Addr) (c : Nat), Below w2.heap.size w2 V → Hid (IA V a (nI LE) ∧ LE.length ≤ c ∧ (a = none → c = 0)) → Calls Tryd.prog 54 #[.slice aE ne.length cE, .slice a LE.length c] V fun e w' => ∃ a c, e = .returned (.slice a ME.length c) ∧ Hid (IA w' a (nI ME) ∧ ME.length ≤ c ∧ (a = none → c = 0)) ∧ Below w2.heap.size w2 w') := hid0 (fun V a c hV hh => (HM1.out V a c (Below.later HB2.out hV) hh.out.1 hh.out.2.1 hh.out.2.2).mono (fun e w' ⟨v, he, ho, hb⟩ => by obtain ⟨a, c, e1, h1, h2, h3⟩ := ho.sl; exact ⟨a, c, by rw [he, e1], hid0 ⟨h1, h2, h3⟩, Below.later hV hb⟩))
  have HV : Hid (∀ (V : World) (a : Option Addr) (c : Nat), Below w2.heap.size w2 V → Hid (IA V a (nI ME) ∧ ME.length ≤ c ∧ (a = none → c = 0)) → Calls Tryd.prog 54 #[.slice aA alw.length cA, .slice a ME.length c] V fun e w' => ∃ v, e = .returned v ∧ Hid (OwnI w' V.heap.size v (nI (mrg alw ME)) ∧ Below w2.heap.size w2 V) ∧ Below w2.heap.size w2 w') := hid0 (fun V a c hV hh => (HM2.out V a c (Below.later HB2.out hV) hh.out.1 hh.out.2.1 hh.out.2.2).mono (fun e w' ⟨v, he, ho, hb⟩ => ⟨v, he, hid0 ⟨ho, hV⟩, Below.later hV hb⟩))
  obtain ⟨s0, s1, s2, s3⟩ := HX.out w2 (Below.refl _ _)
  have HLow : Hid (w.heap.size ≤ w2.heap.size) := hid0 HB2.out.size
  have q2 := hw2.symm
  clear hw2 hr2 HEn HM1 HM2 HC HS HRe
  rw [q2]
  have M1 : Hid True := trivial
  go_region_held3 (fun V => V.cell? ⟨B, 0, none⟩ = some (.pointer (some ⟨J, 0, none⟩)) ∧ V.cell? ⟨J, 10, none⟩ = some (.slice aA alw.length cA) ∧ V.cell? ⟨w1.heap.size, 1, none⟩ = some (.slice aE ne.length cE) ∧ Below w2.heap.size w2 V) (first | exact HX.out _ (by go_grown) | (go_split_ands; exact HX.out _ (by go_grown)) | (go_split_ands; exact HX.out _ (by assumption)))
    (first
      | (go_at_call 49; go_split_ands; refine (HT.out _ (by go_grown)).mono ?_; rintro e w3 ⟨a3, c3, rfl, H3, hx3⟩)
      | (go_at_call 54; clear M1; go_split_ands; refine (HU.out _ a3 c3 (by go_grown) H3).mono ?_; rintro e w4 ⟨a4, c4, rfl, H4, hx4⟩)
      | (go_at_call 54; go_split_ands; refine (HV.out _ a4 c4 (by go_grown) H4).mono ?_; rintro e w5 ⟨v5, rfl, H5, hx5⟩))
  go_split_ands
  have HX5 := hid0 hx5
  go_wp2
  go_ret
  exact ⟨v5, rfl, H5.out.1.lower (by have := H5.out.2.size; have := HLow.out; omega), Below.later HB2.out HX5.out⟩
end Go.Proofs.YtleeedjpccooaaaDoor
namespace Go.Proofs.YtleeedjpccooaaaDoor
def hasL (l : List Int) (z : Int) : Bool := l.any (· == z)
/-- The places among whose letters a symbol is. -/
def holdF (Le : List (List Int)) (c : Int) (q : Nat) : Bool := hasL (Le.getD q []) c
/-- Where some place of a set leads to, of those below n. -/
def partF (Fo : List (List Int)) (f : Nat → Bool) (n t : Nat) : Bool := (List.range n).any (fun p => f p && hasL (Fo.getD p []) (t : Int))
def nextF (Fo : List (List Int)) (f : Nat → Bool) (t : Nat) : Bool := partF Fo f Fo.length t
/-- The same, with the first k numbers of place q's list. -/
def partK (Fo : List (List Int)) (f : Nat → Bool) (q k t : Nat) : Bool := partF Fo f q t || (f q && hasL ((Fo.getD q []).take k) (t : Int))
def atF (Le : List (List Int)) (nx : Nat → Bool) (c : Int) (q : Nat) : Bool := nx q && holdF Le c q
def lastF (La : List Int) (f : Nat → Bool) : Bool := La.any (fun z => f z.toNat)
def runM (Le Fo : List (List Int)) (La : List Int) : (Nat → Bool) → Int → List Int → Bool
  | nx, c, [] => lastF La (atF Le nx c)
  | nx, c, d :: r => runM Le Fo La (nextF Fo (atF Le nx c)) d r
theorem hasL_nil (z : Int) : hasL [] z = false := rfl
theorem hasL_append (l m : List Int) (z : Int) : hasL (l ++ m) z = (hasL l z || hasL m z) := by simp [hasL]
theorem partF_zero (Fo : List (List Int)) (f : Nat → Bool) (t : Nat) : partF Fo f 0 t = false := rfl
theorem partF_succ (Fo : List (List Int)) (f : Nat → Bool) (n t : Nat) : partF Fo f (n + 1) t = (partF Fo f n t || (f n && hasL (Fo.getD n []) (t : Int))) := by
  simp [partF, List.range_succ]
theorem partK_zero (Fo : List (List Int)) (f : Nat → Bool) (q t : Nat) : partK Fo f q 0 t = partF Fo f q t := by
  simp [partK, hasL_nil]
theorem partK_end (Fo : List (List Int)) (f : Nat → Bool) (q k t : Nat) (h : (Fo.getD q []).length ≤ k) : partK Fo f q k t = partF Fo f (q + 1) t := by
  rw [partK, partF_succ, List.take_of_length_le h]
theorem partK_off (Fo : List (List Int)) (f : Nat → Bool) (q k t : Nat) (h : f q = false) : partK Fo f q k t = partF Fo f (q + 1) t := by
  rw [partK, partF_succ, h, Bool.false_and, Bool.false_and]
theorem partK_succ (Fo : List (List Int)) (f : Nat → Bool) (q k t : Nat) (h : k < (Fo.getD q []).length) (hf : f q = true) : partK Fo f q (k + 1) t = (partK Fo f q k t || ((Fo.getD q [])[k] == (t : Int))) := by
  rw [partK, partK, List.take_succ_eq_append_getElem h, hasL_append, hf, Bool.true_and, Bool.true_and, ← Bool.or_assoc]
  simp [hasL]
theorem runM_none (Le Fo : List (List Int)) (La : List Int) : ∀ (r : List Int) (nx : Nat → Bool) (c : Int), (∀ q, atF Le nx c q = false) → runM Le Fo La nx c r = false
  | [], nx, c, h => by simp [runM, lastF, h]
  | d :: r, nx, c, h => by
    rw [runM]
    refine runM_none Le Fo La r _ d (fun q => ?_)
    have : nextF Fo (atF Le nx c) q = false := by simp [nextF, partF, h]
    simp [atF, this]
theorem atF_congr {Le : List (List Int)} {nx ny : Nat → Bool} {c : Int} (h : ∀ q, q < Le.length → nx q = ny q) : atF Le nx c = atF Le ny c := by
  funext q
  by_cases hq : q < Le.length
  · simp [atF, h q hq]
  · have : holdF Le c q = false := by
      rw [holdF, List.getD_eq_getElem?_getD, List.getElem?_eq_none (by omega)]; rfl
    simp [atF, this]
theorem runM_congr {Le Fo : List (List Int)} {La : List Int} {nx ny : Nat → Bool} {c : Int} {r : List Int} (h : ∀ q, q < Le.length → nx q = ny q) : runM Le Fo La nx c r = runM Le Fo La ny c r := by
  cases r with
  | nil => rw [runM, runM, atF_congr h]
  | cons d r => rw [runM, runM, atF_congr h]
/-- The rest of a word, from the places where the walk is. -/
def contM (Le Fo : List (List Int)) (La : List Int) : (Nat → Bool) → List Int → Bool
  | f, [] => lastF La f
  | f, d :: r => contM Le Fo La (atF Le (nextF Fo f) d) r
theorem run_cont (Le Fo : List (List Int)) (La : List Int) : ∀ (r : List Int) (nx : Nat → Bool) (c : Int), runM Le Fo La nx c r = contM Le Fo La (atF Le nx c) r
  | [], _, _ => rfl
  | d :: r, nx, c => by rw [runM, contM]; exact run_cont Le Fo La r _ d
/-- What Match says. -/
def matM (Le Fo : List (List Int)) (Fi La : List Int) (em : Bool) (word : List Int) : Bool :=
  soundP Le.length Fi La Fo && match word with
    | [] => em
    | c :: r => runM Le Fo La (fun q => hasL Fi (q : Int)) c r
end Go.Proofs.YtleeedjpccooaaaDoor
namespace Go.Proofs.YtleeedjpccooaaaDoor
/-- Does place p hold a symbol, as far as the walk has come: to place k's letter q? -/
def hK (Le : List (List Int)) (k q : Nat) (c : Int) (p : Nat) : Bool := (decide (p < k) && hasL (Le.getD p []) c) || (decide (p = k) && hasL ((Le.getD k []).take q) c)
structure HoldI (ks : List Int) (Le : List (List Int)) (k q : Nat) (T : List (List Int)) : Prop where
  len : T.length = ks.length
  say : ∀ i (h : i < ks.length) (p : Nat), hasL (T.getD i []) (p : Int) = hK Le k q ks[i] p
  inn : ∀ i, (T.getD i []).all (oneOf Le.length) = true
theorem getD_set_same (T : List (List Int)) (i : Nat) (v : List Int) (h : i < T.length) : (T.set i v).getD i [] = v := by
  rw [List.getD_eq_getElem?_getD, List.getElem?_set_self h]; rfl
theorem getD_set_other (T : List (List Int)) (i j : Nat) (v : List Int) (h : ¬ i = j) : (T.set i v).getD j [] = T.getD j [] := by
  rw [List.getD_eq_getElem?_getD, List.getD_eq_getElem?_getD, List.getElem?_set_ne h]
theorem hK_step (Le : List (List Int)) (k q : Nat) (c : Int) (p : Nat) (hk : k < Le.length) (hq : q < (Le[k]).length) : hK Le k (q + 1) c p = (hK Le k q c p || (decide (p = k) && (Le[k])[q] == c)) := by
  have e : Le.getD k [] = Le[k] := by rw [List.getD_eq_getElem?_getD, List.getElem?_eq_getElem hk]; rfl
  unfold hK
  rw [e, List.take_succ_eq_append_getElem hq, hasL_append]
  cases decide (p = k) <;> simp [hasL, Bool.or_assoc]
theorem hold_start (ks : List Int) (Le : List (List Int)) : HoldI ks Le 0 0 (List.replicate ks.length []) := by
  have e : ∀ i, (List.replicate ks.length ([] : List Int)).getD i [] = [] := fun i => by
    rw [List.getD_eq_getElem?_getD, List.getElem?_replicate]
    split <;> rfl
  exact ⟨by simp, fun i h p => by rw [e, hK]; simp [hasL], fun i => by rw [e]; rfl⟩
theorem HoldI.hit {ks : List Int} {Le : List (List Int)} {k q : Nat} {T : List (List Int)} (hn : ks.Nodup) (h : HoldI ks Le k q T) (hk : k < Le.length) (hq : q < (Le[k]).length) (i0 : Nat) (hi : i0 < ks.length) (e : (Le[k])[q] = ks[i0]) : HoldI ks Le k (q + 1) (T.set i0 (T.getD i0 [] ++ [(k : Int)])) where
  len := by rw [List.length_set]; exact h.len
  say := fun i hi' p => by
    rw [hK_step Le k q ks[i] p hk hq, e]
    by_cases hii : i0 = i
    · subst hii
      rw [getD_set_same _ _ _ (by rw [h.len]; exact hi), hasL_append, h.say i0 hi]
      congr 1
      by_cases hp : p = k
      · subst hp; simp [hasL]
      · have h2 : ¬ (k : Int) = (p : Int) := by omega
        simp [hasL, hp, h2]
    · rw [getD_set_other _ _ _ _ hii, h.say i hi']
      have : (ks[i0] == ks[i]) = false := by
        rw [beq_eq_false_iff_ne]
        intro he
        have hp := List.pairwise_iff_getElem.1 hn
        rcases Nat.lt_or_gt_of_ne hii with hlt | hlt
        · exact hp i0 i hi hi' hlt he
        · exact hp i i0 hi' hi hlt he.symm
      rw [this, Bool.and_false, Bool.or_false]
  inn := fun i => by
    by_cases hii : i0 = i
    · subst hii
      rw [getD_set_same _ _ _ (by rw [h.len]; exact hi), List.all_append, h.inn i0]
      simp only [List.all_cons, List.all_nil, Bool.and_true, Bool.true_and]
      rw [oneOf_iff]
      omega
    · rw [getD_set_other _ _ _ _ hii]
      exact h.inn i
theorem HoldI.miss {ks : List Int} {Le : List (List Int)} {k q : Nat} {T : List (List Int)} (h : HoldI ks Le k q T) (hk : k < Le.length) (hq : q < (Le[k]).length) (e : (Le[k])[q] ∉ ks) : HoldI ks Le k (q + 1) T where
  len := h.len
  say := fun i hi' p => by
    rw [hK_step Le k q ks[i] p hk hq, h.say i hi']
    have : ((Le[k])[q] == ks[i]) = false := by
      rw [beq_eq_false_iff_ne]
      exact fun he => e (by rw [he]; exact List.getElem_mem hi')
    rw [this, Bool.and_false, Bool.or_false]
  inn := h.inn
theorem HoldI.next {ks : List Int} {Le : List (List Int)} {k q : Nat} {T : List (List Int)} (h : HoldI ks Le k q T) (hk : k < Le.length) (hq : (Le[k]).length ≤ q) : HoldI ks Le (k + 1) 0 T where
  len := h.len
  say := fun i hi' p => by
    rw [h.say i hi']
    have e : Le.getD k [] = Le[k] := by rw [List.getD_eq_getElem?_getD, List.getElem?_eq_getElem hk]; rfl
    unfold hK
    rw [e, List.take_of_length_le hq, List.take_zero, hasL_nil, Bool.and_false, Bool.or_false]
    by_cases hp : p = k
    · subst hp
      rw [decide_eq_true (show p < p + 1 by omega), decide_eq_false (show ¬ p < p by omega), decide_eq_true (rfl : p = p), e]
      simp
    · rw [decide_eq_false hp, Bool.false_and, Bool.or_false]
      by_cases h1 : p < k
      · rw [decide_eq_true h1, decide_eq_true (show p < k + 1 by omega)]
      · rw [decide_eq_false h1, decide_eq_false (show ¬ p < k + 1 by omega)]
  inn := h.inn
theorem HoldI.whole {ks : List Int} {Le : List (List Int)} {k : Nat} {T : List (List Int)} (h : HoldI ks Le k 0 T) (hk : Le.length ≤ k) (i : Nat) (hi : i < ks.length) (p : Nat) : hasL (T.getD i []) (p : Int) = holdF Le ks[i] p := by
  rw [h.say i hi, hK, List.take_zero, hasL_nil, Bool.and_false, Bool.or_false, holdF]
  by_cases h1 : p < k
  · rw [decide_eq_true h1, Bool.true_and]
  · have : Le.getD p [] = [] := by rw [List.getD_eq_getElem?_getD, List.getElem?_eq_none (by omega)]; rfl
    rw [this, hasL_nil, Bool.and_false]
end Go.Proofs.YtleeedjpccooaaaDoor
namespace Go.Proofs.YtleeedjpccooaaaDoor
open Go.RowKit Go.Shelf Go.Lib Go.Maps
theorem lawI : Keyed Tryd.prog 3 := int_keyed Tryd.underlying3
/-- A number that an int may be. -/
def inI (c : Int) : Prop := (Lit.int .i64 c).wf = true
def keyI (c : Int) : Lit := .int .i64 c
theorem keyI_is (c : Int) : WideAt.IsKeyLit (keyI c) := trivial
theorem keyI_inj {c d : Int} (h : keyI c = keyI d) : c = d := by unfold keyI at h; injection h
/-- A map that has the keys ks, each with its number. -/
structure SaysN (D : DataW Unit) (ks : List Int) : Prop where
  size : Maps.size D = ks.length
  has : ∀ c, Maps.has D (keyI c) = decide (c ∈ ks)
  at' : ∀ i (h : i < ks.length), D.atKey (keyI ks[i]) (.lit (.int .i64 0)) = .lit (.int .i64 (i : Int))
  off : ∀ c, c ∉ ks → D.atKey (keyI c) (.lit (.int .i64 0)) = .lit (.int .i64 0)
theorem saysN_nil : SaysN (.map []) [] := ⟨rfl, fun c => by rfl, fun i h => absurd h (Nat.not_lt_zero _), fun c _ => rfl⟩
theorem saysN_put {D : DataW Unit} {ks : List Int} (h : SaysN D ks) (hT : Tidy D) {c : Int} (hc : c ∉ ks) : SaysN (D.put (keyI c) (.lit (.int .i64 (ks.length : Int)))) (ks ++ [c]) where
  size := by
    rw [size_put hT, h.has, decide_eq_false hc, h.size]
    simp
  has := fun d => by
    by_cases e : d = c
    · subst e
      rw [has_put_same hT.isMap (keyI_is _)]
      simp
    · rw [has_put_other (fun he => e (keyI_inj he)), h.has]
      simp [e]
  at' := fun i hi => by
    by_cases e : i < ks.length
    · rw [List.getElem_append_left e, atKey_put_other (fun he => hc (by rw [← keyI_inj he]; exact List.getElem_mem e)), h.at' i e]
    · have e2 : i = ks.length := by simp at hi; omega
      subst e2
      rw [List.getElem_append_right (Nat.le_refl _)]
      simp only [Nat.sub_self, List.getElem_cons_zero]
      exact atKey_put_same hT.isMap (keyI_is _) _ _
  off := fun d hd => by
    rw [List.mem_append, not_or] at hd
    rw [atKey_put_other (fun he => hd.2 (by rw [keyI_inj he]; simp))]
    exact h.off d hd.1
/-- The block B is the map of the symbols ks. -/
def MapN (w : World) (B : Nat) (ks : List Int) : Prop := ∃ D, w.ownsMap Tryd.prog 3 (plainElem Tryd.prog 3) B ks.length D ∧ SaysN D ks
theorem MapN.lt {w : World} {B : Nat} {ks : List Int} (h : MapN w B ks) : B < w.heap.size := by
  obtain ⟨D, h1, _⟩ := h
  exact h1.lt
theorem MapN.keep {w w' : World} {B : Nat} {ks : List Int} (h : MapN w B ks) (hb : w'.heap[B]? = w.heap[B]?) : MapN w' B ks := by
  obtain ⟨D, ⟨es, clock, h1, h2⟩, hs⟩ := h
  exact ⟨D, ⟨es, clock, hb.trans h1, h2⟩, hs⟩
theorem MapN.made (w : World) : MapN (w.alloc (.map #[] 0)) w.heap.size [] := ⟨_, World.ownsMap_made w _ _ _, saysN_nil⟩
set_option maxRecDepth 100000 in
theorem MapN.look {w : World} {B : Nat} {ks : List Int} (h : MapN w B ks) {i : Nat} (hi : i < ks.length) (hc : inI ks[i]) :
    (Instr.lookup 116 (.map (some B)) (.int .i64 ks[i]) true).run Tryd.prog w = .ok (.tuple #[.int .i64 (i : Int), .bool true]) w := by
  obtain ⟨D, h1, hs⟩ := h
  obtain ⟨v, ps, hrun, hv⟩ := h1.look_ok (t := 116) lawI Tryd.underlying116 (Tryd.zeroValue3 w) (plainElem_int Tryd.underlying3 (by decide)) (keyOf_int_mk Tryd.underlying3 hc)
  obtain ⟨c, rfl, hcc, _⟩ := plainElem_int_inv Tryd.underlying3 hv
  have e := congrArg Prod.fst hcc
  have e2 := hs.at' i hi
  unfold keyI at e2
  simp only [e2] at e
  injection e with e
  injection e with _ e
  have h3 := hs.has ks[i]
  unfold keyI at h3
  rw [hrun, ← e, h3, decide_eq_true (List.getElem_mem hi)]
set_option maxRecDepth 100000 in
theorem MapN.lookNot {w : World} {B : Nat} {ks : List Int} (h : MapN w B ks) {d : Int} (hd : d ∉ ks) (hc : inI d) :
    (Instr.lookup 116 (.map (some B)) (.int .i64 d) true).run Tryd.prog w = .ok (.tuple #[.int .i64 0, .bool false]) w := by
  obtain ⟨D, h1, hs⟩ := h
  obtain ⟨v, ps, hrun, hv⟩ := h1.look_ok (t := 116) lawI Tryd.underlying116 (Tryd.zeroValue3 w) (plainElem_int Tryd.underlying3 (by decide)) (keyOf_int_mk Tryd.underlying3 hc)
  obtain ⟨c, rfl, hcc, _⟩ := plainElem_int_inv Tryd.underlying3 hv
  have e := congrArg Prod.fst hcc
  have e2 := hs.off d hd
  unfold keyI at e2
  simp only [e2] at e
  injection e with e
  injection e with _ e
  have h3 := hs.has d
  unfold keyI at h3
  rw [hrun, ← e, h3, decide_eq_false hd]
set_option maxRecDepth 100000 in
theorem MapN.get {w : World} {B : Nat} {ks : List Int} (h : MapN w B ks) {i : Nat} (hi : i < ks.length) (hc : inI ks[i]) :
    (Instr.lookup 116 (.map (some B)) (.int .i64 ks[i]) false).run Tryd.prog w = .ok (.int .i64 (i : Int)) w := by
  obtain ⟨D, h1, hs⟩ := h
  obtain ⟨c, hrun, e, _⟩ := h1.lookup_int (t := 116) lawI Tryd.underlying116 Tryd.underlying3 (Tryd.zeroValue3 w) (keyOf_int_mk Tryd.underlying3 hc)
  have e2 := hs.at' i hi
  unfold keyI at e2
  rw [e2] at e
  injection e with e
  injection e with _ e
  rw [hrun, ← e]
theorem MapN.len {w : World} {B : Nat} {ks : List Int} (h : MapN w B ks) (ty : TypeId) : (Builtin.len_ #[116] ty #[.map (some B)]).run Tryd.prog w = .ok (.int .i64 (ks.length : Int)) w := by
  obtain ⟨D, h1, hs⟩ := h
  rw [h1.len Tryd.underlying116 ty, hs.size]
theorem MapN.put {w : World} {B : Nat} {ks : List Int} (h : MapN w B ks) {d : Int} (hd : d ∉ ks) (hc : inI d) (hn : ks.length ≤ 1000000000000) :
    ∃ w', (Instr.mapUpdate 116 (.map (some B)) (.int .i64 d) (.int .i64 (ks.length : Int))).run Tryd.prog w = .ok () w' ∧ MapN w' B (ks ++ [d]) ∧ w.grownBy w' (some B) := by
  obtain ⟨D, h1, hs⟩ := h
  have hw : (Lit.int .i64 (ks.length : Int)).wf = true := by simp [Lit.wf, IntKind.min, IntKind.max, IntKind.signed, IntKind.bits]; omega
  obtain ⟨w', hrun, h2, h3⟩ := h1.update (t := 116) lawI Tryd.underlying116 (by unfold maxLen; omega) (keyOf_int_mk Tryd.underlying3 hc) (plainElem_int Tryd.underlying3 hw)
  refine ⟨w', hrun, ⟨_, ?_, saysN_put hs (h1.tidy lawI) hd⟩, h3⟩
  rw [List.length_append]
  exact h2
end Go.Proofs.YtleeedjpccooaaaDoor
namespace Go.Proofs.YtleeedjpccooaaaDoor
open Go.RowKit Go.Shelf
/-- Lists of no great length. -/
def LotLe (ps : Lot) : Prop := ∀ x ∈ ps, x.2.length ≤ 100000000000000
theorem map_set2 {ps : Lot} {y : Nat} (hy : y < ps.length) {v : Value} {x : Int} : (ps.set y (v, (ps[y]).2 ++ [x])).map (·.2) = (ps.map (·.2)).set y ((ps.map (·.2)).getD y [] ++ [x]) := by
  rw [List.map_set, List.getD_eq_getElem?_getD, List.getElem?_map, List.getElem?_eq_getElem hy]
  rfl
set_option maxRecDepth 10000 in
set_option maxHeartbeats 3200000 in
theorem holdersOf_any (B mp : Nat) (ks : List Int) (Le : List (List Int)) (a : Option Addr) (c : Nat) (w : World) (hl : Le.length ≤ 4000000) (hr : ∀ r ∈ Le, r.length ≤ 4000000) (hin : ∀ r ∈ Le, ∀ z ∈ r, inI z) (hkl : ks.length ≤ 4000000) (hnd : ks.Nodup) (ha : RwA w a Le) (hBl : B < w.heap.size) (hB : w.cell? ⟨B, 1, none⟩ = some (.map (some mp))) (hmp : MapN w mp ks) :
    Calls Tryd.prog 79 #[.pointer (some ⟨B, 0, none⟩), .slice a Le.length c] w fun e w' => ∃ v, e = .returned v ∧ ∃ ps, Bag w' w.heap.size v ps ∧ HoldI ks Le Le.length 0 (ps.map (·.2)) ∧ LotLe ps ∧ Below w.heap.size w w' := by
  obtain ⟨i0, hi, hz0, hz1, hz2⟩ := info_parts infoInt
  obtain ⟨j0, hj, hy0, hy1, hy2⟩ := info_parts infoInts
  have HA := hid0 ha
  have HR := hid0 hr
  have HIn := hid0 hin
  have HNd := hid0 hnd
  have HSm := hid0 (fun k => sumL_le hr hl k)
  have HMp : Hid (∀ W, Below w.heap.size w W → MapN W mp ks) := hid0 (fun W hW => hmp.keep (hW.block mp hmp.lt))
  have HBc : Hid (∀ W, Below w.heap.size w W → W.cell? ⟨B, 1, none⟩ = some (.map (some mp))) := hid0 (fun W hW => (hW.cell (p := ⟨B, 1, none⟩) hBl).trans hB)
  have hlen : ∀ ty, (Builtin.len_ #[116] ty #[.map (some mp)]).run Tryd.prog w = .ok (.int .i64 (ks.length : Int)) w := fun ty => hmp.len ty
  have HMl := hid0 hmp.lt
  clear ha hr hin hnd hmp
  go_enter Tryd.func79, Tryd.ntmps79
  go_upto_region 3 with (at_make; refine wpList_make_full _ rfl _ _ 26 rfl w.heap.size 34 j0 (.slice none 0 0) 1 Tryd.underlying26 hj hy0 hy1 .i64 .i64 _ _ ks.length rfl rfl rfl rfl (by rw [hy2]; omega) (by unfold maxLen; omega) (Nat.le_refl _) ?_; intro w1 hown1 hgrow1; have HBg := hid0 (Bag.make hown1); have HB := hid0 ((Below.refl w.heap.size w).grown hgrow1 (Nat.le_refl _) (fun k hk => by cases hk)); clear hown1 hgrow1)
  have HT0 : Hid (HoldI ks Le 0 0 ((List.replicate ks.length ((Value.slice none 0 0, []) : Value × List Int)).map (·.2))) := hid0 (by rw [List.map_replicate]; exact hold_start ks Le)
  have HSz0 : Hid (∀ x ∈ List.replicate ks.length ((Value.slice none 0 0, []) : Value × List Int), x.2.length ≤ sumL (Le.take 0)) := hid0 (fun x hx => by rw [List.eq_of_mem_replicate hx]; simp)
  have HPl0 : Hid ((List.replicate ks.length ((Value.slice none 0 0, []) : Value × List Int)).length = ks.length) := hid0 (by simp)
  clear hlen hB
  go_loopw [20] (fun i w2 => ∃ (k : Nat) (ps : Lot), k ≤ Le.length ∧ i = .int .i64 (k : Int) ∧ Hid (Bag w2 w.heap.size (.slice (some ⟨w.heap.size, 0, none⟩) ks.length ks.length) ps) ∧ Hid (ps.length = ks.length) ∧ Hid (HoldI ks Le k 0 (ps.map (·.2))) ∧ Hid (∀ x ∈ ps, x.2.length ≤ sumL (Le.take k)) ∧ Hid (Below w.heap.size w w2)) (fun i _ => Le.length - (intOf i).toNat)
  case atStart => exact ⟨0, _, Nat.zero_le _, rfl, HBg, HPl0, HT0, HSz0, HB⟩
  case round =>
    clear HBg HPl0 HT0 HSz0 HB
    obtain ⟨k, ps, hk, rfl, HBg, HPl, HT, HSz, HB⟩ := hrel
    have hsk := HSm.out k
    by_cases hlt : k < Le.length
    · obtain ⟨b, off, rfl, _, a1, c1, d1, i1⟩ := (HA.out.past HB.out).at' k hlt
      have hkI : (k : Int) < (Le.length : Int) := by omega
      have hkI0 : (0 : Int) ≤ (k : Int) := by omega
      have hrl := HR.out _ (List.getElem_mem hlt)
      have HInk := hid0 (HIn.out _ (List.getElem_mem hlt))
      have HTk := hid0 (sumL_take hlt)
      have HHit := hid0 (fun q T (h : HoldI ks Le k q T) hq i0 hi e => HoldI.hit HNd.out h hlt hq i0 hi e)
      have HMiss := hid0 (fun q T (h : HoldI ks Le k q T) hq e => HoldI.miss h hlt hq e)
      have HNext := hid0 (fun q T (h : HoldI ks Le k q T) hq => HoldI.next h hlt hq)
      have HIk : Hid (∀ W, Below w.heap.size w W → IA W a1 Le[k]) := hid0 (fun W hW => by
        obtain ⟨b', off', e', _, a1', c1', d1', i1'⟩ := (HA.out.past hW).at' k hlt
        obtain ⟨b2, off2, e2, hb2, a12, c12, d12, _⟩ := HA.out.at' k hlt
        cases e'
        cases e2
        have q1 := (hW.cell (p := ⟨b, off + k, none⟩) hb2).trans d12
        have q2 := (HB.out.cell (p := ⟨b, off + k, none⟩) hb2).trans d12
        rw [q1] at d1'
        rw [q2] at d1
        simp only [Option.some.injEq, Value.slice.injEq] at d1 d1'
        rw [← d1.1, d1'.1]
        exact i1')
      clear i1
      generalize Le[k] = r at *
      generalize sumL (Le.take k) = m at *
      have HSz1 : Hid (∀ x ∈ ps, x.2.length ≤ m + 0) := HSz
      clear HSz
      go_wp2
      go_loopw [27] (fun i w2 => ∃ (q : Nat) (ps : Lot), q ≤ r.length ∧ i = .int .i64 (q : Int) ∧ Hid (Bag w2 w.heap.size (.slice (some ⟨w.heap.size, 0, none⟩) ks.length ks.length) ps) ∧ Hid (ps.length = ks.length) ∧ Hid (HoldI ks Le k q (ps.map (·.2))) ∧ Hid (∀ x ∈ ps, x.2.length ≤ m + q) ∧ Hid (Below w.heap.size w w2)) (fun i _ => r.length - (intOf i).toNat)
      case atStart => exact ⟨0, ps, Nat.zero_le _, rfl, HBg, HPl, HT, HSz1, HB⟩
      case round =>
        clear HBg HPl HT HSz1 HB
        obtain ⟨q, ps, hq, rfl, HBg, HPl, HT, HSz, HB⟩ := hrel
        by_cases hql : q < r.length
        · obtain ⟨b2, off2, rfl, _, d2⟩ := (HIk.out _ HB.out).at' q hql
          have hqI : (q : Int) < (r.length : Int) := by omega
          have hqI0 : (0 : Int) ≤ (q : Int) := by omega
          have hy := HInk.out _ (List.getElem_mem hql)
          have HHit1 := hid0 (fun T h i0 hi e => HHit.out q T h hql i0 hi e)
          have HMiss1 := hid0 (fun T h e => HMiss.out q T h hql e)
          have hBc := HBc.out _ HB.out
          have HMk := hid0 (HMp.out _ HB.out)
          generalize r[q] = y at *
          by_cases hyk : y ∈ ks
          · obtain ⟨yn, hyn0, rfl⟩ := List.mem_iff_getElem.1 hyk
            have hlk := HMk.out.look hyn0 hy
            have hyn : yn < ps.length := by rw [HPl.out]; exact hyn0
            have HT1 := hid0 (HHit1.out _ HT.out yn hyn0 rfl)
            generalize ks[yn] = y at *
            have hyI1 : (yn : Int) < (ks.length : Int) := by omega
            have hyI0 : (0 : Int) ≤ (yn : Int) := by omega
            obtain ⟨cc, ff⟩ := HBg.out.cells HPl.out.symm yn hyn
            have hro := HBg.out.row _ (List.getElem_mem hyn)
            have hszy := HSz.out _ (List.getElem_mem hyn)
            obtain ⟨av, cv, ev, _⟩ := hro.ia
            have HMP := hid0 (fun v => map_set2 (x := (k : Int)) hyn (v := v))
            have HGr := hid0 (fun (w2 : World) (o : Obj) (row : Option Nat) hrow hgrow => HBg.out.grown (w2 := w2) (o := o) (row := row) HPl.out.symm yn hyn hrow hgrow)
            have HSet := hid0 (fun (w1 : World) (v' : Value) (l' : List Int) hk hv hnew => HBg.out.set (w1 := w1) (v' := v') (l' := l') HPl.out.symm yn hyn hk hv hnew)
            have HRo := hid0 hro
            rw [ev] at cc HRo HSet HGr
            have hGs := (World.ownsRow.lt HBg.out.outer w.heap.size rfl).2
            have HMem : Hid (∀ (v' : Value), ∀ x ∈ ps.set yn (v', (ps[yn]).2 ++ [(k : Int)]), x.2.length ≤ m + (q + 1)) := hid0 (fun v' x hx => by
              rcases List.mem_or_eq_of_mem_set hx with hx | rfl
              · have := HSz.out x hx; omega
              · simp; omega)
            have hbs := HB.out.size
            clear hro ev hy hyk HMk HHit1 HMiss1
            generalize (ps[yn]).2 = T at *
            go_wp2_with (at_builtin; go_loud ((
              refine wpList_append_own_at _ rfl _ _ 34 rfl w.heap.size 3 i0 (.int .i64 0) 1 8 Tryd.underlying34 hi hz0 hz1 hz2 rfl (by decide) _ T.length (T.map (Value.int .i64)) rfl (World.ownsRow.alloc HRo.out _) ⟨wr.heap.size, 0, none⟩ 1 1 [.int .i64 (k : Int)] rfl rfl (cell_one_new _ _ _) (by simp [Value.oneCell']) (by unfold maxLen; omega) (by omega) (by simp; omega) ?_
              intro v2 w2 hown2 hgrow2 _ hat2
              obtain ⟨cc2, ff2, hk2⟩ := HGr.out w2 _ _ rfl hgrow2
              have hov : OwnI w2 w.heap.size v2 (T ++ [(k : Int)]) := by { unfold OwnI; rw [List.length_append, List.map_append]; exact hown2 }
              have hbg := HSet.out w2 v2 (T ++ [(k : Int)]) hk2 hov (fun q' hq' => hat2.elim (fun h => .inl (h.symm.trans hq')) (fun h => .inr (by have e := Option.some.inj (h.symm.trans hq'); simp at e; omega)))
              have HBg2 := hid0 hbg
              have hb2 : Below w.heap.size wr w2 := ((Below.refl w.heap.size wr).alloc (by omega) _).grown hgrow2 (by simp; omega) (fun k' hk' => (World.ownsRow.lt HRo.out k' hk').1)
              have HB2 := hid0 ((HB.out.trans (hb2.mono (by omega))).setCell (p := ⟨w.heap.size, yn, none⟩) (by show w.heap.size ≤ w.heap.size; omega) v2)
              obtain ⟨av2, cv2, ev2, _⟩ := hov.ia
              rw [List.length_append, List.length_singleton] at ev2
              subst ev2
              clear hown2 hgrow2 hat2 hov hbg hb2 hk2)))
            have HPl2 : Hid ((ps.set yn (Value.slice av2 (T.length + 1) cv2, T ++ [(k : Int)])).length = ks.length) := hid0 (by rw [List.length_set]; exact HPl.out)
            have HT2 : Hid (HoldI ks Le k (q + 1) ((ps.set yn (Value.slice av2 (T.length + 1) cv2, T ++ [(k : Int)])).map (·.2))) := hid0 (by rw [HMP.out]; exact HT1.out)
            have HSz2 := hid0 (HMem.out (Value.slice av2 (T.length + 1) cv2))
            clear HBg HPl HT HSz HB HMem HMP HSet HGr HRo HT1
            go_roundw
            case rel => exact ⟨q + 1, _, by omega, by go_num, HBg2, HPl2, HT2, HSz2, HB2⟩
            case measure => simp [intOf]; omega
          · have hlk := HMk.out.lookNot hyk hy
            have HT2 := hid0 (HMiss1.out _ HT.out hyk)
            have HSz2 : Hid (∀ x ∈ ps, x.2.length ≤ m + (q + 1)) := hid0 (fun x hx => by have := HSz.out x hx; omega)
            clear hy hyk HMk HHit1 HMiss1 HT HSz
            go_wp2
            go_roundw
            case rel => exact ⟨q + 1, ps, by omega, by go_num, HBg, HPl, HT2, HSz2, HB⟩
            case measure => simp [intOf]; omega
        · have hqI : ¬ (q : Int) < (r.length : Int) := by omega
          have HT2 := hid0 (HNext.out q _ HT.out (by omega))
          have HSz2 : Hid (∀ x ∈ ps, x.2.length ≤ sumL (Le.take (k + 1))) := hid0 (fun x hx => by have := HSz.out x hx; rw [HTk.out]; omega)
          clear HT HSz
          go_wp2
          go_roundw
          case rel => exact ⟨k + 1, ps, by omega, by go_num, HBg, HPl, HT2, HSz2, HB⟩
          case measure => simp [intOf]; omega
    · have hkI : ¬ (k : Int) < (Le.length : Int) := by omega
      have hke : k = Le.length := by omega
      subst hke
      have HBl : Hid (Bag wr w.heap.size (.slice (some ⟨w.heap.size, 0, none⟩) ks.length ks.length) ps) := hid0 ⟨owns_lower HBg.out.outer (by omega), fun x hx => owns_lower (HBg.out.row x hx) (by omega), HBg.out.apart, HBg.out.away⟩
      have HSz2 : Hid (LotLe ps) := hid0 (fun x hx => by have := HSz.out x hx; omega)
      go_wp2
      go_ret
      exact ⟨_, rfl, ps, HBl.out, HT.out, HSz2.out, HB.out⟩
end Go.Proofs.YtleeedjpccooaaaDoor
namespace Go.Proofs.YtleeedjpccooaaaDoor
open Go.RowKit Go.Shelf
theorem zero_blk (m i : Nat) (hi : i < m * 8) : (Builtin.zeroCells zeroBlk.cells m)[i]? = some (.int .u64 0) := by
  have h8 : i % 8 = 0 ∨ i % 8 = 1 ∨ i % 8 = 2 ∨ i % 8 = 3 ∨ i % 8 = 4 ∨ i % 8 = 5 ∨ i % 8 = 6 ∨ i % 8 = 7 := by omega
  have hz : zeroBlk.cells = #[.int .u64 0, .int .u64 0, .int .u64 0, .int .u64 0, .int .u64 0, .int .u64 0, .int .u64 0, .int .u64 0] := by kernel_rfl
  have hs : zeroBlk.cells.size = 8 := by rw [hz]; rfl
  have : (Builtin.zeroCells zeroBlk.cells m)[i]? = some (zeroBlk.cells[i % 8]!) := by
    simp only [Builtin.zeroCells, Array.getElem?_map, Array.getElem?_range, hi, hs, if_true, Option.map_some]
  rw [this, hz]
  rcases h8 with h | h | h | h | h | h | h | h <;> rw [h] <;> rfl
theorem clear_blk (g m : Nat) (f : Nat → Bool) (w : World) (h : BS w g m f) : ∃ w', (∀ ty, (Builtin.clear_ #[117] ty #[.slice (some ⟨g, 0, none⟩) m m]).run Tryd.prog w = .ok (.tuple #[]) w') ∧ BS w' g m (fun _ => false) ∧ Only w w' (fun k => k = g) := by
  obtain ⟨cur, h1, h2⟩ := h.row
  cases m with
  | zero => exact ⟨w, fun ty => by simp [Builtin.clear_, run_underlying Tryd.underlying117, Result.andThen], ⟨⟨cur, h1, fun i hi => absurd hi (Nat.not_lt_zero _)⟩, fun _ _ => rfl⟩, Only.refl _ _⟩
  | succ m =>
    have hzl : (Builtin.zeroCells zeroBlk.cells (m + 1)).toList.length = (m + 1) * 8 := by
      have hs : zeroBlk.cells.size = 8 := by kernel_rfl
      simp [Builtin.zeroCells, hs]
    have hmem : ∀ v ∈ (Builtin.zeroCells zeroBlk.cells (m + 1)).toList, v = .int .u64 0 := fun v hv => by
      obtain ⟨i, hi, rfl⟩ := List.mem_iff_getElem.1 hv
      have := zero_blk (m + 1) i (by rw [hzl] at hi; exact hi)
      rw [← Array.getElem?_toList, List.getElem?_eq_getElem hi] at this
      exact Option.some.inj this
    have hcs : (m + 1) * 8 ≤ cur.size := by
      have := (Array.getElem?_eq_some_iff.1 (h2 (8 * (m + 1) - 1) (by omega))).1
      omega
    have hrun := run_storeCells_at (P := Tryd.prog) g 0 149 (Builtin.zeroCells zeroBlk.cells (m + 1)).toList 0 cur w h1 (by rw [hzl]; omega) (fun v hv => by rw [hmem v hv]; rfl)
    refine ⟨_, fun ty => by simp [Builtin.clear_, run_underlying Tryd.underlying117, Tryd.zeroValue149, Result.andThen, Sem.run_bind]; exact (by rw [show (Value.agg #[.int .u64 0, .int .u64 0, .int .u64 0, .int .u64 0, .int .u64 0, .int .u64 0, .int .u64 0, .int .u64 0]) = zeroBlk from rfl, hrun]), ?_, ?_⟩
    · refine ⟨⟨_, setRow_heap w g cur _ _ _ h1, fun i hi => ?_⟩, fun _ _ => rfl⟩
      rw [wordOf_zero]
      simp only [Nat.zero_add, List.take_zero, List.nil_append, List.getElem?_toArray]
      rw [List.getElem?_append_left (by rw [hzl]; omega), Array.getElem?_toList, zero_blk _ _ (by omega)]
      rfl
    · exact ⟨rfl, rfl, rfl, by simp [World.setRow], fun k _ hk => setRow_other w g k _ hk⟩
/-- Rows of places, one beside the other. -/
structure Rws (w : World) (g m : Nat) (Ls : List (List Int)) (R : Nat → Prop) : Prop where
  lt : g < w.heap.size
  in' : R g
  at' : ∀ k (h : k < Ls.length), ∃ x u v, w.cell? ⟨g, k * 2, none⟩ = some u ∧ w.cell? ⟨g, k * 2 + 1, none⟩ = some v ∧ RowIs w m Ls[k] x (.agg #[u, v]) ∧ ∀ b, x = some b → R b
theorem Rws.only {w w' : World} {g m : Nat} {Ls : List (List Int)} {R S : Nat → Prop} (h : Rws w g m Ls R) (ho : Only w w' S) (hs : ∀ k, R k → ¬ S k) : Rws w' g m Ls R :=
  ⟨Nat.lt_of_lt_of_le h.lt ho.size, h.in', fun k hk => by
    obtain ⟨x, u, v, h1, h2, h3, h4⟩ := h.at' k hk
    exact ⟨x, u, v, (ho.cell (p := ⟨g, k * 2, none⟩) h.lt (hs g h.in')).trans h1, (ho.cell (p := ⟨g, k * 2 + 1, none⟩) h.lt (hs g h.in')).trans h2, h3.only ho (fun b hb => hs b (h4 b hb)), h4⟩⟩
/-- A walk in memory: where it is, and where a step may lead to. -/
structure Wk (w : World) (B gf gh ga gn mp m cF cH : Nat) (ks : List Int) (Fo H : List (List Int)) (fa fx : Nat → Bool) (R : Nat → Prop) : Prop where
  row : w.heap[B]? = some (.cells #[.slice (some ⟨gf, 0, none⟩) Fo.length cF, .map (some mp), .slice (some ⟨gh, 0, none⟩) H.length cH, .slice (some ⟨ga, 0, none⟩) m m, .slice (some ⟨gn, 0, none⟩) m m] 121 (0, 0))
  fo : Rws w gf m Fo R
  ho : Rws w gh m H R
  nu : MapN w mp ks
  at' : BS w ga m fa
  nx : BS w gn m fx
  tab : TabAt 11 Lib.deBruijn64tab w
  tabl : 11 < w.heap.size
  rB : R B
  rm : R mp
  rt : R 11
  ra : ∀ k, R k → ¬ k = ga ∧ ¬ k = gn
  ne : ¬ ga = gn
theorem tab_only {w w' : World} {S : Nat → Prop} (h : TabAt 11 Lib.deBruijn64tab w) (hl : 11 < w.heap.size) (ho : Only w w' S) (hs : ¬ S 11) : TabAt 11 Lib.deBruijn64tab w' := fun j hj => (ho.cell (p := ⟨11, j, none⟩) hl hs).trans (h j hj)
/-- Where the places of a list lead to. -/
def nxF (Fo : List (List Int)) (pre : List Nat) : Nat → Bool := pre.foldl (fun f p => addF (Fo.getD p []) f) (fun _ => false)
theorem nxF_snoc (Fo : List (List Int)) (pre : List Nat) (p : Nat) (hp : p < Fo.length) : nxF Fo (pre ++ [p]) = addF Fo[p] (nxF Fo pre) := by
  unfold nxF
  rw [List.foldl_append]
  simp only [List.foldl_cons, List.foldl_nil]
  rw [List.getD_eq_getElem?_getD, List.getElem?_eq_getElem hp]
  rfl
/-- What is left behind a step: where the walk is. -/
def stepAt (L : List Int) (fx : Nat → Bool) (m : Nat) : Nat → Bool := andTo (addF L (fun _ => false)) fx (64 * (m * 8))
end Go.Proofs.YtleeedjpccooaaaDoor
namespace Go.Proofs.YtleeedjpccooaaaDoor
open Go.RowKit Go.Shelf
theorem Only.afterBelow {w w1 w2 : World} {S : Nat → Prop} {B : Nat} (h : Only w1 w2 S) (hb : Below B w w1) (hB : B ≤ w1.heap.size) (hs : ∀ i, S i → B ≤ i) : Below B w w2 :=
  ⟨h.os.trans hb.os, h.tape.trans hb.tape, h.output.trans hb.output, Nat.le_trans hb.size h.size, fun k hk => (h.block k (by omega) (fun s => by have := hs k s; omega)).trans (hb.block k hk)⟩
def RowR (n : Nat) (L : List Int) (a : Option Addr) (w : World) (e : Ending) (w' : World) : Prop :=
  ∃ x v, e = .returned v ∧ RowIs w' ((n + 511) / 512) L x v ∧ (x = a.map (·.block) ∨ ∃ b, x = some b ∧ w.heap.size ≤ b ∧ b < w'.heap.size) ∧ Below w.heap.size w w'
set_option maxRecDepth 10000 in
set_option maxHeartbeats 1600000 in
theorem rowOf_any (n : Nat) (L : List Int) (a : Option Addr) (c : Nat) (w : World) (hn : n ≤ 100000000) (hl : L.length ≤ 100000000000000) (hall : L.all (oneOf n) = true) (ha : IA w a L) :
    Calls Tryd.prog 78 #[.slice a L.length c, .int .i64 (n : Int)] w (RowR n L a w) := by
  obtain ⟨w0, hw0⟩ : ∃ w0, w0 = w.alloc (.cells #[.slice none 0 0, .slice none 0 0] 142) := ⟨_, rfl⟩
  have hb0 : Below w.heap.size w w0 := by rw [hw0]; exact (Below.refl _ _).alloc (Nat.le_refl _) _
  have hr0 : w0.heap[w.heap.size]? = some (.cells #[.slice none 0 0, .slice none 0 0] 142 (0, 0)) := by rw [hw0]; exact heap_alloc_new w _
  have hs0 : w0.heap.size = w.heap.size + 1 := by rw [hw0]; simp
  have hfold := hw0.symm
  have hn0 : (0 : Int) ≤ (n : Int) := by omega
  have hB2 : ∀ (w1 : World) u v, Below w.heap.size w w1 → Below w.heap.size w ((w1.setCell ⟨w.heap.size, 0, none⟩ u).setCell ⟨w.heap.size, 1, none⟩ v) := fun w1 u v h => (h.setCell (p := ⟨w.heap.size, 0, none⟩) (Nat.le_refl _) u).setCell (p := ⟨w.heap.size, 1, none⟩) (Nat.le_refl _) v
  have hC2 : ∀ (w1 : World), w1.heap[w.heap.size]? = some (.cells #[.slice none 0 0, .slice none 0 0] 142 (0, 0)) → (w1.cell? ⟨w.heap.size, 0, none⟩ = some (.slice none 0 0) ∧ w1.cell? ⟨w.heap.size, 1, none⟩ = some (.slice none 0 0) ∧ w1.frozen? ⟨w.heap.size, 0, none⟩ = false ∧ w1.frozen? ⟨w.heap.size, 1, none⟩ = false) ∧ ∀ u v, ((w1.setCell ⟨w.heap.size, 0, none⟩ u).setCell ⟨w.heap.size, 1, none⟩ v).cell? ⟨w.heap.size, 0, none⟩ = some u ∧ ((w1.setCell ⟨w.heap.size, 0, none⟩ u).setCell ⟨w.heap.size, 1, none⟩ v).cell? ⟨w.heap.size, 1, none⟩ = some v := fun w1 h1 => by
    refine ⟨⟨by rw [cell_of_row _ _ _ _ _ _ h1]; rfl, by rw [cell_of_row _ _ _ _ _ _ h1]; rfl, by simp [World.frozen?, h1], by simp [World.frozen?, h1]⟩, fun u v => ?_⟩
    have h2 := heap_setCell_same w1 w.heap.size 0 _ _ u h1
    have h3 := heap_setCell_same _ w.heap.size 1 _ _ v h2
    exact ⟨by rw [cell_of_row _ _ _ _ _ _ h3]; rfl, by rw [cell_of_row _ _ _ _ _ _ h3]; rfl⟩
  by_cases hsh : L.length ≤ n / 64
  · have hI : (L.length : Int) ≤ (n : Int) / 64 := by omega
    obtain ⟨⟨k0, k1, f0, f1⟩, hk⟩ := hC2 w0 hr0
    obtain ⟨j0, j1⟩ := hk (.slice a L.length c) (.slice none 0 0)
    have HE : Hid (RowR n L a w (.returned (.agg #[.slice a L.length c, .slice none 0 0])) ((w0.setCell ⟨w.heap.size, 0, none⟩ (.slice a L.length c)).setCell ⟨w.heap.size, 1, none⟩ (.slice none 0 0))) := hid0 (by
      exact ⟨_, _, rfl, .short a c (ha.past (hB2 w0 _ _ hb0)), .inl rfl, hB2 w0 _ _ hb0⟩)
    clear hB2 hC2 hb0 hr0 hk ha hall hw0
    go_enter Tryd.func78, Tryd.ntmps78
    go_wp2
    exact bodyPost_ret (v := .agg #[.slice a L.length c, .slice none 0 0]) (by simp [results, Tryd.results78, go_sem, j0, j1]) rfl HE.out
  · have hI : ¬ (L.length : Int) ≤ (n : Int) / 64 := by omega
    have hag : ∀ p, a = some p → p.block < w.heap.size := by
      obtain ⟨b, off, rfl, h1, _⟩ := ha.at' 0 (by omega)
      intro p hp; cases hp; exact h1
    obtain ⟨m, hm⟩ : ∃ m : Nat, m = (n + 511) / 512 := ⟨_, rfl⟩
    have HRm := hid0 (roomFor_any n w0 hn)
    rw [← hm] at HRm
    have HA : Hid (∀ (w1 : World) g, w0.heap.size ≤ g → BS w1 g m (fun _ => false) → Below w0.heap.size w0 w1 → ((w1.alloc (.cells #[.slice none 0 0] 119)).cell? ⟨w1.heap.size, 0, none⟩ = some (.slice none 0 0) ∧ (w1.alloc (.cells #[.slice none 0 0] 119)).frozen? ⟨w1.heap.size, 0, none⟩ = false) ∧ ∀ W, W = w1.alloc (.cells #[.slice (some ⟨g, 0, none⟩) m m] 119) → Calls Tryd.prog 80 #[.pointer (some ⟨w1.heap.size, 0, none⟩), .slice a L.length c] W fun e w' => e = .returned (.tuple #[]) ∧ w'.cell? ⟨w1.heap.size, 0, none⟩ = some (.slice (some ⟨g, 0, none⟩) m m) ∧ w'.heap[w.heap.size]? = some (.cells #[.slice none 0 0, .slice none 0 0] 142 (0, 0)) ∧ (∀ u v, RowR n L a w (.returned (.agg #[.slice none 0 0, .slice (some ⟨g, 0, none⟩) m m])) ((w'.setCell ⟨w.heap.size, 0, none⟩ u).setCell ⟨w.heap.size, 1, none⟩ v))) := hid0 (by
      intro w1 g hg hbs hb1
      have hr1 := heap_alloc_new w1 (.cells #[.slice none 0 0] 119)
      refine ⟨⟨by rw [cell_of_row _ _ _ _ _ _ hr1]; rfl, by simp only [World.frozen?, hr1]; rfl⟩, ?_⟩
      rintro W rfl
      have hgl := hbs.lt
      have hsz := hb1.size
      have hr2 := heap_alloc_new w1 (.cells #[.slice (some ⟨g, 0, none⟩) m m] 119)
      have hbW : Below w0.heap.size w0 (w1.alloc (.cells #[.slice (some ⟨g, 0, none⟩) m m] 119)) := hb1.alloc (by omega) _
      have hbW1 : Below w1.heap.size w1 (w1.alloc (.cells #[.slice (some ⟨g, 0, none⟩) m m] 119)) := (Below.refl _ w1).alloc (Nat.le_refl _) _
      have hbw : Below w.heap.size w _ := Below.later hb0 hbW
      refine (addAll_any w1.heap.size 0 g m n (fun _ => false) L a c _ hl (by omega) (by omega) hall (by simp) (by omega) (by rw [cell_of_row _ _ _ _ _ _ hr2]; rfl) (ha.past hbw) (fun p hp e => by have := hag p hp; omega) (hbs.kept (hbW1.block g hgl))).mono ?_
      rintro e w' ⟨rfl, hb', ho'⟩
      have hx : w'.heap[w.heap.size]? = some (.cells #[.slice none 0 0, .slice none 0 0] 142 (0, 0)) := by
        rw [ho'.block w.heap.size (by have := hbW.size; omega) (by omega), hbW.block w.heap.size (by omega)]; exact hr0
      have hbb : Below w.heap.size w w' := ho'.afterBelow hbw (by have := hbW.size; omega) (fun i hi => by omega)
      refine ⟨rfl, ?_, hx, fun u v => ⟨some g, _, rfl, ?_, .inr ⟨g, rfl, by omega, by have := hb'.lt; simpa using this⟩, hB2 _ _ _ hbb⟩⟩
      · rw [ho'.cell (p := ⟨w1.heap.size, 0, none⟩) (by show w1.heap.size < _; simp) (by show ¬ w1.heap.size = g; omega), cell_of_row _ _ _ _ _ _ hr2]; rfl
      · rw [← hm]
        refine .long g (hb'.kept ?_)
        rw [Below.heap_setCell _ _ _ _ (by show g ≠ w.heap.size; omega), Below.heap_setCell _ _ _ _ (by show g ≠ w.heap.size; omega)])
    have HC2 := hid0 hC2
    clear hB2 hC2 hb0 hr0 ha hall hw0 hag hm
    go_enter Tryd.func78, Tryd.ntmps78
    go_wp2_with (first
      | (go_at_call 77; refine HRm.out.mono ?_; rintro e w1 ⟨g, rfl, hg, hbs, hb1⟩; obtain ⟨⟨y0, y1⟩, ha2⟩ := HA.out w1 g hg hbs hb1; have HA2 := hid0 ha2; clear hbs hb1 ha2)
      | (go_at_call 80; go_loud ((refine (HA2.out _ rfl).mono ?_; rintro e w2 ⟨rfl, z0, hx2, hend⟩; obtain ⟨⟨k0, k1, f0, f1⟩, hk⟩ := HC2.out w2 hx2; obtain ⟨j0, j1⟩ := hk (.slice none 0 0) (.slice (some ⟨g, 0, none⟩) m m); have HE := hid0 hend; clear hx2 hend hk))))
    exact bodyPost_ret (v := .agg #[.slice none 0 0, .slice (some ⟨g, 0, none⟩) m m]) (by simp [results, Tryd.results78, go_sem, j0, j1]) rfl (HE.out _ _)
end Go.Proofs.YtleeedjpccooaaaDoor
namespace Go.Proofs.YtleeedjpccooaaaDoor
open Go.RowKit Go.Shelf
theorem infoRow : (Tryd.prog.info? 142).map (fun i => (i.zero, i.size, i.bytes)) = some (some (.agg #[.slice none 0 0, .slice none 0 0]), 2, 48) := by kernel_rfl
/-- Rows that are made. -/
def Made (W : World) (g n : Nat) : Prop := ∃ cur, W.heap[g]? = some (.cells cur 142 (0, 0)) ∧ n * 2 ≤ cur.size
theorem Made.keep {W W' : World} {g n : Nat} (h : Made W g n) (hb : W'.heap[g]? = W.heap[g]?) : Made W' g n := by
  obtain ⟨cur, h1, h2⟩ := h
  exact ⟨cur, hb.trans h1, h2⟩
theorem Made.lt {W : World} {g n : Nat} (h : Made W g n) : g < W.heap.size := by
  obtain ⟨cur, h1, _⟩ := h
  exact (Array.getElem?_eq_some_iff.1 h1).1
theorem Made.cell {W : World} {g n : Nat} (h : Made W g n) (i : Nat) (hi : i < n * 2) : (∃ u, W.cell? ⟨g, i, none⟩ = some u) ∧ W.frozen? ⟨g, i, none⟩ = false := by
  obtain ⟨cur, h1, h2⟩ := h
  refine ⟨⟨cur[i]'(by omega), ?_⟩, by simp [World.frozen?, h1]⟩
  rw [cell_of_row _ _ _ _ _ _ h1]
  exact Array.getElem?_eq_getElem (by omega)
theorem Made.set {W : World} {g n : Nat} (h : Made W g n) (i : Nat) (u : Value) : Made (W.setCell ⟨g, i, none⟩ u) g n := by
  obtain ⟨cur, h1, h2⟩ := h
  exact ⟨_, heap_setCell_same W g i _ _ u h1, by simpa using h2⟩
theorem make_rows (n : Nat) (w : World) (hn : n ≤ 4000000) : ∃ w', (Instr.makeSlice 115 (.int .i64 (n : Int)) (.int .i64 (n : Int))).run Tryd.prog w = .ok (.slice (some ⟨w.heap.size, 0, none⟩) n n) w' ∧ Made w' w.heap.size n ∧ Below w.heap.size w w' := by
  obtain ⟨i0, hi, hz0, hz1, hz2⟩ := info_parts infoRow
  obtain ⟨w', h1, h2, h3⟩ := run_make_full (P := Tryd.prog) w w.heap.size 115 142 i0 _ 2 Tryd.underlying115 hi hz0 hz1 .i64 .i64 n (by rw [hz2]; omega) (by unfold maxLen; omega) (Nat.le_refl _)
  refine ⟨w', h1, ?_, (Below.refl _ _).grown h3 (Nat.le_refl _) (fun k hk => by cases hk)⟩
  rcases h2.2 with ⟨hv, _⟩ | ⟨g, cap, cur, hv, _, hr, hc, _, hsz, _⟩
  · simp at hv
  · simp only [Value.slice.injEq, Option.some.injEq, Addr.mk.injEq] at hv
    obtain ⟨⟨hg, _⟩, _, hcap⟩ := hv
    subst hg; subst hcap
    exact ⟨cur, hr, by omega⟩
theorem make_map (w : World) : ∃ w', (Instr.makeMap 116 none).run Tryd.prog w = .ok (.map (some w.heap.size)) w' ∧ MapN w' w.heap.size [] ∧ Below w.heap.size w w' :=
  ⟨_, rfl, MapN.made w, (Below.refl _ _).alloc (Nat.le_refl _) _⟩
/-- A walk as it begins. -/
structure NwI (w0 W : World) (n m gF mp ga gn B : Nat) : Prop where
  row : W.heap[B]? = some (.cells #[.slice (some ⟨gF, 0, none⟩) n n, .map (some mp), .slice none 0 0, .slice (some ⟨ga, 0, none⟩) m m, .slice (some ⟨gn, 0, none⟩) m m] 121 (0, 0))
  fol : Made W gF n
  nu : MapN W mp []
  at' : BS W ga m (fun _ => false)
  nx : BS W gn m (fun _ => false)
  bel : Below w0.heap.size w0 W
  lo : w0.heap.size ≤ gF ∧ w0.heap.size ≤ mp ∧ w0.heap.size ≤ ga ∧ w0.heap.size ≤ gn ∧ w0.heap.size ≤ B
  ne : ¬ gF = mp ∧ ¬ gF = ga ∧ ¬ gF = gn ∧ ¬ gF = B ∧ ¬ mp = ga ∧ ¬ mp = gn ∧ ¬ mp = B ∧ ¬ ga = gn ∧ ¬ ga = B ∧ ¬ gn = B
theorem BS.below {w w' : World} {g m : Nat} {f : Nat → Bool} (h : BS w g m f) (hb : Below w.heap.size w w') : BS w' g m f := h.kept (hb.block g h.lt)
theorem MapN.below {w w' : World} {B : Nat} {ks : List Int} (h : MapN w B ks) (hb : Below w.heap.size w w') : MapN w' B ks := h.keep (hb.block B h.lt)
theorem Made.below {w w' : World} {g n : Nat} (h : Made w g n) (hb : Below w.heap.size w w') : Made w' g n := h.keep (hb.block g h.lt)
end Go.Proofs.YtleeedjpccooaaaDoor
namespace Go.Proofs.YtleeedjpccooaaaDoor
open Go.RowKit Go.Shelf
theorem RowIs.shape {w : World} {m : Nat} {L : List Int} {x : Option Nat} {v : Value} (h : RowIs w m L x v) : ∃ a1 n1 c1 a2 n2 c2, v = .agg #[.slice a1 n1 c1, .slice a2 n2 c2] := by
  cases h with
  | short a c h => exact ⟨_, _, _, _, _, _, rfl⟩
  | long g h => exact ⟨_, _, _, _, _, _, rfl⟩
/-- Lists of numbers in memory, in blocks that there are. -/
structure RwB (w : World) (a : Option Addr) (L : List (List Int)) : Prop where
  at' : ∀ k (h : k < L.length), ∃ b off, a = some ⟨b, off, none⟩ ∧ b < w.heap.size ∧ ∃ a1 c1, w.cell? ⟨b, off + k, none⟩ = some (.slice a1 (L[k]).length c1) ∧ IA w a1 L[k] ∧ ∀ p, a1 = some p → p.block < w.heap.size
theorem RwB.past {w w' : World} {a : Option Addr} {L : List (List Int)} (h : RwB w a L) (hb : Below w.heap.size w w') : RwB w' a L := ⟨fun k hk => by
  obtain ⟨b, off, rfl, h1, a1, c1, h2, h3, h4⟩ := h.at' k hk
  exact ⟨b, off, rfl, Nat.lt_of_lt_of_le h1 hb.size, a1, c1, (hb.cell (p := ⟨b, off + k, none⟩) h1).trans h2, h3.past hb, fun p hp => Nat.lt_of_lt_of_le (h4 p hp) hb.size⟩⟩
/-- Blocks other than those of the walk. -/
def Oth (gF mp ga gn B b : Nat) : Prop := ¬ b = gF ∧ ¬ b = mp ∧ ¬ b = ga ∧ ¬ b = gn ∧ ¬ b = B
/-- The first k rows. -/
structure FolI (W : World) (g m k : Nat) (Ls : List (List Int)) (Rb : Nat → Prop) : Prop where
  at' : ∀ i (h : i < Ls.length), i < k → ∃ x u v, W.cell? ⟨g, i * 2, none⟩ = some u ∧ W.cell? ⟨g, i * 2 + 1, none⟩ = some v ∧ RowIs W m Ls[i] x (.agg #[u, v]) ∧ ∀ b, x = some b → b < W.heap.size ∧ Rb b
theorem FolI.only {W W' : World} {g m k : Nat} {Ls : List (List Int)} {Rb S : Nat → Prop} (h : FolI W g m k Ls Rb) (hg : g < W.heap.size) (ho : Only W W' S) (hs : ¬ S g) (hb : ∀ b, Rb b → ¬ S b) : FolI W' g m k Ls Rb := ⟨fun i hi hk => by
  obtain ⟨x, u, v, h1, h2, h3, h4⟩ := h.at' i hi hk
  exact ⟨x, u, v, (ho.cell (p := ⟨g, i * 2, none⟩) hg hs).trans h1, (ho.cell (p := ⟨g, i * 2 + 1, none⟩) hg hs).trans h2, h3.only ho (fun b e => hb b (h4 b e).2), fun b e => ⟨Nat.lt_of_lt_of_le (h4 b e).1 ho.size, (h4 b e).2⟩⟩⟩
theorem cell_two {W : World} {g n i j : Nat} (h : Made W g n) (u v : Value) (hi : i < n * 2) : ((W.setCell ⟨g, j, none⟩ u).setCell ⟨g, j + 1, none⟩ v).cell? ⟨g, i, none⟩ = if i = j + 1 then some v else if i = j then some u else W.cell? ⟨g, i, none⟩ := by
  obtain ⟨cur, h1, h2⟩ := h
  have e1 := heap_setCell_same W g j _ _ u h1
  have e2 := heap_setCell_same _ g (j + 1) _ _ v e1
  have hc : i < cur.size := by omega
  rw [cell_of_row _ _ _ _ _ _ e2, cell_of_row _ _ _ _ _ _ h1]
  by_cases h3 : i = j + 1
  · subst h3
    rw [if_pos rfl]
    simp [hc]
  · rw [if_neg h3]
    by_cases h4 : i = j
    · subst h4
      rw [if_pos rfl, Array.getElem?_setIfInBounds_ne (by omega)]
      simp [hc]
    · rw [if_neg h4, Array.getElem?_setIfInBounds_ne (by omega), Array.getElem?_setIfInBounds_ne (by omega)]
/-- Row k is put. -/
theorem FolI.put {W : World} {g m k n : Nat} {Ls : List (List Int)} {Rb : Nat → Prop} (h : FolI W g m k Ls Rb) (hM : Made W g n) (hn : Ls.length ≤ n) (hg : ∀ b, Rb b → ¬ b = g) (hk : k < Ls.length) (x : Option Nat) (u v : Value) (hr : RowIs W m Ls[k] x (.agg #[u, v])) (hx : ∀ b, x = some b → b < W.heap.size ∧ Rb b) :
    FolI ((W.setCell ⟨g, k * 2, none⟩ u).setCell ⟨g, k * 2 + 1, none⟩ v) g m (k + 1) Ls Rb := by
  have ho : Only W ((W.setCell ⟨g, k * 2, none⟩ u).setCell ⟨g, k * 2 + 1, none⟩ v) (fun b => b = g) := (Only.setCell W g (k * 2) u).trans (Only.setCell _ g (k * 2 + 1) v) (fun i hi => .inl hi)
  refine ⟨fun i hi hk' => ?_⟩
  rw [cell_two hM u v (show i * 2 < n * 2 by omega), cell_two hM u v (show i * 2 + 1 < n * 2 by omega)]
  by_cases e : i = k
  · subst e
    rw [if_neg (show ¬ i * 2 = i * 2 + 1 by omega), if_pos rfl, if_pos rfl]
    exact ⟨x, u, v, rfl, rfl, hr.only ho (fun b e => hg b (hx b e).2), fun b e => ⟨Nat.lt_of_lt_of_le (hx b e).1 ho.size, (hx b e).2⟩⟩
  · obtain ⟨x', u', v', h1, h2, h3, h4⟩ := h.at' i hi (by omega)
    rw [if_neg (by omega), if_neg (by omega), if_neg (by omega), if_neg (by omega)]
    exact ⟨x', u', v', h1, h2, h3.only ho (fun b e => hg b (h4 b e).2), fun b e => ⟨Nat.lt_of_lt_of_le (h4 b e).1 ho.size, (h4 b e).2⟩⟩
/-- A walk that is being made. -/
structure NwL (w0 W : World) (n m gF mp ga gn B k : Nat) (ks : List Int) (Fo : List (List Int)) (vH : Value) : Prop where
  row : W.heap[B]? = some (.cells #[.slice (some ⟨gF, 0, none⟩) n n, .map (some mp), vH, .slice (some ⟨ga, 0, none⟩) m m, .slice (some ⟨gn, 0, none⟩) m m] 121 (0, 0))
  fol : Made W gF n
  rws : FolI W gF m k Fo (Oth gF mp ga gn B)
  nu : MapN W mp ks
  at' : BS W ga m (fun _ => false)
  nx : BS W gn m (fun _ => false)
  bel : Below w0.heap.size w0 W
def Apart5 (w0 : World) (gF mp ga gn B : Nat) : Prop := (w0.heap.size ≤ gF ∧ w0.heap.size ≤ mp ∧ w0.heap.size ≤ ga ∧ w0.heap.size ≤ gn ∧ w0.heap.size ≤ B) ∧ ¬ gF = mp ∧ ¬ gF = ga ∧ ¬ gF = gn ∧ ¬ gF = B ∧ ¬ mp = ga ∧ ¬ mp = gn ∧ ¬ mp = B ∧ ¬ ga = gn ∧ ¬ ga = B ∧ ¬ gn = B
theorem NwI.begin {w0 W : World} {n m gF mp ga gn B : Nat} (Fo : List (List Int)) (h : NwI w0 W n m gF mp ga gn B) : NwL w0 W n m gF mp ga gn B 0 [] Fo (.slice none 0 0) ∧ Apart5 w0 gF mp ga gn B :=
  ⟨⟨h.row, h.fol, ⟨fun _ _ hk => absurd hk (Nat.not_lt_zero _)⟩, h.nu, h.at', h.nx, h.bel⟩, h.lo, h.ne⟩
theorem NwL.past {w0 W W' : World} {n m gF mp ga gn B k : Nat} {ks : List Int} {Fo : List (List Int)} {vH : Value} (h : NwL w0 W n m gF mp ga gn B k ks Fo vH) (hb : Below W.heap.size W W') : NwL w0 W' n m gF mp ga gn B k ks Fo vH :=
  ⟨(hb.block B (Array.getElem?_eq_some_iff.1 h.row).1).trans h.row, h.fol.below hb, h.rws.only h.fol.lt (Only.ofNew hb (fun _ => False)) (fun e => e) (fun _ _ e => e), h.nu.below hb, h.at'.below hb, h.nx.below hb, h.bel.trans (hb.mono h.bel.size)⟩
theorem NwL.put {w0 W : World} {n m gF mp ga gn B k : Nat} {ks : List Int} {Fo : List (List Int)} {vH : Value} (h : NwL w0 W n m gF mp ga gn B k ks Fo vH) (hA : Apart5 w0 gF mp ga gn B) (hn : Fo.length ≤ n) (hk : k < Fo.length) (x : Option Nat) (u v : Value) (hr : RowIs W m Fo[k] x (.agg #[u, v])) (hx : ∀ b, x = some b → b < W.heap.size ∧ Oth gF mp ga gn B b) :
    NwL w0 ((W.setCell ⟨gF, k * 2, none⟩ u).setCell ⟨gF, k * 2 + 1, none⟩ v) n m gF mp ga gn B (k + 1) ks Fo vH := by
  obtain ⟨⟨l1, l2, l3, l4, l5⟩, n1, n2, n3, n4, n5, n6, n7, n8, n9, n10⟩ := hA
  have hb : ∀ b, ¬ b = gF → ((W.setCell ⟨gF, k * 2, none⟩ u).setCell ⟨gF, k * 2 + 1, none⟩ v).heap[b]? = W.heap[b]? := fun b hb => by
    rw [Below.heap_setCell _ _ _ b hb, Below.heap_setCell _ _ _ b hb]
  exact ⟨(hb B (fun e => n4 e.symm)).trans h.row, (h.fol.set _ _).set _ _, h.rws.put h.fol hn (fun b hb => hb.1) hk x u v hr hx, h.nu.keep (hb mp (fun e => n1 e.symm)), h.at'.kept (hb ga (fun e => n2 e.symm)), h.nx.kept (hb gn (fun e => n3 e.symm)), (h.bel.setCell (p := ⟨gF, k * 2, none⟩) l1 u).setCell (p := ⟨gF, k * 2 + 1, none⟩) l1 v⟩
theorem NwL.map {w0 W W' : World} {n m gF mp ga gn B k : Nat} {ks ks' : List Int} {Fo : List (List Int)} {vH : Value} (h : NwL w0 W n m gF mp ga gn B k ks Fo vH) (hA : Apart5 w0 gF mp ga gn B) (hg : W.grownBy W' (some mp)) (hm : MapN W' mp ks') : NwL w0 W' n m gF mp ga gn B k ks' Fo vH := by
  obtain ⟨⟨l1, l2, l3, l4, l5⟩, n1, n2, n3, n4, n5, n6, n7, n8, n9, n10⟩ := hA
  have ho : Only W W' (fun b => b = mp) := ⟨hg.os, hg.tape, hg.output, hg.size, fun i hi hs => hg.block i hi (fun e => hs (Option.some.inj e))⟩
  exact ⟨(ho.block B (Array.getElem?_eq_some_iff.1 h.row).1 (fun e => n7 e.symm)).trans h.row, h.fol.keep (ho.block gF h.fol.lt n1), h.rws.only h.fol.lt ho n1 (fun b hb => hb.2.1), hm, h.at'.only ho (fun e => n5 e.symm), h.nx.only ho (fun e => n6 e.symm), h.bel.trans (ho.below h.bel.size (fun i hi => by subst hi; exact l2))⟩
theorem NwL.setH {w0 W : World} {n m gF mp ga gn B k : Nat} {ks : List Int} {Fo : List (List Int)} {vH : Value} (h : NwL w0 W n m gF mp ga gn B k ks Fo vH) (hA : Apart5 w0 gF mp ga gn B) (v : Value) : NwL w0 (W.setCell ⟨B, 2, none⟩ v) n m gF mp ga gn B k ks Fo v := by
  obtain ⟨⟨l1, l2, l3, l4, l5⟩, n1, n2, n3, n4, n5, n6, n7, n8, n9, n10⟩ := hA
  have ho := Only.setCell W B 2 v
  exact ⟨heap_setCell_same _ _ 2 _ _ v h.row, h.fol.keep (ho.block gF h.fol.lt n4), h.rws.only h.fol.lt ho n4 (fun b hb => hb.2.2.2.2), h.nu.keep (ho.block mp h.nu.lt n7), h.at'.only ho n9, h.nx.only ho n10, h.bel.setCell (p := ⟨B, 2, none⟩) l5 v⟩
theorem NwL.cells {w0 W : World} {n m gF mp ga gn B k : Nat} {ks : List Int} {Fo : List (List Int)} {vH : Value} (h : NwL w0 W n m gF mp ga gn B k ks Fo vH) : W.cell? ⟨B, 0, none⟩ = some (.slice (some ⟨gF, 0, none⟩) n n) ∧ W.cell? ⟨B, 1, none⟩ = some (.map (some mp)) ∧ W.cell? ⟨B, 2, none⟩ = some vH ∧ W.frozen? ⟨B, 2, none⟩ = false :=
  ⟨by rw [cell_of_row _ _ _ _ _ _ h.row]; rfl, by rw [cell_of_row _ _ _ _ _ _ h.row]; rfl, by rw [cell_of_row _ _ _ _ _ _ h.row]; rfl, by simp [World.frozen?, h.row]⟩
/-- The rows of holders that have been added. -/
def HolI (W Wb : World) (m k : Nat) (H : List (List Int)) (Rb : Nat → Prop) (vH : Value) : Prop := ∃ xs, W.ownsRow Wb.heap.size 142 2 vH k xs ∧ ∀ i (h : i < H.length), i < k → ∃ x u v, xs[i * 2]? = some u ∧ xs[i * 2 + 1]? = some v ∧ RowIs W m H[i] x (.agg #[u, v]) ∧ ∀ b, x = some b → (b < W.heap.size ∧ Rb b) ∧ vH.ownBlock ≠ some b
theorem HolI.begin (W Wb : World) (m : Nat) (H : List (List Int)) (Rb : Nat → Prop) : HolI W Wb m 0 H Rb (.slice none 0 0) := ⟨[], World.ownsRow_nil _ _ _ _, fun _i _ hk => absurd hk (Nat.not_lt_zero _)⟩
theorem HolI.only {W W' Wb : World} {m k : Nat} {H : List (List Int)} {Rb S : Nat → Prop} {vH : Value} (h : HolI W Wb m k H Rb vH) (ho : Only W W' S) (hs : ∀ b, S b → b < Wb.heap.size) (hb : ∀ b, Rb b → ¬ S b) : HolI W' Wb m k H Rb vH := by
  obtain ⟨xs, h1, h2⟩ := h
  refine ⟨xs, own_blk h1 (fun g hg => ho.block g (World.ownsRow.lt h1 g hg).2 (fun s => by have := hs g s; have := (World.ownsRow.lt h1 g hg).1; omega)), fun i hi hk => ?_⟩
  obtain ⟨x, u, v, e1, e2, h3, h4⟩ := h2 i hi hk
  exact ⟨x, u, v, e1, e2, h3.only ho (fun b e => hb b (h4 b e).1.2), fun b e => ⟨⟨Nat.lt_of_lt_of_le (h4 b e).1.1 ho.size, (h4 b e).1.2⟩, (h4 b e).2⟩⟩
/-- One more row. -/
theorem HolI.put {W1 W2 Wb : World} {m k : Nat} {H : List (List Int)} {Rb : Nat → Prop} {vH v' : Value} {xs : List Value} (h1 : W1.ownsRow Wb.heap.size 142 2 vH k xs)
    (h2 : ∀ i (h : i < H.length), i < k → ∃ x u v, xs[i * 2]? = some u ∧ xs[i * 2 + 1]? = some v ∧ RowIs W1 m H[i] x (.agg #[u, v]) ∧ ∀ b, x = some b → (b < W1.heap.size ∧ Rb b) ∧ vH.ownBlock ≠ some b) (hk : k < H.length)
    (x : Option Nat) (u v : Value) (hr : RowIs W1 m H[k] x (.agg #[u, v])) (hx : ∀ b, x = some b → (b < W1.heap.size ∧ Rb b) ∧ vH.ownBlock ≠ some b) (hown : W2.ownsRow Wb.heap.size 142 2 v' (k + 1) (xs ++ [u, v])) (hg : W1.grownBy W2 vH.ownBlock) (hat : v'.ownBlock = vH.ownBlock ∨ v'.ownBlock = some W1.heap.size) :
    HolI W2 Wb m (k + 1) H Rb v' := by
  have hl : xs.length = k * 2 := by
    have e1 := h1.1
    exact e1
  have ho : Only W1 W2 (fun b => vH.ownBlock = some b) := ⟨hg.os, hg.tape, hg.output, hg.size, fun i hi hs => hg.block i hi (fun e => hs e.symm)⟩
  have hne : ∀ b, b < W1.heap.size → vH.ownBlock ≠ some b → v'.ownBlock ≠ some b := fun b hb hn e => by
    rcases hat with h | h
    · exact hn (h ▸ e)
    · rw [h] at e
      have := Option.some.inj e
      omega
  refine ⟨_, hown, fun i hi hk' => ?_⟩
  by_cases e : i = k
  · subst e
    refine ⟨x, u, v, ?_, ?_, hr.only ho (fun b e => (hx b e).2), fun b e => ⟨⟨Nat.lt_of_lt_of_le (hx b e).1.1 ho.size, (hx b e).1.2⟩, hne b (hx b e).1.1 (hx b e).2⟩⟩
    · rw [List.getElem?_append_right (by omega), hl, Nat.sub_self]; rfl
    · rw [List.getElem?_append_right (by omega), hl, show i * 2 + 1 - i * 2 = 1 by omega]; rfl
  · obtain ⟨x', u', v'', q1, q2, q3, q4⟩ := h2 i hi (by omega)
    have b1 := (List.getElem?_eq_some_iff.1 q1).1
    have b2 := (List.getElem?_eq_some_iff.1 q2).1
    refine ⟨x', u', v'', ?_, ?_, q3.only ho (fun b e => (q4 b e).2), fun b e => ⟨⟨Nat.lt_of_lt_of_le (q4 b e).1.1 ho.size, (q4 b e).1.2⟩, hne b (q4 b e).1.1 (q4 b e).2⟩⟩
    · rw [List.getElem?_append_left b1]; exact q1
    · rw [List.getElem?_append_left b2]; exact q2
theorem Bag.rwb {w : World} {base : Nat} {v : Value} {ps : Lot} (h : Bag w base v ps) {H : List (List Int)} (hH : ps.map (fun x : Value × List Int => x.2) = H) : ∃ a c, v = .slice a H.length c ∧ ∀ k (hk : k < H.length), ∃ b, a = some ⟨b, 0, none⟩ ∧ base ≤ b ∧ b < w.heap.size ∧ ∃ a1 c1, w.cell? ⟨b, k, none⟩ = some (.slice a1 (H[k]).length c1) ∧ IA w a1 H[k] ∧ ∀ p, a1 = some p → base ≤ p.block ∧ p.block < w.heap.size := by
  subst hH
  have h0 := h.outer
  rcases h0.2 with ⟨hv, hn⟩ | ⟨g, cap, cur, hv, hg, _⟩
  · have hps : ps = [] := List.eq_nil_of_length_eq_zero (by omega)
    subst hps
    exact ⟨none, 0, hv, fun k hk => by simp at hk⟩
  · refine ⟨some ⟨g, 0, none⟩, cap, by rw [hv, List.length_map], fun k hk => ?_⟩
    have hk' : k < ps.length := by simpa using hk
    have hr := h.row ps[k] (List.getElem_mem hk')
    have hr0 := hr
    rw [hv] at h0
    obtain ⟨a1, c1, e1, hq⟩ := hr.ia
    refine ⟨g, rfl, hg, (World.ownsRow.lt h0 g rfl).2, a1, c1, ?_, ?_, ?_⟩
    · rw [World.ownsRow.cellAt h0 k (by omega)]
      simp [hk', e1]
    · simp only [List.getElem_map]
      exact hq
    · rintro p rfl
      rcases hr0.2 with ⟨hv1, _⟩ | ⟨g1, cap1, cur1, hv1, _⟩
      · rw [e1] at hv1
        cases hv1
      · rw [e1] at hv1
        simp only [Value.slice.injEq, Option.some.injEq] at hv1
        obtain ⟨rfl, _⟩ := hv1
        exact World.ownsRow.lt hr0 g1 (by rw [e1]; rfl)
theorem NwL.onlyB {w0 Wb W : World} {n m gF mp ga gn B k : Nat} {ks : List Int} {Fo : List (List Int)} {v0 vH : Value} (h : NwL w0 Wb n m gF mp ga gn B k ks Fo v0) (hA : Apart5 w0 gF mp ga gn B) (ho : Only Wb W (fun b => b = B))
    (hr : W.heap[B]? = some (.cells #[.slice (some ⟨gF, 0, none⟩) n n, .map (some mp), vH, .slice (some ⟨ga, 0, none⟩) m m, .slice (some ⟨gn, 0, none⟩) m m] 121 (0, 0))) : NwL w0 W n m gF mp ga gn B k ks Fo vH := by
  obtain ⟨⟨l1, l2, l3, l4, l5⟩, n1, n2, n3, n4, n5, n6, n7, n8, n9, n10⟩ := hA
  exact ⟨hr, h.fol.keep (ho.block gF h.fol.lt n4), h.rws.only h.fol.lt ho n4 (fun b hb => hb.2.2.2.2), h.nu.keep (ho.block mp h.nu.lt n7), h.at'.only ho n9, h.nx.only ho n10, h.bel.trans (ho.below h.bel.size (fun i hi => by subst hi; exact l5))⟩
end Go.Proofs.YtleeedjpccooaaaDoor
namespace Go.Proofs.YtleeedjpccooaaaDoor
open Go.RowKit Go.Shelf
/-- What newWalk leaves. -/
def NwR (w : World) (Le Fo : List (List Int)) (Fi Wd : List Int) (e : Ending) (w' : World) : Prop := ∃ B gf gh ga gn mp cF cH ks H, e = .returned (.pointer (some ⟨B, 0, none⟩)) ∧ Wk w' B gf gh ga gn mp ((Le.length + 511) / 512) cF cH ks Fo H (fun _ => false) (addF Fi (fun _ => false)) (fun k => ¬ k = ga ∧ ¬ k = gn) ∧
  (∀ c ∈ Wd, c ∈ ks) ∧ (∀ c ∈ ks, inI c) ∧ ks.length ≤ 4000000 ∧ HoldI ks Le Le.length 0 H ∧ (∀ r ∈ H, r.length ≤ 100000000000000) ∧ (w.heap.size ≤ ga ∧ w.heap.size ≤ gn) ∧ Below w.heap.size w w'
theorem drew_below (w : World) : Below w.heap.size w w.drew := ⟨rfl, rfl, rfl, Nat.le_refl _, fun _ _ => rfl⟩
theorem cell_pair_new (w : World) (u v : Value) (t : TypeId) : ∀ j x, [u, v][j]? = some x → (w.alloc (.cells #[u, v] t)).cell? ((⟨w.heap.size, 0, none⟩ : Addr).add j) = some x := by
  intro j x h
  rw [Addr.add_lit, cell_of_row _ w.heap.size _ _ _ _ (heap_alloc_new w _), Nat.zero_add]
  simpa using h
theorem below_drew {w w2 : World} (h : Below w.drew.heap.size w.drew w2) : Below w.heap.size w w2 := ⟨h.os, h.tape, h.output, h.size, h.block⟩
theorem oth_old {w0 : World} {gF mp ga gn B b : Nat} (h : Apart5 w0 gF mp ga gn B) (hb : b < w0.heap.size) : Oth gF mp ga gn B b := by
  obtain ⟨⟨l1, l2, l3, l4, l5⟩, _⟩ := h
  exact ⟨by omega, by omega, by omega, by omega, by omega⟩
theorem oth_new {w0 W : World} {n m gF mp ga gn B k b : Nat} {ks : List Int} {Fo : List (List Int)} {vH : Value} (h : NwL w0 W n m gF mp ga gn B k ks Fo vH) (hb : W.heap.size ≤ b) : Oth gF mp ga gn B b := by
  have h1 := h.fol.lt
  have h2 := h.nu.lt
  have h3 := h.at'.lt
  have h4 := h.nx.lt
  have h5 := (Array.getElem?_eq_some_iff.1 h.row).1
  exact ⟨by omega, by omega, by omega, by omega, by omega⟩
theorem nw_end {w w0 Wb W w2 : World} {Le Fo H : List (List Int)} {Fi Wd ks : List Int} {m gF mp ga gn B : Nat} {v0 vH : Value} (hm : m = (Le.length + 511) / 512) (hb0 : Below w.heap.size w w0) (hLb : NwL w0 Wb Le.length m gF mp ga gn B Fo.length ks Fo v0) (hL : NwL w0 W Le.length m gF mp ga gn B Fo.length ks Fo vH) (hA : Apart5 w0 gF mp ga gn B)
    (hH : HolI W Wb m H.length H (Oth gF mp ga gn B) vH) (hHp : 0 < H.length) (hFl : Fo.length = Le.length) (hadd : BS w2 gn m (addF Fi (fun _ => false))) (ho : Only W w2 (fun k => k = gn)) (hT : TabAt 11 Lib.deBruijn64tab w) (hT11 : 11 < w.heap.size)
    (h1 : ∀ c ∈ Wd, c ∈ ks) (h2 : ∀ c ∈ ks, inI c) (h3 : ks.length ≤ 4000000) (h4 : HoldI ks Le Le.length 0 H) (h5 : ∀ r ∈ H, r.length ≤ 100000000000000) : NwR w Le Fo Fi Wd (.returned (.pointer (some ⟨B, 0, none⟩))) w2 := by
  subst hm
  have hA0 := hA
  obtain ⟨⟨l1, l2, l3, l4, l5⟩, n1, n2, n3, n4, n5, n6, n7, n8, n9, n10⟩ := hA
  obtain ⟨xs, hox, hrx⟩ := hH
  obtain ⟨gh, cH, rfl, hg1, hg2, hg3⟩ := own_form hox hHp
  have ka := hLb.at'.lt
  have kn := hLb.nx.lt
  have hsz := hb0.size
  have hbw2 : Below w.heap.size w w2 := Below.later hb0 (hL.bel.trans (ho.below hL.bel.size (fun i hi => by subst hi; exact l4)))
  have hf2 := hL.rws.only hL.fol.lt ho n3 (fun b hb => hb.2.2.2.1)
  refine ⟨B, gF, gh, ga, gn, mp, Le.length, cH, ks, H, rfl, ⟨?_, ?_, ?_, hL.nu.keep (ho.block mp hL.nu.lt n6), hL.at'.only ho n8, hadd, fun j hj => (hbw2.cell (p := ⟨11, j, none⟩) hT11).trans (hT j hj), Nat.lt_of_lt_of_le hT11 hbw2.size, ⟨fun e => n9 e.symm, fun e => n10 e.symm⟩, ⟨n5, n6⟩, ⟨by omega, by omega⟩, fun k hk => hk, n8⟩, h1, h2, h3, h4, h5, ⟨by omega, by omega⟩, hbw2⟩
  · rw [hFl]
    exact (ho.block B (Array.getElem?_eq_some_iff.1 hL.row).1 (fun e => n10 e.symm)).trans hL.row
  · refine ⟨Nat.lt_of_lt_of_le hL.fol.lt ho.size, ⟨n2, n3⟩, fun k hk => ?_⟩
    obtain ⟨x, u, v, e1, e2, e3, e4⟩ := hf2.at' k hk hk
    exact ⟨x, u, v, e1, e2, e3, fun b hb => ⟨(e4 b hb).2.2.2.1, (e4 b hb).2.2.2.2.1⟩⟩
  · refine ⟨Nat.lt_of_lt_of_le hg2 ho.size, ⟨by omega, by omega⟩, fun k hk => ?_⟩
    obtain ⟨x, u, v, e1, e2, e3, e4⟩ := hrx k hk hk
    have hcell : ∀ j y, xs[j]? = some y → w2.cell? ⟨gh, j, none⟩ = some y := fun j y hy => by
      rw [ho.cell (p := ⟨gh, j, none⟩) hg2 (by show ¬ gh = gn; omega)]
      have hl : xs.length = H.length * 2 := hox.1
      have hj := (List.getElem?_eq_some_iff.1 hy).1
      rw [World.ownsRow.cellAt hox j (by omega)]
      exact hy
    exact ⟨x, u, v, hcell _ _ e1, hcell _ _ e2, e3.only ho (fun b hb => (e4 b hb).1.2.2.2.2.1), fun b hb => ⟨(e4 b hb).1.2.2.2.1, (e4 b hb).1.2.2.2.2.1⟩⟩
end Go.Proofs.YtleeedjpccooaaaDoor
namespace Go.Proofs.YtleeedjpccooaaaDoor
theorem addF_has (L : List Int) (q : Nat) : addF L (fun _ => false) q = hasL L (q : Int) := by
  unfold addF hasL
  rw [Bool.or_false]
  rfl
theorem nxF_any (Fo : List (List Int)) (t : Nat) : ∀ (pre : List Nat) (f : Nat → Bool), (pre.foldl (fun f p => addF (Fo.getD p []) f) f) t = (pre.any (fun p => hasL (Fo.getD p []) (t : Int)) || f t)
  | [], f => by simp
  | p :: r, f => by
    rw [List.foldl_cons, nxF_any Fo t r, List.any_cons]
    have : addF (Fo.getD p []) f t = (hasL (Fo.getD p []) (t : Int) || f t) := rfl
    rw [this]
    cases hasL (Fo.getD p []) (t : Int) <;> simp
theorem nxF_next (Fo : List (List Int)) (f : Nat → Bool) (n : Nat) (hf : ∀ q, f q = true → q < Fo.length) (hn : Fo.length ≤ n) : nxF Fo (plB f n) = nextF Fo f := by
  funext t
  unfold nxF nextF partF plB
  rw [nxF_any, Bool.or_false, Bool.eq_iff_iff, List.any_eq_true, List.any_eq_true]
  constructor
  · rintro ⟨p, hp, h⟩
    rw [List.mem_filter] at hp
    exact ⟨p, List.mem_range.2 (hf p hp.2), by rw [hp.2, h]; rfl⟩
  · rintro ⟨p, hp, h⟩
    rw [Bool.and_eq_true] at h
    exact ⟨p, List.mem_filter.2 ⟨List.mem_range.2 (by have := List.mem_range.1 hp; omega), h.1⟩, h.2⟩
theorem hold_lt {Le : List (List Int)} {c : Int} {q : Nat} (h : holdF Le c q = true) : q < Le.length := by
  apply Classical.byContradiction
  intro hq
  rw [holdF, List.getD_eq_getElem?_getD, List.getElem?_eq_none (by omega)] at h
  cases h
theorem at_lt {Le : List (List Int)} {nx : Nat → Bool} {c : Int} {q : Nat} (h : atF Le nx c q = true) : q < Le.length := by
  unfold atF at h
  rw [Bool.and_eq_true] at h
  exact hold_lt h.2
theorem stepAt_at {Le : List (List Int)} {L : List Int} {fx : Nat → Bool} {m : Nat} {c : Int} (hL : ∀ p : Nat, hasL L (p : Int) = holdF Le c p) (hm : Le.length ≤ 512 * m) : stepAt L fx m = atF Le fx c := by
  funext q
  unfold stepAt andTo atF
  rw [addF_has, hL]
  by_cases h : holdF Le c q = true
  · have := hold_lt h
    rw [h, decide_eq_false (show ¬ 64 * (m * 8) ≤ q by omega)]
    simp
  · rw [Bool.not_eq_true] at h
    rw [h]
    simp
/-- What is left to be said, from where the walk is and where a step may lead to. -/
def cM (Le Fo : List (List Int)) (La : List Int) (fa fx : Nat → Bool) : List Int → Bool
  | [] => lastF La fa
  | d :: r => contM Le Fo La (atF Le fx d) r
theorem cM_next (Le Fo : List (List Int)) (La : List Int) (f : Nat → Bool) : ∀ l, cM Le Fo La f (nextF Fo f) l = contM Le Fo La f l
  | [] => rfl
  | _ :: _ => rfl
theorem cM_drop {Le Fo : List (List Int)} {La : List Int} {fa fx : Nat → Bool} {Wd : List Int} {k : Nat} (hk : k < Wd.length) : cM Le Fo La fa fx (Wd.drop k) = cM Le Fo La (atF Le fx Wd[k]) (nextF Fo (atF Le fx Wd[k])) (Wd.drop (k + 1)) := by
  rw [List.drop_eq_getElem_cons hk, cM_next]
  rfl
theorem cont_none (Le Fo : List (List Int)) (La : List Int) : ∀ (l : List Int) (f : Nat → Bool), (∀ q, f q = false) → contM Le Fo La f l = false
  | [], f, h => by simp [contM, lastF, h]
  | d :: r, f, h => by
    rw [contM]
    refine cont_none Le Fo La r _ (fun q => ?_)
    have : nextF Fo f q = false := by simp [nextF, partF, h]
    simp [atF, this]
theorem cM_start {Le Fo : List (List Int)} {Fi La : List Int} {em : Bool} {Wd : List Int} (hs : soundP Le.length Fi La Fo = true) (hw : 0 < Wd.length) : cM Le Fo La (fun _ => false) (addF Fi (fun _ => false)) (Wd.drop 0) = matM Le Fo Fi La em Wd := by
  cases Wd with
  | nil => simp at hw
  | cons c r =>
    rw [matM, hs, Bool.true_and, List.drop_zero, cM, run_cont]
    have : addF Fi (fun _ => false) = fun q : Nat => hasL Fi (q : Int) := by funext q; exact addF_has Fi q
    rw [this]
theorem em_none {Le : List (List Int)} {fx : Nat → Bool} {c : Int} {m : Nat} (h : emF (atF Le fx c) m = true) (hm : Le.length ≤ 512 * m) (q : Nat) : atF Le fx c q = false := by
  by_cases hq : q < 512 * m
  · exact (emF_iff _ _).1 h q hq
  · cases h2 : atF Le fx c q with
    | false => rfl
    | true => have := at_lt h2; omega
end Go.Proofs.YtleeedjpccooaaaDoor
namespace Go.Proofs.YtleeedjpccooaaaDoor
/-- An append whose run is known, as one step of a region that draws. -/
theorem step_append_run {P : Program} {ops : Array Oper} {o : Oper} {a : Act} {w : World} {K : Act → World → Prop} {Q : Exit → Act → World → Prop} {E : Prop}
    (hg : o.guard = none) (s x : Operand) (t : TypeId) (hop : o.op = Op.call { callee := Callee.builtin Builtin.append, args := #[s, x], argTypes := #[t, t] })
    (v1 v2 v' : Value) (w' : World) (hrun : (Builtin.append_ #[t, t] o.type #[v1, v2]).run P w = .ok v' w') (hs : a.eval s = v1) (hx : a.eval x = v2) (hK : K (a.put o.dst v') w') :
    if Region.wanted o (yielded ops a.tmps) = true then Oper.wp P o a w K Q else E := by
  have hw : Region.wanted o (yielded ops a.tmps) = true := by simp [Region.wanted, hg]
  rw [if_pos hw]
  unfold Oper.wp
  simp [execOp, hop, resolve, invoke, builtin, hs, hx, hrun, Result.andThen]
  exact hK
end Go.Proofs.YtleeedjpccooaaaDoor
