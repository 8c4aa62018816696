/-
  LdKW, LdLM.
-/
import Derived.Test.YtbdjnmbhphflbaaGreatDoorLdOW
import Derived.Test.YtbdjnmbhphflbaaGreatDoorLcEW
namespace Go.Proofs.YtbdjnmbhphflbaaGreatDoor
open Go.RowKit Go.Shelf Go.Lib
theorem own_cap {w : World} {lo t s g n m cap : Nat} {xs : List Value} (h : w.ownsRow lo t s (.slice (some ⟨g, 0, none⟩) m cap) n xs) : n ≤ cap := by
  rcases h.2 with ⟨hv, _⟩ | ⟨g', cap', cur, hv, _, _, hc, _⟩
  · cases hv
  · injection hv with _ _ e
    rw [e]
    exact hc
theorem below_drew' {B : Nat} {w a : World} (h : Below B w a) (n : Nat) : Below B w (a.drewN n) := ⟨h.os, h.tape, h.output, h.size, h.block⟩
set_option maxRecDepth 10000 in
set_option maxHeartbeats 3200000 in
theorem kept_any (L : List Sec) (S : List SecAt) (a : Option Addr) (c g cap lo : Nat) (w : World) (hl : L.length ≤ 1000000) (hb : ∀ s ∈ L, s.ed.length ≤ 1000000000) (hcap : L.length + 64 ≤ cap) (hS : S.map (·.s) = L) (hG : Giv w lo (.slice (some ⟨g, 0, none⟩) (L.length + 64) cap) S 64) (ha : XA w a L) :
    Calls Tryz.prog 23 #[.agg #[.slice (some ⟨g, 0, none⟩) L.length cap], .agg #[.slice a L.length c]] w fun e w' => e = .returned (.bool true) ∧ Below w.heap.size w w' := by
  obtain ⟨w0, hw0⟩ : ∃ w0, w0 = (w.alloc (.cells #[.slice (some ⟨g, 0, none⟩) L.length cap] 24)).alloc (.cells #[.slice a L.length c] 24) := ⟨_, rfl⟩
  have hs0 : w0.heap.size = w.heap.size + 2 := by rw [hw0]; simp
  have hB0 : Below w.heap.size w w0 := by rw [hw0]; exact ((Below.refl _ _).alloc (Nat.le_refl _) _).alloc (by simp) _
  have hX0 : w0.heap[w.heap.size]? = some (.cells #[.slice (some ⟨g, 0, none⟩) L.length cap] 24 (0, 0)) := by
    rw [hw0]
    exact (Below.heap_alloc _ _ _ (by simp)).trans (heap_alloc_new w _)
  have hX1 : w0.heap[w.heap.size + 1]? = some (.cells #[.slice a L.length c] 24 (0, 0)) := by
    rw [hw0]
    have h := heap_alloc_new (w.alloc (.cells #[.slice (some ⟨g, 0, none⟩) L.length cap] 24)) (.cells #[.slice a L.length c] 24)
    rw [show (w.alloc (.cells #[.slice (some ⟨g, 0, none⟩) L.length cap] 24)).heap.size = w.heap.size + 1 by simp] at h
    exact h
  have hSl : S.length = L.length := by have h := congrArg List.length hS; rw [List.length_map] at h; exact h
  have hG0 : Giv w0 lo (.slice (some ⟨g, 0, none⟩) (L.length + 64) cap) S 64 := hG.keep (fun q _ hq => hB0.block q hq)
  have HX : Hid (∀ W, Below w0.heap.size w0 W → W.cell? ⟨w.heap.size, 0, none⟩ = some (.slice (some ⟨g, 0, none⟩) L.length cap) ∧ W.cell? ⟨w.heap.size + 1, 0, none⟩ = some (.slice a L.length c)) := hid0 (fun W hW => by
    have hr := (hW.block w.heap.size (by omega)).trans hX0
    have hq := (hW.block (w.heap.size + 1) (by omega)).trans hX1
    exact ⟨by rw [cell_of_row _ _ _ _ _ _ hr]; rfl, by rw [cell_of_row _ _ _ _ _ _ hq]; rfl⟩)
  have HXA : Hid (∀ W, Below w0.heap.size w0 W → XA W a L) := hid0 (fun W hW => (ha.later hB0).later hW)
  have HGW : Hid (∀ W, Below w0.heap.size w0 W → Giv W lo (.slice (some ⟨g, 0, none⟩) (L.length + 64) cap) S 64) := hid0 (fun W hW => hG0.keep (fun q _ hq => hW.block q hq))
  have HS := hid0 hS
  have HSl := hid0 hSl
  have HBD := hid0 hb
  have HB0 := hid0 hB0
  obtain ⟨x0, x1⟩ := HX.out w0 (Below.refl _ _)
  have hfold := hw0.symm
  clear hw0 hs0 hB0 hX0 hX1 hSl hG0 hG ha hS hb
  go_enter Tryz.func23, Tryz.ntmps23
  go_wp2
  clear x0 x1 hfold
  go_loopw [5] (fun i wr => ∃ k : Nat, k ≤ L.length ∧ i = .int .i64 (k : Int) ∧ Hid (Below w0.heap.size w0 wr)) (fun i _ => L.length - (intOf i).toNat)
  case atStart => exact ⟨0, Nat.zero_le _, rfl, hid0 (Below.refl _ _)⟩
  case round =>
    obtain ⟨k, hk, rfl, HB⟩ := hrel
    obtain ⟨wo, hwo⟩ : ∃ wo, wo = wr := ⟨_, rfl⟩
    subst hwo
    obtain ⟨x0, x1⟩ := HX.out wo HB.out
    by_cases hlt : k < L.length
    · obtain ⟨b, off, ae, ce, rfl, hbl, c0, c1, c2, hea⟩ := (HXA.out wo HB.out).at' k hlt
      have hGk := HGW.out wo HB.out
      have hkS : k < S.length := by have := HSl.out; omega
      obtain ⟨s0, s1, s2⟩ := cellsX_at S k hkS
      have hlX := cellsX_length S
      have hLs := HSl.out
      have hrow := hGk.row
      rw [hLs] at hrow
      have g0 : wo.cell? ⟨g, k * 3, none⟩ = some (.string S[k].s.loc) := by rw [World.ownsRow.cellAt hrow _ (by omega), List.getElem?_append_left (by omega)]; exact s0
      have g1 : wo.cell? ⟨g, k * 3 + 1, none⟩ = some (.string S[k].s.par) := by rw [World.ownsRow.cellAt hrow _ (by omega), List.getElem?_append_left (by omega)]; exact s1
      have g2 : wo.cell? ⟨g, k * 3 + 2, none⟩ = some (.slice (some ⟨S[k].blk, 0, none⟩) S[k].s.ed.length S[k].cap) := by rw [World.ownsRow.cellAt hrow _ (by omega), List.getElem?_append_left (by omega)]; exact s2
      have hLk : L[k] = S[k].s := by have h := HS.out; subst h; simp
      have hEd := hGk.ed S[k] (List.getElem_mem hkS)
      have hEa := hGk.ea S[k] (List.getElem_mem hkS)
      have hcE := own_cap hEd
      have hed := HBD.out L[k] (List.getElem_mem hlt)
      rw [hLk] at c0 c1 c2 hea hed
      generalize S[k].blk = e at *
      generalize S[k].cap = cE at *
      generalize S[k].s = sc at *
      obtain ⟨lo', pa, ed⟩ := sc
      simp only at c0 c1 c2 g0 g1 g2 hed hea hEd hEa hcE
      have hkI : (k : Int) < (L.length : Int) := by omega
      have hkI0 : (0 : Int) ≤ (k : Int) := by omega
      have d0 := cell_al x0 (.cells #[.string lo', .string pa, .slice (some ⟨e, 0, none⟩) ed.length cE] 27)
      have d1 := cell_al x1 (.cells #[.string lo', .string pa, .slice (some ⟨e, 0, none⟩) ed.length cE] 27)
      have d2 := cell_al c0 (.cells #[.string lo', .string pa, .slice (some ⟨e, 0, none⟩) ed.length cE] 27)
      have d3 := cell_al c1 (.cells #[.string lo', .string pa, .slice (some ⟨e, 0, none⟩) ed.length cE] 27)
      have d4 := cell_al c2 (.cells #[.string lo', .string pa, .slice (some ⟨e, 0, none⟩) ed.length cE] 27)
      have HEA := hid0 hea
      have HEM := hid0 hEa
      clear hLk hGk hrow s0 s1 s2 hEd hea hEa hlX hkS hLs
      go_wp2
      obtain ⟨w1, hw1⟩ : ∃ w1, w1 = wo.alloc (.cells #[.string lo', .string pa, .slice (some ⟨e, 0, none⟩) ed.length cE] 27) := ⟨_, rfl⟩
      have hb1 : Below wo.heap.size wo w1 := by rw [hw1]; exact (Below.refl _ _).alloc (Nat.le_refl _) _
      have hr1 : w1.heap[wo.heap.size]? = some (.cells #[.string lo', .string pa, .slice (some ⟨e, 0, none⟩) ed.length cE] 27 (0, 0)) := by rw [hw1]; exact heap_alloc_new wo _
      rw [← hw1] at d0 d1 d2 d3 d4 ⊢
      obtain ⟨f0, f1, f2, f3⟩ := sec_cells hr1
      have HE1 := hid0 (HEA.out.later hb1)
      have HM1 := hid0 (HEM.out.later hb1)
      have HD : Hid (∀ n, Below w1.heap.size w1 (w1.drewN n)) := hid0 (fun n => ⟨rfl, rfl, rfl, Nat.le_refl _, fun _ _ => rfl⟩)
      have HB1 := hid0 (Below.later HB.out hb1)
      have q0 : (0 : Int) ≤ (ed.length : Int) := by omega
      have q1 : (ed.length : Int) + 64 ≤ (cE : Int) := by omega
      have q2 : IntKind.i64.wrap ((ed.length : Int) + 64) = (ed.length : Int) + 64 := by simp [IntKind.wrap, IntKind.bits, IntKind.signed]; omega
      have q3 : (0 : Int) ≤ (ed.length : Int) + 64 := by omega
      have r0 : (lo'.toList == lo'.toList) = true := by simp
      have r1 : (pa.toList == pa.toList) = true := by simp
      clear hw1 hb1 hr1 HEA HEM g0 g1 g2 c0 c1 c2 x0 x1
      go_quiet ((go_at_call 42; exact Calls.quiet_of (edits_any ed (some ⟨e, 0, none⟩) ae cE ce _ hed (HM1.out.front.later (HD.out _)) (HE1.out.later (HD.out _)))))
      go_wp2
      go_quiet ((fail))
      go_wp2
      clear d0 d1 d2 d3 d4 f0 f1 f2 f3 HE1
      have HMk : Hid (∀ W, Below w1.heap.size w1 W → ∀ p : Nat, ed.length ≤ p → p < ed.length + 64 → W.cell? ⟨e, p * 2 + 1, none⟩ = some (.string ⟨#[109, 97, 114, 107]⟩)) := hid0 (fun W hW p h1 h2 => by
        obtain ⟨b', o', e', hlt', _, h3⟩ := (HM1.out.later hW).at' p (by rw [List.length_append, marksE, List.length_replicate]; exact h2)
        cases e'
        rw [List.getElem_append_right h1] at h3
        simp only [marksE, List.getElem_replicate, Nat.zero_add, markB] at h3
        exact h3)
      have HDD : Hid (∀ n m, Below w1.heap.size w1 ((w1.drewN n).drewN m)) := hid0 (fun n m => ⟨rfl, rfl, rfl, Nat.le_refl _, fun _ _ => rfl⟩)
      clear HM1
      go_loopw [10] (fun i wi => ∃ p : Nat, ed.length ≤ p ∧ p ≤ ed.length + 64 ∧ i = .int .i64 (p : Int) ∧ Hid (Below w1.heap.size w1 wi)) (fun i _ => ed.length + 64 - (intOf i).toNat)
      case atStart => exact ⟨ed.length, Nat.le_refl _, by omega, rfl, hid0 (HDD.out _ _)⟩
      case round =>
        obtain ⟨p, hp1, hp2, rfl, HBi⟩ := hrel
        by_cases hlt2 : p < ed.length + 64
        · have m0 := HMk.out wr HBi.out p hp1 hlt2
          have p0 : (0 : Int) ≤ (p : Int) := by omega
          have p1 : (p : Int) < (ed.length : Int) + 64 := by omega
          go_wp2
          go_roundw
          case rel => exact ⟨p + 1, by omega, by omega, by go_num, HBi⟩
          case measure => simp [intOf]; omega
        · have p1 : ¬ (p : Int) < (ed.length : Int) + 64 := by omega
          have HBN := hid0 (Below.later HB1.out HBi.out)
          go_wp2
          go_roundw
          case rel => exact ⟨k + 1, by omega, by go_num, HBN⟩
          case measure => simp [intOf]; omega
    · have hkI : ¬ (k : Int) < (L.length : Int) := by omega
      have q0 : (0 : Int) ≤ (L.length : Int) := by omega
      have q1 : (L.length : Int) + 64 ≤ (cap : Int) := by omega
      have q2 : IntKind.i64.wrap ((L.length : Int) + 64) = (L.length : Int) + 64 := by simp [IntKind.wrap, IntKind.bits, IntKind.signed]; omega
      have q3 : (0 : Int) ≤ (L.length : Int) + 64 := by omega
      have HMk : Hid (∀ W, Below w0.heap.size w0 W → ∀ p : Nat, L.length ≤ p → p < L.length + 64 → W.cell? ⟨g, p * 3, none⟩ = some (.string ⟨#[109, 97, 114, 107]⟩)) := hid0 (fun W hW p h1 h2 => by
        have hrow := (HGW.out W hW).row
        have hLs := HSl.out
        rw [hLs] at hrow
        have hlX := cellsX_length S
        rw [World.ownsRow.cellAt hrow _ (by omega), List.getElem?_append_right (by omega), hlX, hLs, show p * 3 - L.length * 3 = (p - L.length) * 3 by omega]
        exact markX_at 64 (p - L.length) (by omega))
      go_wp2
      go_loopw [12] (fun i wi => ∃ p : Nat, L.length ≤ p ∧ p ≤ L.length + 64 ∧ i = .int .i64 (p : Int) ∧ Hid (Below w0.heap.size w0 wi)) (fun i _ => L.length + 64 - (intOf i).toNat)
      case atStart => exact ⟨L.length, Nat.le_refl _, by omega, rfl, HB⟩
      case round =>
        clear x0 x1
        obtain ⟨p, hp1, hp2, rfl, HBi⟩ := hrel
        by_cases hlt2 : p < L.length + 64
        · have m0 := HMk.out wr HBi.out p hp1 hlt2
          have p0 : (0 : Int) ≤ (p : Int) := by omega
          have p1 : (p : Int) < (L.length : Int) + 64 := by omega
          go_wp2
          go_roundw
          case rel => exact ⟨p + 1, by omega, by omega, by go_num, HBi⟩
          case measure => simp [intOf]; omega
        · have p1 : ¬ (p : Int) < (L.length : Int) + 64 := by omega
          have HBN := hid0 (Below.later HB0.out HBi.out)
          go_wp2
          go_ret
          exact ⟨rfl, HBN.out⟩
end Go.Proofs.YtbdjnmbhphflbaaGreatDoor
namespace Go.Proofs.YtbdjnmbhphflbaaGreatDoor
open Go.RowKit Go.Shelf Go.Lib
def lstR : CR → List ByteArray
  | .ok l => l
  | .bad _ => []
def errR (A : Nat → Addr) : CR → Value
  | .ok _ => .nilIface
  | .bad i => .iface 192 (.pointer (some (A i)))
def numR : CR → Int
  | .ok _ => 0
  | .bad i => refNo i
theorem goChain_lst {A : Nat → Addr} {base : Nat} {w' : World} {r : CR} {e : Ending} (h : GoChain A base w' r e) : ∃ a cap, e = .returned (.tuple #[.slice a (lstR r).length cap, errR A r]) ∧ SA w' a (lstR r) := by
  cases r with
  | ok l =>
    obtain ⟨v, rfl, ho⟩ := h
    obtain ⟨a, cap, rfl, hs, _⟩ := ho.sa
    exact ⟨a, cap, rfl, hs⟩
  | bad i => exact ⟨none, 0, h, ⟨fun k hk => absurd hk (Nat.not_lt_zero _)⟩⟩
theorem refChain_lst {base : Nat} {w' : World} {r : CR} {e : Ending} (h : RefChain base w' r e) : ∃ a cap, e = .returned (.tuple #[.slice a (lstR r).length cap, .int .i64 (numR r)]) ∧ SA w' a (lstR r) := by
  cases r with
  | ok l =>
    obtain ⟨v, rfl, ho⟩ := h
    obtain ⟨a, cap, rfl, hs, _⟩ := ho.sa
    exact ⟨a, cap, rfl, hs⟩
  | bad i => exact ⟨none, 0, h, ⟨fun k hk => absurd hk (Nat.not_lt_zero _)⟩⟩
theorem chainGo_ok (L : List Sec) : ∀ (f : Nat) (ch : List ByteArray) (last : ByteArray), ch.length ≤ 16 → (∀ i, chainGo L f ch last = .bad i → i < 11) ∧ (lstR (chainGo L f ch last)).length ≤ 16
  | 0, _, _, _ => ⟨fun i h => by simp only [chainGo, CR.bad.injEq] at h; omega, by simp [chainGo, lstR]⟩
  | f + 1, ch, last, hc => by
    rw [chainGo]
    split
    · exact ⟨(fun i h => by cases h), by simpa [lstR] using hc⟩
    · split
      · exact ⟨fun i h => by simp only [CR.bad.injEq] at h; omega, by simp [lstR]⟩
      · split
        · exact ⟨fun i h => by simp only [CR.bad.injEq] at h; omega, by simp [lstR]⟩
        · rename_i hn
          exact chainGo_ok L f _ _ (by rw [List.length_append, List.length_singleton]; omega)
theorem chainF_ok (L : List Sec) (t : ByteArray) : (∀ i, chainF L t = .bad i → i < 11) ∧ (lstR (chainF L t)).length ≤ 16 := by
  unfold chainF
  cases hk : chkE entE L with
  | some i => exact ⟨fun j h => by simp only [CR.bad.injEq] at h; have := chkE_lt hk; omega, by simp [lstR]⟩
  | none =>
    simp only
    cases hq : tagF t.data.toList with
    | none => exact ⟨fun j h => by simp only [CR.bad.injEq] at h; omega, by simp [lstR]⟩
    | some c => exact chainGo_ok L 17 _ _ (by simp)
theorem num_r {w : World} {A : Nat → Addr} (h : Sents w A) (r : CR) (hr : ∀ i, r = .bad i → i < 11) : Calls Tryz.prog 14 #[errR A r] w fun e w' => e = .returned (.int .i64 (numR r)) ∧ w' = w := by
  cases r with
  | ok l => exact kitNum_nil w
  | bad i => exact kitNum_at w A h i (hr i rfl)
def clr (s : Sec) : Sec := ⟨s.loc, ⟨#[]⟩, s.ed⟩
def clrA (x : SecAt) : SecAt := ⟨clr x.s, x.blk, x.cap⟩
theorem cellsX_set (S : List SecAt) : ∀ (k : Nat) (h : k < S.length), (cellsX S).set (k * 3 + 1) (.string ⟨#[]⟩) = cellsX (S.set k (clrA S[k])) := by
  induction S with
  | nil => intro k h; simp at h
  | cons u l ih =>
    intro k h
    have e : cellsX (u :: l) = .string u.s.loc :: .string u.s.par :: .slice (some ⟨u.blk, 0, none⟩) u.s.ed.length u.cap :: cellsX l := rfl
    cases k with
    | zero => rw [e]; rfl
    | succ k =>
      have h2 := ih k (by simpa using h)
      rw [e, show (k + 1) * 3 + 1 = (k * 3 + 1) + 1 + 1 + 1 by omega]
      simp only [List.set_cons_succ, List.getElem_cons_succ]
      rw [h2]
      rfl
theorem Giv.par {w : World} {lo g n cap m : Nat} {S : List SecAt} (h : Giv w lo (.slice (some ⟨g, 0, none⟩) n cap) S m) (hn : n = S.length + m) (k : Nat) (hk : k < S.length) : Giv (w.setCell ⟨g, k * 3 + 1, none⟩ (.string ⟨#[]⟩)) lo (.slice (some ⟨g, 0, none⟩) n cap) (S.set k (clrA S[k])) m := by
  subst hn
  have hl := cellsX_length S
  have h1 := (World.ownsRow.stored h.row (k * 3 + 1) (.string ⟨#[]⟩)).1
  rw [List.set_append_left _ _ (by omega), cellsX_set S k hk] at h1
  have key : ∀ x ∈ S.set k (clrA S[k]), ∃ y ∈ S, x.blk = y.blk ∧ x.cap = y.cap ∧ x.s.ed = y.s.ed := fun x hx => by
    rcases List.mem_or_eq_of_mem_set hx with h2 | h2
    · exact ⟨x, h2, rfl, rfl, rfl⟩
    · exact ⟨S[k], List.getElem_mem hk, by rw [h2]; rfl, by rw [h2]; rfl, by rw [h2]; rfl⟩
  refine ⟨by rw [List.length_set]; exact h1, fun x hx => ?_, fun x hx => ?_⟩
  · obtain ⟨y, hy, e1, e2, e3⟩ := key x hx
    rw [e1, e2, e3]
    exact own_blk (h.ed y hy) (fun q hq => by cases hq; exact Below.heap_setCell w _ _ y.blk (fun e => h.ne y hy (by rw [e]; rfl)))
  · obtain ⟨y, hy, e1, _, _⟩ := key x hx
    rw [e1]
    exact h.ne y hy
theorem Giv.parCell {w : World} {lo g n cap m : Nat} {S : List SecAt} (h : Giv w lo (.slice (some ⟨g, 0, none⟩) n cap) S m) (hn : n = S.length + m) (k : Nat) (hk : k < S.length) : w.cell? ⟨g, k * 3 + 1, none⟩ = some (.string S[k].s.par) ∧ w.frozen? ⟨g, k * 3 + 1, none⟩ = false := by
  subst hn
  have hl := cellsX_length S
  exact ⟨by rw [World.ownsRow.cellAt h.row _ (by omega), List.getElem?_append_left (by omega)]; exact (cellsX_at S k hk).2.1, World.ownsRow.frozenAt h.row _⟩
theorem clr_step (L : List Sec) (k : Nat) (h : k < L.length) (S : List SecAt) (hS : S.map (·.s) = (L.take k).map clr ++ L.drop k) (hk : k < S.length) : (S.set k (clrA S[k])).map (·.s) = (L.take (k + 1)).map clr ++ L.drop (k + 1) := by
  have e1 : S[k].s = L[k] := by
    have h1 : (S.map (·.s))[k]'(by simpa using hk) = S[k].s := by simp
    have h2 : (S.map (·.s))[k]? = some L[k] := by
      rw [hS, List.getElem?_append_right (by simp; omega)]
      simp only [List.length_map, List.length_take]
      rw [show k - min k L.length = 0 by omega, List.getElem?_drop]
      simp [h]
    rw [List.getElem?_eq_getElem (by simpa using hk), Option.some.injEq] at h2
    rw [← h1, h2]
  rw [List.map_set, hS, show (clrA S[k]).s = clr L[k] by rw [← e1]; rfl, List.set_append_right _ _ (by simp; omega)]
  simp only [List.length_map, List.length_take]
  rw [show k - min k L.length = 0 by omega, List.drop_eq_getElem_cons h, List.set_cons_zero, List.take_succ_eq_append_getElem h, List.map_append, List.append_assoc]
  rfl
end Go.Proofs.YtbdjnmbhphflbaaGreatDoor
