/-
  McFW, McGM, McHM, McHW, McIM, McIW, McJW.
-/
import Derived.Test.YtleeedjpccooaaaDoorNdi
namespace Go.Proofs.YtleeedjpccooaaaDoor
open Go.RowKit Go.Shelf
theorem infoBytes : (Tryd.prog.info? 99).map (fun i => (i.zero, i.size, i.bytes)) = some (some (.slice none 0 0), 1, 24) := by kernel_rfl
theorem infoOpen : (Tryd.prog.info? 103).map (fun i => (i.zero, i.size, i.bytes)) = some (some (.agg #[.string ⟨#[]⟩, .slice none 0 0]), 2, 40) := by kernel_rfl
/-- The text of the open places that a symbol is a letter of, and the patterns that end there. -/
def opF (j : Jn) (N : Nat) : Nat → List UInt8 := fun c => encW (andB j.op (ltF j.LE c)) N
def opE (j : Jn) (N : Nat) : Nat → List Nat := fun c => endL (fun q => andB j.op (ltF j.LE c) q && j.la q) j.own (64 * N)
theorem cell_two_any (w : World) (x y : Value) (t : TypeId) : ∀ j u, [x, y][j]? = some u → (w.alloc (.cells #[x, y] t)).cell? ((⟨w.heap.size, 0, none⟩ : Addr).add j) = some u := by
  intro j u hu
  have hr := heap_alloc_new w (.cells #[x, y] t)
  rw [Addr.add_lit, Nat.zero_add, cell_of_row _ _ _ _ _ _ hr]
  match j, hu with
  | 0, hu => simpa using hu
  | 1, hu => simpa using hu
/-- The builder, when nothing is known yet. -/
structure Nb0 (w : World) (B J sy N most GR GT NB : Nat) (W : World) : Prop where
  bel : Below w.heap.size w W
  bb : Bb W B J (.slice none 0 0) (.slice (some ⟨GR, 0, none⟩) N N) (.slice (some ⟨GT, 0, none⟩) sy sy) (.map (some NB)) (.slice none 0 0) most 0 (.slice none 0 0) (.slice none 0 0)
  re : OwnU W w.heap.size (.slice (some ⟨GR, 0, none⟩) N N) N (fun _ => false)
  tx : BagT W w.heap.size (.slice (some ⟨GT, 0, none⟩) sy sy) (List.replicate sy (.slice none 0 0, []))
  nb : MapS W NB 1 []
  lo' : w.heap.size ≤ B ∧ w.heap.size ≤ NB
theorem alloc4 (W : World) (o0 o1 o2 o3 : Obj) : (((((W.alloc o0).alloc o1).alloc o2).alloc o3).drew).heap[W.heap.size]? = some o0 ∧ (((((W.alloc o0).alloc o1).alloc o2).alloc o3).drew).heap[W.heap.size + 1]? = some o1 ∧ (((((W.alloc o0).alloc o1).alloc o2).alloc o3).drew).heap[W.heap.size + 1 + 1]? = some o2 ∧ (((((W.alloc o0).alloc o1).alloc o2).alloc o3).drew).heap[W.heap.size + 1 + 1 + 1]? = some o3 := by
  have e : (((((W.alloc o0).alloc o1).alloc o2).alloc o3).drew).heap = (((W.heap.push o0).push o1).push o2).push o3 := rfl
  have h1 : ∀ (a : Array Obj) (x : Obj), (a.push x)[a.size]? = some x := fun a x => by simp
  have h2 : ∀ (a : Array Obj) (x : Obj) (k : Nat), k < a.size → (a.push x)[k]? = a[k]? := fun a x k h => by rw [Array.getElem?_push, if_neg (by omega)]
  have s1 : (W.heap.push o0).size = W.heap.size + 1 := by simp
  have s2 : ((W.heap.push o0).push o1).size = W.heap.size + 1 + 1 := by simp
  have s3 : (((W.heap.push o0).push o1).push o2).size = W.heap.size + 1 + 1 + 1 := by simp
  rw [e]
  refine ⟨?_, ?_, ?_, ?_⟩
  · rw [h2 _ _ _ (by omega), h2 _ _ _ (by omega), h2 _ _ _ (by omega), h1]
  · rw [h2 _ _ _ (by omega), h2 _ _ _ (by omega), ← s1, h1]
  · rw [h2 _ _ _ (by omega), ← s2, h1]
  · rw [← s3, h1]
theorem MapS.at0 {W : World} {NB : Nat} (o : Nat) (h : W.heap[NB]? = some (.map #[] 0)) : MapS W NB o [] := by
  obtain ⟨D, ⟨es, clock, h1, h2⟩, hs⟩ := MapS.made W o
  have h3 := heap_alloc_new W (.map #[] 0)
  rw [h3] at h1
  exact ⟨D, ⟨es, clock, h.trans h1, h2⟩, hs⟩
theorem Nb0.made {w W : World} {B J sy N most GR GT NB : Nat} (hB : W.heap[B]? = some (.cells #[.pointer (some ⟨J, 0, none⟩), .slice none 0 0, .slice (some ⟨GR, 0, none⟩) N N, .slice (some ⟨GT, 0, none⟩) sy sy, .map (some NB), .slice none 0 0, .int .i64 (most : Int), .int .i64 0, .int .i64 0, .slice none 0 0, .slice none 0 0] 97 (0, 0)))
    (hR : W.heap[GR]? = some (.cells (madeCells #[.int .u64 0] N) 105 (0, 0))) (hT : W.heap[GT]? = some (.cells (madeCells #[.slice none 0 0] sy) 99 (0, 0))) (hM : W.heap[NB]? = some (.map #[] 0)) (hN : N ≤ 1000000) (hsy : sy ≤ 16384) (hb : Below w.heap.size w W) (h1 : w.heap.size ≤ B) (h2 : w.heap.size ≤ GR) (h3 : w.heap.size ≤ GT) (h4 : w.heap.size ≤ NB) : Nb0 w B J sy N most GR GT NB W := by
  refine ⟨hb, ⟨hB⟩, ?_, BagT.made ?_, MapS.at0 1 hM, h1, h4⟩
  · unfold OwnU
    rw [wdV_none]
    refine ⟨by simp, .inr ⟨GR, N, _, rfl, h2, hR, Nat.le_refl _, by unfold maxLen; omega, by rw [size_madeCells]; simp, ?_⟩⟩
    apply List.ext_getElem
    · simp [size_madeCells]
    · intro k q1 q2
      simp [madeCells, Nat.mod_one]
  · refine ⟨by simp, .inr ⟨GT, sy, _, rfl, h3, hT, Nat.le_refl _, by unfold maxLen; omega, by rw [size_madeCells]; simp, ?_⟩⟩
    apply List.ext_getElem
    · simp [size_madeCells]
    · intro k q1 q2
      simp [madeCells, Nat.mod_one]
theorem txN_at (f : Nat → List UInt8) (k : Nat) : txN f k k = f k := by unfold txN; rw [if_neg (by omega)]
theorem txN_zero (f : Nat → List UInt8) : txN f 0 = f := by funext c; unfold txN; rw [if_neg (by omega)]
/-- part's texts are there, and a map that knows nothing. -/
theorem Nb0.parted {w wc w1 : World} {B J sy N most GR GT NB : Nat} {f : Nat → List UInt8} {E : Nat → List Nat} (h : Nb0 w B J sy N most GR GT NB wc) (hp : PtI wc GT sy sy w.heap.size (List.replicate sy (.slice none 0 0, [])) f w1) : ∃ ps, NbI w B J sy N most GT sy NB w1.heap.size f E [] [] f ps (w1.alloc (.map #[] 0)) := by
  have hS : ∀ i, PtS GT (List.replicate sy (.slice none 0 0, [])) i → i = GT := fun i hi => by
    rcases hi with hi | ⟨x, hx, e⟩
    · exact hi
    · rw [List.eq_of_mem_replicate hx] at e; cases e
  have hO := hp.only.mono hS
  obtain ⟨cs, hcs⟩ := own_typ h.tx.outer (show Value.ownBlock _ = some GT from rfl)
  have hk : KeB [99] wc w1 := KeB.only hO (fun k hk _ => by rw [hk]; exact ⟨cs, _, _, hcs, by simp⟩)
  have hb2 : Below w1.heap.size w1 (w1.alloc (.map #[] 0)) := (Below.refl _ _).alloc (Nat.le_refl _) _
  have hk2 : KeB [99] w1 (w1.alloc (.map #[] 0)) := KeB.below _ hb2
  have hgl := (World.ownsRow.lt h.tx.outer GT rfl).1
  have hb1 : Below w.heap.size w w1 := hO.afterBelow h.bel h.bel.size (fun i hi => by rw [hi]; exact hgl)
  have hne : B ≠ GT := fun q => by
    have h4 := h.bb.r
    rw [q, hcs] at h4
    injection h4 with h4
    injection h4 with _ h5
    exact absurd h5 (by decide)
  obtain ⟨ps, p1, p2, p3, _⟩ := hp.bag
  refine ⟨ps, Below.later hb1 hb2, ⟨_, _, (h.bb.kept (hO.block B h.bb.lt hne)).past hb2, OpI.nil _ _, (hk.trans hk2).own h.re (by decide), GR, N, rfl⟩, (hk.trans hk2).map h.nb, MapS.made w1 0, ?_, ⟨h.lo'.1, hb1.size, h.lo'.2⟩, ⟨p1, p2.later hb2, p3⟩⟩
  have h5 := h.nb.lt
  have h6 := hO.size
  omega
set_option maxRecDepth 10000 in
set_option maxHeartbeats 6400000 in
theorem newBuilder_any (J sy N lo most : Nat) (j : Jn) (w : World) (hJ : JoF w J sy lo N j) (hok : JnOk j sy N) (hN : N ≤ 1000000) (hsy : sy ≤ 16384) (hsy1 : 1 ≤ sy) (hol : j.own.length ≤ 64 * N) (hlt : (LTs j.LE N).flatten.length ≤ 1000000000) (htab : TabAt 11 Lib.deBruijn64tab w) (_hmo : most ≤ 16384) :
    Calls Tryd.prog 27 #[.pointer (some ⟨J, 0, none⟩), .int .i64 (most : Int)] w fun e w' => ∃ B, e = .returned (.pointer (some ⟨B, 0, none⟩)) ∧ ∃ GT NB KB ps, NbI w B J sy N most GT sy NB KB (opF j N) (opE j N) (csF (opF j N) sy) (csF (opF j N) sy) (txN (opF j N) sy) ps w' := by
  obtain ⟨vO, vF, vE, vL, vM, GZ, GP, GC, cZ, cP, cC, vS, vA, hj, hrF, hrL⟩ := hJ.jo
  have hJl : J < w.heap.size := (Array.getElem?_eq_some_iff.1 hj.b.r).1
  have d0 : w.cell? ⟨J, 0, none⟩ = some (.int .i64 (sy : Int)) := hj.b.c.1
  have d7 : w.cell? ⟨J, 7, none⟩ = some (.slice (some ⟨GP, 0, none⟩) N cP) := hj.b.c.2.2.2.2.2.2.2.1
  have hmk1 : ∀ V : World, (Instr.makeSlice 83 (.int .i64 (N : Int)) (.int .i64 (N : Int))).run Tryd.prog V = .ok (.slice (some ⟨V.heap.size, 0, none⟩) N N) (V.alloc (.cells (madeCells #[.int .u64 0] N) 105)) := fun V => made_run (t := 83) Tryd.underlying83 infoU64z N N (Nat.le_refl _) (by omega) (by omega) V
  have hmk2 : ∀ V : World, (Instr.makeSlice 92 (.int .i64 (sy : Int)) (.int .i64 (sy : Int))).run Tryd.prog V = .ok (.slice (some ⟨V.heap.size, 0, none⟩) sy sy) (V.alloc (.cells (madeCells #[.slice none 0 0] sy) 99)) := fun V => made_run (t := 92) Tryd.underlying92 infoBytes sy sy (Nat.le_refl _) (by omega) (by omega) V
  have hmm := @run_makeMap Tryd.prog
  go_enter Tryd.func27, Tryd.ntmps27
  go_upto_region 1 with (fail)
  go_cut [5] from 12 (fun p wx => ∃ B GR GT NB : Nat, p = .pointer (some ⟨B, 0, none⟩) ∧ Hid (Nb0 w B J sy N most GR GT NB wx))
  case first =>
    go_region
    all_goals
      go_wp2_with fail
      go_meet
      case rel =>
        refine ⟨_, _, _, _, rfl, hid0 (Nb0.made (w := w) (alloc4 w _ _ _ _).2.2.2 ?_ ?_ ?_ hN hsy (((((Below.refl _ w).alloc (Nat.le_refl _) _).alloc (by simp) _).alloc (by simp; omega) _).alloc (by simp; omega) _).drew ?_ ?_ ?_ ?_)⟩
        all_goals first | omega | exact (alloc4 w _ _ _ _).1 | exact (alloc4 w _ _ _ _).2.1 | exact (alloc4 w _ _ _ _).2.2.1
  case rest =>
    obtain ⟨B, GR, GT, NB, rfl, H0⟩ := hcut
    clear hmk1 hmk2
    have HTab := hid0 htab
    have HJs := hid0 hj
    obtain ⟨f, hf⟩ : ∃ f, f = opF j N := ⟨_, rfl⟩
    obtain ⟨E, hE⟩ : ∃ E, E = opE j N := ⟨_, rfl⟩
    have HF := hid0 (And.intro hf hE)
    have HC : Hid (∀ V : World, Below w.heap.size w V → JoS V J sy lo vO vF vE vL vM (.slice (some ⟨GZ, 0, none⟩) N cZ) (.slice (some ⟨GP, 0, none⟩) N cP) (.slice (some ⟨GC, 0, none⟩) N cC) vS vA j.own j.FO.flatten (endsN j.FO) N j.la j.op j.cl j.at0 j.alw ∧ RwW V vL vM (LTs j.LE N) ∧ TabAt 11 Lib.deBruijn64tab V) := hid0 (fun V hV => ⟨hj.past hV, hrL.past hV, tab_past htab hV⟩)
    have d7c : wc.cell? ⟨J, 7, none⟩ = some (.slice (some ⟨GP, 0, none⟩) N cP) := (HC.out wc H0.out.bel).1.b.c.2.2.2.2.2.2.2.1
    have HPt : Hid (Calls Tryd.prog 48 #[.pointer (some ⟨B, 0, none⟩), .slice (some ⟨GP, 0, none⟩) N cP] wc fun e w' => (∃ v, e = .returned v) ∧ Hid (PtI wc GT sy sy w.heap.size (List.replicate sy (.slice none 0 0, [])) f w')) := hid0 (by
      have hp0 : PtI wc GT sy sy w.heap.size (List.replicate sy (.slice none 0 0, [])) (fun _ => []) wc := ⟨⟨_, by simp, H0.out.tx, fun c hc => by simp, fun x hx g hg => by rw [List.eq_of_mem_replicate hx] at hg; cases hg⟩, Only.refl _ _⟩
      have hfe : ∀ c, ([] : List UInt8) ++ encW (andB j.op (ltF j.LE c)) N = f c := fun c => by rw [hf]; rfl
      by_cases hN0 : N = 0
      · subst hN0
        exact (part_none B GT sy cP sy w.heap.size (some ⟨GP, 0, none⟩) (ltF j.LE) j.op (fun _ => []) _ wc hp0).mono (fun _ _ ⟨q1, q2⟩ => ⟨q1, hid0 (q2.congr (fun c _ => hfe c))⟩)
      · refine (part_any B J GT sy GP cP N sy w.heap.size lo vL vM (LTs j.LE N) (ltF j.LE) j.op (fun _ => []) _ wc hN (by omega) H0.out.bel.size (rowL_ok j.LE sy N hok.le' (by rw [hok.le]; exact hol)) hlt (by omega) (fun c _ => by simp) (fun V hV => ?_) hp0).mono (fun _ _ ⟨q1, q2⟩ => ⟨q1, hid0 (q2.congr (fun c _ => hfe c))⟩)
        have hS : ∀ i, PtS GT (List.replicate sy (Value.slice none 0 0, [])) i → i = GT := fun i hi => by
          rcases hi with hi | ⟨x, hx, e⟩
          · exact hi
          · rw [List.eq_of_mem_replicate hx] at e; cases e
        have hO := hV.mono hS
        obtain ⟨cs, hcs⟩ := own_typ H0.out.tx.outer (show Value.ownBlock _ = some GT from rfl)
        have hgl := (World.ownsRow.lt H0.out.tx.outer GT rfl).1
        have hb1 : Below w.heap.size w V := hO.afterBelow H0.out.bel H0.out.bel.size (fun i hi => by rw [hi]; exact hgl)
        have hne : B ≠ GT := fun q => by
          have h4 := H0.out.bb.r
          rw [q, hcs] at h4
          injection h4 with h4
          injection h4 with _ h5
          exact absurd h5 (by decide)
        have hbV := H0.out.bb.kept (hO.block B H0.out.bb.lt hne)
        obtain ⟨g1, g2, _⟩ := HC.out V hb1
        exact ⟨hbV.c.1, hbV.c.2.2.2.1, g1.b.c.2.2.2.2.1, g1.b.c.2.2.2.2.2.1, g2, g1.p⟩)
    have HOk := hid0 hok
    clear hJ hj hrF hrL hok htab hf hE d0 d7 hlt
    go_upto_region 4 with (go_at_call 48; go_loud ((refine HPt.out.mono ?_; rintro e w1 ⟨⟨v1, rfl⟩, HP1⟩)))
    clear d7c HPt
    have HN0 : Hid (∃ ps, NbI w B J sy N most GT sy NB w1.heap.size f E [] [] f ps (w1.alloc (.map #[] 0))) := hid0 (H0.out.parted HP1.out)
    obtain ⟨KB, hKB⟩ : ∃ KB, KB = w1.heap.size := ⟨_, rfl⟩
    rw [← hKB] at HN0 ⊢
    obtain ⟨w2, hw2⟩ : ∃ w2, w2 = w1.alloc (.map #[] 0) := ⟨_, rfl⟩
    rw [← hw2] at HN0 ⊢
    have d3 : w2.cell? ⟨B, 3, none⟩ = some (.slice (some ⟨GT, 0, none⟩) sy sy) := by
      obtain ⟨_, hq⟩ := HN0.out
      obtain ⟨vOp, vRe, h1, _⟩ := hq.bb
      exact h1.c.2.2.2.1
    clear hw2 hKB HP1 H0 hmm
    go_wp2
    go_loopw [40] (fun q wr => ∃ k : Nat, k ≤ sy ∧ q = .int .i64 (k : Int) ∧ Hid (∃ ps, NbI w B J sy N most GT sy NB KB f E (csF f k) (csF f k) (txN f k) ps wr)) (fun q _ => sy - (intOf q).toNat)
    case atStart => exact ⟨0, Nat.zero_le _, rfl, hid0 (by rw [txN_zero]; exact HN0.out)⟩
    case round =>
      clear d3 HN0
      obtain ⟨k, hk, rfl, HK⟩ := hrel
      obtain ⟨V, hV⟩ : ∃ V, V = wr := ⟨_, rfl⟩
      subst hV
      by_cases hkl : k < sy
      · obtain ⟨o0, ho, hy⟩ := Option.map_eq_some_iff.1 infoOpen
        simp only [Prod.mk.injEq] at hy
        obtain ⟨hy0, hy1, hy2⟩ := hy
        obtain ⟨ps, hK⟩ := HK.out
        obtain ⟨a, c, hva, y0, y1, hac, y2, y3, _⟩ := hK.text hkl
        rw [txN_at] at y0 y1 hva
        obtain ⟨tB, htB⟩ : ∃ tB : ByteArray, tB = ⟨(f k).toArray⟩ := ⟨_, rfl⟩
        have hcv := toStr y1
        rw [← htB] at hcv
        obtain ⟨n0, hn0⟩ : ∃ n0, n0 = (f k).length := ⟨_, rfl⟩
        rw [← hn0] at y0 y1 hva hcv
        have hfl : (f k).length ≤ 12000000 := by rw [HF.out.1]; have := encW_len (andB j.op (ltF j.LE k)) N; unfold opF; omega
        have hcl := csF_len f k
        obtain ⟨num, hnum⟩ : ∃ num, num = ixF f (k + 1) k := ⟨_, rfl⟩
        have hnl : num ≤ 16384 := by rw [hnum]; have := ixF_lt f (show k < k + 1 by omega); have := csF_len f (k + 1); omega
        have HTl : Hid (∀ V2 : World, NbI w B J sy N most GT sy NB KB f E (csF f (k + 1)) (csF f (k + 1)) (txN f k) ps V2 → V2.cell? ⟨B, 3, none⟩ = some (.slice (some ⟨GT, 0, none⟩) sy sy) ∧ (Calls Tryd.prog 50 #[.slice a 0 c, .int .u64 (num : Int), .int .i64 4] V2.drew fun e w' => ∃ v', e = .returned v' ∧ Hid (∃ n4 a4 c4, v' = .slice a4 n4 c4) ∧ Hid (w'.cell? ⟨B, 3, none⟩ = some (.slice (some ⟨GT, 0, none⟩) sy sy) ∧ (∃ u, w'.cell? ⟨GT, k, none⟩ = some u) ∧ w'.frozen? ⟨GT, k, none⟩ = false) ∧ Hid (∃ ps', NbI w B J sy N most GT sy NB KB f E (csF f (k + 1)) (csF f (k + 1)) (txN f (k + 1)) ps' (w'.setCell ⟨GT, k, none⟩ v')))) := hid0 (fun V2 h2 => by
          obtain ⟨a', c', e', _, _, _, q2, q3, q4⟩ := h2.drew.text hkl
          rw [txN_at, ← hn0, hva] at e'
          injection e' with e'
          simp only [Value.slice.injEq, true_and] at e'
          obtain ⟨rfl, rfl⟩ := e'
          refine ⟨q3, (addBytes_any w.heap.size num 4 (.slice a 0 c) [] V2.drew q2 (by simp) (by omega) (by omega) h2.drew.bel.size).mono (fun e w' ⟨v', g1, g2⟩ => ⟨v', g1, hid0 ?_, hid0 (q4 w' v' _ g2).1, hid0 ?_⟩)⟩
          · obtain ⟨a4, c4, e4⟩ := own_sl g2.own
            exact ⟨_, a4, c4, e4⟩
          · obtain ⟨ps', q5⟩ := (q4 w' v' _ g2).2
            rw [List.nil_append, hnum, txN_succ] at q5
            exact ⟨ps', q5⟩)
        have hkI : (k : Int) < (sy : Int) := by omega
        have hkI0 : (0 : Int) ≤ (k : Int) := by omega
        have hwn : IntKind.u64.wrap (num : Int) = (num : Int) := by rw [IntKind.wrap_u64]; omega
        have hc0 : (0 : Int) ≤ (c : Int) := by omega
        have HK2 := hid0 hK
        have HNm := hid0 hnum
        have HN0' := hid0 hn0
        have hn0b : n0 ≤ 12000000 := by omega
        clear hn0 hfl
        have HTB := hid0 htB
        by_cases hmem : f k ∈ (csF f k).map f
        · obtain ⟨e1, e2⟩ := ixF_old f hmem
          have hi := List.idxOf_lt_length_of_mem hmem
          have hlk := hK.kb.look hi (by rw [List.getElem_idxOf]; have := HN0'.out; omega)
          rw [List.getElem_idxOf] at hlk
          unfold strB at hlk
          rw [← htB, Nat.add_zero, ← e2, ← hnum] at hlk
          have HV2 : Hid (NbI w B J sy N most GT sy NB KB f E (csF f (k + 1)) (csF f (k + 1)) (txN f k) ps V) := hid0 (by rw [e1]; exact hK)
          have HCa := hid0 (HTl.out V HV2.out)
          have d3 := HCa.out.1
          clear hK HK HK2 e1 e2 hi hmem htB hnum y1 y2 y3 hva
          go_upto_region 13 with (fail)
          clear hlk hcv y0
          go_region_with (go_at_call 50; refine HCa.out.2.mono ?_; rintro e w5 ⟨v5, rfl, H51, H52, H53⟩; obtain ⟨n4, a4, c4, rfl⟩ := H51.out; have r1 := H52.out.1; obtain ⟨u5, r2⟩ := H52.out.2.1; have r3 := H52.out.2.2)
          all_goals
            clear r1 r2 r3 d3
            go_wp2
            go_roundw
            case rel => first | exact ⟨k + 1, by omega, by go_num, H53⟩ | ((repeat apply Exists.intro); exact ⟨⟨k + 1, by omega, by go_num, H53⟩, rfl⟩)
            case measure => simp [intOf]; omega
        · obtain ⟨e1, e2⟩ := ixF_new f hmem
          have hlk := hK.kb.lookNot hmem (by have := HN0'.out; omega)
          unfold strB at hlk
          rw [← htB] at hlk
          obtain ⟨w3, hup, hm3, hg3⟩ := hK.kb.put hmem (by have := HN0'.out; omega) (by rw [List.length_map]; omega)
          unfold strB at hup
          rw [← htB, Nat.add_zero, List.length_map, ← e2, ← hnum] at hup
          obtain ⟨aP, nP, cP', VS0, hnP, dP, _, _⟩ := hK.open'
          obtain rfl : nP = num := by rw [hnP, hnum, e2]
          have h3 := hK.know (c := k) (by rw [List.map_append]; exact hm3) hg3
          obtain ⟨aQ, nQ, cQ, VS, hnQ, dQ, hown, hnx⟩ := h3.open'
          obtain rfl : nQ = nP := by rw [hnQ, hnP]
          have HEn : Hid (Calls Tryd.prog 49 #[.pointer (some ⟨J, 0, none⟩), .string tB] w3.drew fun e w' => ∃ aE cE, e = .returned (.slice aE (E k).length cE) ∧ Hid (OwnI w' w.heap.size (.slice aE (E k).length cE) (nI (E k)) ∧ Below w3.heap.size w3 w')) := hid0 (by
            obtain ⟨g1, _, g3⟩ := HC.out w3.drew h3.bel.drew
            obtain ⟨aO', cO', eO⟩ := own_sl g1.o
            rw [nI_len] at eO
            have hia := g1.o
            rw [eO] at hia
            obtain ⟨_, _, eI, hI⟩ := hia.ia
            simp only [Value.slice.injEq] at eI
            rw [← eI.1] at hI
            have hb := g1.b
            rw [eO] at hb
            have h := endAt_any J N sy lo (andB j.op (ltF j.LE k)) j.la j.own aO' cO' vF vE vL vM _ _ _ vS vA w3.drew hN hb hI g1.z HOk.out.la' (by omega) g3
            rw [htB, HF.out.1, HF.out.2]
            refine h.mono (fun e w' ⟨v, q1, q2, q3⟩ => ?_)
            obtain ⟨aE, cE, e4⟩ := own_sl q2
            rw [nI_len] at e4
            subst e4
            exact ⟨aE, cE, q1, hid0 ⟨q2.lower h3.bel.size, ⟨q3.os, q3.tape, q3.output, q3.size, q3.block⟩⟩⟩)
          obtain ⟨nE, hnE⟩ : ∃ nE, nE = (E k).length := ⟨_, rfl⟩
          rw [← hnE] at HEn
          have HNx : Hid (∀ (W1 : World) (aE : Option Addr) (cE : Nat), Below w3.heap.size w3 W1 → OwnI W1 w.heap.size (.slice aE nE cE) (nI (E k)) → ∀ (v1 : Value) (w1 : World), w1.ownsRow w.heap.size 103 2 v1 (nQ + 1) (VS ++ [.string tB, .slice aE nE cE]) → Only W1 w1 (fun k => (Value.slice aQ nQ cQ).ownBlock = some k) → (w1.cell? ⟨B, 1, none⟩ = some (.slice aQ nQ cQ) ∧ w1.frozen? ⟨B, 1, none⟩ = false) ∧ NbI w B J sy N most GT sy NB KB f E (csF f (k + 1)) (csF f (k + 1)) (txN f k) ps (w1.setCell ⟨B, 1, none⟩ v1)) := hid0 (fun W1 aE cE q1 q2 v1 w1 q3 q4 => by
            rw [hnE] at q2 q3
            rw [htB] at q3
            rw [e1]
            exact hnx W1 k aE cE q1 q2 v1 w1 q3 q4)
          have HOw := hid0 hown
          have HB3 := hid0 h3.bel.size
          have hnb : nQ ≤ 16384 := by rw [hnQ]; omega
          clear hnE hnx hown hK HK HK2 e1 e2 hmem htB hnum y1 y2 y3 hva h3 hm3 hg3 hnP hnQ
          go_upto_region 12 with (fail)
          clear dP hlk hcv hup y0
          have dQd : w3.drew.cell? ⟨B, 1, none⟩ = some (.slice aQ nQ cQ) := dQ
          go_region_law (first
            | (refine step_append_own_at (by rfl) _ _ 94 (by rfl) w.heap.size 103 o0 _ 2 40 Tryd.underlying94 ho hy0 hy1 hy2 rfl (by decide) (.slice aQ nQ cQ) nQ VS (by rfl) HOB.out ⟨w4.heap.size, 0, none⟩ 1 1 [.string tB, .slice aE nE cE] (by rfl) (by rfl) HNw.out (by simp [Value.oneCell']) (by unfold maxLen; omega) (by omega) HLw.out ?_; intro v' w5 h1 h2 h3; obtain ⟨a5, c5, rfl⟩ := own_sl h1; have R := hid0 (HNy.out _ _ h1 (Only.ofGrown ⟨h2.os, h2.tape, h2.output, h2.size, h2.block⟩)); clear h1 h2 h3; have t3 := R.out.1.1; have t4 := R.out.1.2)
            | (go_simp; refine HEn.out.mono ?_; rintro e w4 ⟨aE, cE, rfl, HE4⟩; obtain ⟨vB, hvB⟩ : ∃ vB, vB = w4.alloc (.cells #[.string tB, .slice aE nE cE] 103) := ⟨_, rfl⟩; have hb4 : Below w3.heap.size w3 vB := Below.later HE4.out.2 (by rw [hvB]; exact (Below.refl _ _).alloc (Nat.le_refl _) _); have t1 : w4.cell? ⟨B, 1, none⟩ = some (.slice aQ nQ cQ) := (HE4.out.2.cell (p := ⟨B, 1, none⟩) (World.block_lt_of_cell? w3 _ dQ)).trans dQ; have t2 : vB.cell? ⟨B, 1, none⟩ = some (.slice aQ nQ cQ) := (hb4.cell (p := ⟨B, 1, none⟩) (World.block_lt_of_cell? w3 _ dQ)).trans dQ; have HOB : Hid (vB.ownsRow w.heap.size 103 2 (.slice aQ nQ cQ) nQ VS) := hid0 (own_blk HOw.out (fun k hk => hb4.block k (World.ownsRow.lt HOw.out k hk).2)); have HNw : Hid (∀ j u, [Value.string tB, .slice aE nE cE][j]? = some u → vB.cell? ((⟨w4.heap.size, 0, none⟩ : Addr).add j) = some u) := hid0 (by rw [hvB]; exact cell_two_any _ _ _ _); have HLw : Hid (w.heap.size ≤ vB.heap.size) := hid0 (Nat.le_trans HB3.out hb4.size); have HNy := hid0 (HNx.out vB aE cE hb4 (own_blk HE4.out.1 (fun k hk => by rw [hvB]; exact Below.heap_alloc _ _ _ (World.ownsRow.lt HE4.out.1 k hk).2))); have gB := hvB.symm; clear hvB hb4; go_wp2_with fail))
          all_goals
            have HR := hid0 R.out.2
            clear R t1 t2 t3 t4 dQ dQd HNy HOB HNw HLw gB HE4
            generalize w5.setCell ⟨B, 1, none⟩ (.slice a5 (nQ + 1) c5) = w6 at *
            have HCa := hid0 (HTl.out w6 HR.out)
            have d3 := HCa.out.1
            go_upto_region 13 with (fail)
            go_region_with (go_at_call 50; refine HCa.out.2.mono ?_; rintro e w7 ⟨v7, rfl, H51, H52, H53⟩; obtain ⟨n7, a7, c7, rfl⟩ := H51.out; have r1 := H52.out.1; obtain ⟨u5, r2⟩ := H52.out.2.1; have r3 := H52.out.2.2)
            all_goals
              clear r1 r2 r3 d3
              go_wp2
              go_roundw
              case rel => first | exact ⟨k + 1, by omega, by go_num, H53⟩ | ((repeat apply Exists.intro); exact ⟨⟨k + 1, by omega, by go_num, H53⟩, rfl⟩)
              case measure => simp [intOf]; omega
      · obtain rfl : k = sy := by omega
        have HK1 : Hid (∃ ps, NbI w B J k N most GT k NB KB (opF j N) (opE j N) (csF (opF j N) k) (csF (opF j N) k) (txN (opF j N) k) ps V) := hid0 (by have h := HK.out; rw [HF.out.1, HF.out.2] at h; exact h)
        clear HK
        go_wp2
        go_ret
        exact ⟨B, rfl, GT, NB, KB, HK1.out⟩
end Go.Proofs.YtleeedjpccooaaaDoor
namespace Go.Proofs.YtleeedjpccooaaaDoor
open Go.RowKit Go.Shelf
/-- Openings and numbers that lay there stay. -/
structure KeS (W W' : World) : Prop where
  size : W.heap.size ≤ W'.heap.size
  kp : ∀ (k : Nat) (cs : Array Value) (t : TypeId) (f : Nat × Nat), W.heap[k]? = some (.cells cs t f) → t = 103 ∨ t = 3 ∨ t = 28 → W'.heap[k]? = W.heap[k]?
theorem KeS.refl (W : World) : KeS W W := ⟨Nat.le_refl _, fun _ _ _ _ _ _ => rfl⟩
theorem KeS.keB {T : List TypeId} {A W W' : World} (h : KeS A W) (hk : KeB T W W') (h1 : 103 ∉ T ∧ 28 ∉ T) (h2 : 3 ∉ T) : KeS A W' := ⟨Nat.le_trans h.size hk.size, fun k cs t f e ht => by
  have e1 := (h.kp k cs t f e ht).trans e
  rw [hk.kp k _ e1 (fun cs' t' f' q => by injection q with _ q2; rw [← q2]; rcases ht with rfl | rfl | rfl; exact h1.1; exact h2; exact h1.2), e]⟩
theorem KeS.only {A W W' : World} {S : Nat → Prop} (h : KeS A W) (hO : Only W W' S) (hS : ∀ k, S k → A.heap.size ≤ k) : KeS A W' := ⟨Nat.le_trans h.size hO.size, fun k cs t f e ht => by
  have hl := (Array.getElem?_eq_some_iff.1 e).1
  refine (hO.block k (Nat.lt_of_lt_of_le hl h.size) (fun q => ?_)).trans (h.kp k cs t f e ht)
  have := hS k q
  omega⟩
theorem KeS.op {A W : World} {lo : Nat} {v : Value} {os : List (List UInt8 × List Nat)} (h : KeS A W) (ho : OpI A lo v os) : OpI W lo v os := by
  obtain ⟨VS, h3, h4⟩ := ho.own
  have k : ∀ {t : TypeId} {s n : Nat} {u : Value} {xs : List Value}, A.ownsRow lo t s u n xs → t = 103 ∨ t = 3 ∨ t = 28 → W.ownsRow lo t s u n xs := fun hr ht => own_blk hr (fun k hk => by
    obtain ⟨cs, hcs⟩ := own_typ hr hk
    exact h.kp k cs _ _ hcs ht)
  refine ⟨VS, k h3 (.inl rfl), fun o hoo => ?_⟩
  obtain ⟨q1, a, c, q2, q3⟩ := h4 o hoo
  exact ⟨q1, a, c, q2, k q3 (.inr (.inl rfl))⟩
/-- Lists in memory, each in a row of its own. -/
structure RwsM (W : World) (lo : Nat) (v : Value) (VS : List Value) (L : List (List Nat)) : Prop where
  outer : W.ownsRow lo 34 1 v VS.length VS
  len : VS.length = L.length
  row : ∀ i (h : i < L.length), ∃ x, VS[i]? = some x ∧ OwnI W lo x (nI L[i])
theorem RwsM.nil (W : World) (lo : Nat) : RwsM W lo (.slice none 0 0) [] [] := ⟨World.ownsRow_nil _ _ _ _, rfl, fun _i h => absurd h (Nat.not_lt_zero _)⟩
theorem RwsM.mem {W : World} {lo : Nat} {v : Value} {VS : List Value} {L : List (List Nat)} (h : RwsM W lo v VS L) {x : Value} (hx : x ∈ VS) : ∃ l, OwnI W lo x (nI l) := by
  obtain ⟨i, hi, e⟩ := List.getElem_of_mem hx
  obtain ⟨y, e1, e2⟩ := h.row i (by rw [← h.len]; exact hi)
  rw [List.getElem?_eq_getElem hi, e] at e1
  injection e1 with e1
  subst e1
  exact ⟨_, e2⟩
/-- They stay where neither they nor their list is written. -/
theorem RwsM.keep {W W' : World} {lo : Nat} {v : Value} {VS : List Value} {L : List (List Nat)} (h : RwsM W lo v VS L) (ho : ∀ k, v.ownBlock = some k → W'.heap[k]? = W.heap[k]?) (hr : ∀ x ∈ VS, ∀ k, x.ownBlock = some k → W'.heap[k]? = W.heap[k]?) : RwsM W' lo v VS L := ⟨own_blk h.outer ho, h.len, fun i hi => by
  obtain ⟨x, e1, e2⟩ := h.row i hi
  exact ⟨x, e1, own_blk e2 (hr x (List.mem_of_getElem? e1))⟩⟩
theorem RwsM.keB {T : List TypeId} {W W' : World} {lo : Nat} {v : Value} {VS : List Value} {L : List (List Nat)} (h : RwsM W lo v VS L) (hk : KeB T W W') (h1 : 34 ∉ T) (h2 : 3 ∉ T) : RwsM W' lo v VS L := ⟨hk.own h.outer h1, h.len, fun i hi => by
  obtain ⟨x, e1, e2⟩ := h.row i hi
  exact ⟨x, e1, hk.own e2 h2⟩⟩
theorem RwsM.inner {T : List TypeId} {W W' : World} {lo : Nat} {v v' : Value} {VS : List Value} {L : List (List Nat)} {x : Value} {l : List Nat} (h : RwsM W lo v VS L) (hk : KeB T W W') (h2 : 3 ∉ T) (ho : W'.ownsRow lo 34 1 v' (VS ++ [x]).length (VS ++ [x])) (hx : OwnI W lo x (nI l)) : RwsM W' lo v' (VS ++ [x]) (L ++ [l]) := ⟨ho, by rw [List.length_append, List.length_append, h.len]; rfl, fun i hi => by
  rw [List.length_append, List.length_singleton] at hi
  by_cases hlt : i < L.length
  · obtain ⟨y, e1, e2⟩ := h.row i hlt
    refine ⟨y, by rw [List.getElem?_append_left (by rw [h.len]; exact hlt)]; exact e1, ?_⟩
    rw [List.getElem_append_left hlt]
    exact hk.own e2 h2
  · obtain rfl : i = L.length := by omega
    refine ⟨x, by rw [← h.len]; simp, ?_⟩
    rw [List.getElem_append_right (Nat.le_refl _)]
    simp only [Nat.sub_self, List.getElem_cons_zero]
    exact hk.own hx h2⟩
def stV (t : List UInt8) : ByteArray := ⟨t.toArray⟩
/-- The builder at work. -/
structure BuI (wB wJ : World) (B J sy N most outs GT cT NB : Nat) (vOp vRe : Value) (tf : Nat → List UInt8) (ps : Lob) (R : Nat → Bool) (sts ks : List (List UInt8)) (NX OU : List Value) (nx ou : List (List Nat)) (W : World) : Prop where
  bel : Below wJ.heap.size wJ W
  kes : KeS wB W
  bb : ∃ vSt vNx vOu, Bb W B J vOp vRe (.slice (some ⟨GT, 0, none⟩) sy cT) (.map (some NB)) vSt most outs vNx vOu ∧ W.ownsRow wJ.heap.size 9 1 vSt (sts.map stV).length ((sts.map stV).map Value.string) ∧ RwsM W wJ.heap.size vNx NX nx ∧ RwsM W wJ.heap.size vOu OU ou ∧ Apt vNx vOu
  re : OwnU W wJ.heap.size vRe N R
  nb : MapS W NB 1 ks
  lo' : wJ.heap.size ≤ B ∧ wJ.heap.size ≤ NB
  cr : (NX ++ OU).Pairwise Apt
  sl : ou.length = sts.length
  tx : ps.length = sy ∧ BagT W wJ.heap.size (.slice (some ⟨GT, 0, none⟩) sy cT) ps ∧ ∀ c (h : c < ps.length), (ps[c]).2 = tf c
section
variable {wB wJ W : World} {B J sy N most outs GT cT NB : Nat} {vOp vRe : Value} {tf : Nat → List UInt8} {ps : Lob} {R : Nat → Bool} {sts ks : List (List UInt8)} {NX OU : List Value} {nx ou : List (List Nat)}
theorem BuI.keB (h : BuI wB wJ B J sy N most outs GT cT NB vOp vRe tf ps R sts ks NX OU nx ou W) {W' : World} (hb : Below W.heap.size W W') : BuI wB wJ B J sy N most outs GT cT NB vOp vRe tf ps R sts ks NX OU nx ou W' := by
  obtain ⟨vSt, vNx, vOu, h1, h2, h3, h4, h5⟩ := h.bb
  obtain ⟨p1, p2, p3⟩ := h.tx
  have hk : KeB [] W W' := KeB.below _ hb
  exact ⟨Below.later h.bel hb, h.kes.keB hk (by simp) (by simp), ⟨vSt, vNx, vOu, h1.past hb, hk.own h2 (by simp), h3.keB hk (by simp) (by simp), h4.keB hk (by simp) (by simp), h5⟩, hk.own h.re (by simp), hk.map h.nb, h.lo', h.cr, h.sl, ⟨p1, p2.keep hk (by simp) (by simp), p3⟩⟩
theorem BuI.drew (h : BuI wB wJ B J sy N most outs GT cT NB vOp vRe tf ps R sts ks NX OU nx ou W) : BuI wB wJ B J sy N most outs GT cT NB vOp vRe tf ps R sts ks NX OU nx ou W.drew := h.keB (Below.refl _ _).drew
/-- A text is known now. -/
theorem BuI.know (h : BuI wB wJ B J sy N most outs GT cT NB vOp vRe tf ps R sts ks NX OU nx ou W) {W' : World} {t : List UInt8} (hm : MapS W' NB 1 (ks ++ [t])) (hg : W.grownBy W' (some NB)) : BuI wB wJ B J sy N most outs GT cT NB vOp vRe tf ps R sts (ks ++ [t]) NX OU nx ou W' := by
  obtain ⟨vSt, vNx, vOu, h1, h2, h3, h4, h5⟩ := h.bb
  obtain ⟨p1, p2, p3⟩ := h.tx
  obtain ⟨es, cl, e⟩ := h.nb.isMap
  have hcell : ∀ (k : Nat) (cs : Array Value) (t : TypeId) (f' : Nat × Nat), W.heap[k]? = some (.cells cs t f') → W'.heap[k]? = W.heap[k]? := fun k cs t f' q => by
    refine hg.block k (Array.getElem?_eq_some_iff.1 q).1 (fun e2 => ?_)
    injection e2 with e2
    rw [e2, e] at q
    cases q
  have hb : ∀ {t : TypeId} {s n : Nat} {v : Value} {xs : List Value}, W.ownsRow wJ.heap.size t s v n xs → ∀ k, v.ownBlock = some k → W'.heap[k]? = W.heap[k]? := fun q k hk => by
    obtain ⟨cs, hcs⟩ := own_typ q hk
    exact hcell k cs _ _ hcs
  have ho : ∀ {t : TypeId} {s n : Nat} {v : Value} {xs : List Value}, W.ownsRow wJ.heap.size t s v n xs → W'.ownsRow wJ.heap.size t s v n xs := fun q => own_blk q (hb q)
  exact ⟨h.bel.grown hg h.bel.size (fun q hq => by injection hq with hq; rw [← hq]; exact h.lo'.2), ⟨Nat.le_trans h.kes.size hg.size, fun k cs t f q ht => (hcell k cs t f ((h.kes.kp k cs t f q ht).trans q)).trans (h.kes.kp k cs t f q ht)⟩, ⟨vSt, vNx, vOu, h1.kept (hcell B _ _ _ h1.r), ho h2, h3.keep (hb h3.outer) (fun x hx => by obtain ⟨l, hl⟩ := h3.mem hx; exact hb hl), h4.keep (hb h4.outer) (fun x hx => by obtain ⟨l, hl⟩ := h4.mem hx; exact hb hl), h5⟩, ho h.re, hm, h.lo', h.cr, h.sl, ⟨p1, ⟨ho p2.outer, fun x hx => ho (p2.row x hx), p2.apart, p2.away⟩, p3⟩⟩
/-- A state more: what addState asks, and what it leaves. -/
theorem BuI.add (h : BuI wB wJ B J sy N most outs GT cT NB vOp vRe tf ps R sts ks NX OU nx ou W) : ∃ vSt vNx vOu, Bb W B J vOp vRe (.slice (some ⟨GT, 0, none⟩) sy cT) (.map (some NB)) vSt most outs vNx vOu ∧ W.ownsRow wJ.heap.size 9 1 vSt (sts.map stV).length ((sts.map stV).map Value.string) ∧ W.ownsRow wJ.heap.size 34 1 vOu OU.length OU ∧
    ∀ (w' : World) (t : List UInt8) (x : Value) (o : List Nat) (n : Nat) (vSt' vOu' : Value), OwnI W wJ.heap.size x (nI o) → (∀ y ∈ NX ++ OU, Apt y x) → Bb w' B J vOp vRe (.slice (some ⟨GT, 0, none⟩) sy cT) (.map (some NB)) vSt' most n vNx vOu' → w'.ownsRow wJ.heap.size 9 1 vSt' (sts.map stV ++ [stV t]).length ((sts.map stV ++ [stV t]).map Value.string) → w'.ownsRow wJ.heap.size 34 1 vOu' (OU ++ [x]).length (OU ++ [x]) → Only W w' (fun k => k = B ∨ vSt.ownBlock = some k ∨ vOu.ownBlock = some k) → (∀ k, vOu'.ownBlock = some k → vOu.ownBlock = some k ∨ W.heap.size ≤ k) →
      BuI wB wJ B J sy N most n GT cT NB vOp vRe tf ps R (sts ++ [t]) ks NX (OU ++ [x]) nx (ou ++ [o]) w' := by
  obtain ⟨vSt, vNx, vOu, h1, h2, h3, h4, h5⟩ := h.bb
  obtain ⟨p1, p2, p3⟩ := h.tx
  refine ⟨vSt, vNx, vOu, h1, h2, h4.outer, fun w' t x o n vSt' vOu' hx hap hb hs hou hO hn => ?_⟩
  have hk : KeB [97, 9, 34] W w' := KeB.only hO (fun k hk _ => by
    rcases hk with rfl | hk | hk
    · exact ⟨_, _, _, h1.r, by simp⟩
    · obtain ⟨cs, hcs⟩ := own_typ h2 hk; exact ⟨cs, _, _, hcs, by simp⟩
    · obtain ⟨cs, hcs⟩ := own_typ h4.outer hk; exact ⟨cs, _, _, hcs, by simp⟩)
  refine ⟨hO.afterBelow h.bel h.bel.size (fun i hi => ?_), h.kes.keB hk (by decide) (by decide), ⟨vSt', vNx, vOu', hb, by rw [List.map_append]; exact hs, ?_, h4.inner hk (by decide) hou hx, ?_⟩, hk.own h.re (by decide), hk.map h.nb, h.lo', ?_, by rw [List.length_append, List.length_append, h.sl]; rfl, ⟨p1, p2.keep hk (by decide) (by decide), p3⟩⟩
  · rcases hi with rfl | hi | hi
    · exact h.lo'.1
    · exact (World.ownsRow.lt h2 i hi).1
    · exact (World.ownsRow.lt h4.outer i hi).1
  · refine h3.keep (fun k hk2 => hO.block k (World.ownsRow.lt h3.outer k hk2).2 (fun e => ?_)) (fun y hy k hk2 => ?_)
    · rcases e with rfl | e | e
      · exact own_ne_blk h3.outer h1.r (by decide) hk2
      · exact Apt.ofTyp h3.outer h2 (by decide) k hk2 e
      · exact h5 k hk2 e
    · obtain ⟨l, hl⟩ := h3.mem hy
      obtain ⟨cs, hcs⟩ := own_typ hl hk2
      rw [hk.kp k _ hcs (fun cs' t' f' q => by injection q with _ q2; rw [← q2]; decide), hcs]
  · exact (h5.symm.new h3.outer hn).symm
  · rw [← List.append_assoc, List.pairwise_append]
    exact ⟨h.cr, List.pairwise_singleton _ _, fun y hy z hz => by rw [List.mem_singleton.1 hz]; exact hap y hy⟩
/-- A number is put into a list of its own. -/
theorem BuI.fill (h : BuI wB wJ B J sy N most outs GT cT NB vOp vRe tf ps R sts ks NX OU nx ou W) {g i : Nat} {u : Value} {cs : Array Value} (hg : W.heap[g]? = some (.cells cs 3 (0, 0))) (hgB : wB.heap.size ≤ g) (hgJ : wJ.heap.size ≤ g) (hap : ∀ y ∈ NX ++ OU, y.ownBlock ≠ some g) : BuI wB wJ B J sy N most outs GT cT NB vOp vRe tf ps R sts ks NX OU nx ou (W.setCell ⟨g, i, none⟩ u) := by
  obtain ⟨vSt, vNx, vOu, h1, h2, h3, h4, h5⟩ := h.bb
  obtain ⟨p1, p2, p3⟩ := h.tx
  have hO := Only.setCell W g i u
  have hk : KeB [3] W (W.setCell ⟨g, i, none⟩ u) := KeB.cell hg (by simp) u
  have hrow : ∀ {v : Value} {VS : List Value} {L : List (List Nat)}, RwsM W wJ.heap.size v VS L → (∀ y ∈ VS, y.ownBlock ≠ some g) → RwsM (W.setCell ⟨g, i, none⟩ u) wJ.heap.size v VS L := fun q hq => q.keep (fun k hk2 => by
      obtain ⟨cs', hcs⟩ := own_typ q.outer hk2
      rw [hk.kp k _ hcs (fun cs' t' f' e => by injection e with _ e2; rw [← e2]; decide), hcs]) (fun y hy k hk2 => by
      obtain ⟨l, hl⟩ := q.mem hy
      exact hO.block k (World.ownsRow.lt hl k hk2).2 (fun e => hq y hy (by rw [← e]; exact hk2)))
  have hbB : (W.setCell ⟨g, i, none⟩ u).heap[B]? = W.heap[B]? := by rw [hk.kp B _ h1.r (fun cs' t' f' e => by injection e with _ e2; rw [← e2]; decide), h1.r]
  exact ⟨hO.afterBelow h.bel h.bel.size (fun j hj => by rw [hj]; exact hgJ), h.kes.only hO (fun j hj => by rw [hj]; exact hgB), ⟨vSt, vNx, vOu, h1.kept hbB, hk.own h2 (by decide), hrow h3 (fun y hy => hap y (List.mem_append_left _ hy)), hrow h4 (fun y hy => hap y (List.mem_append_right _ hy)), h5⟩, hk.own h.re (by decide), hk.map h.nb, h.lo', h.cr, h.sl, ⟨p1, p2.keep hk (by decide) (by decide), p3⟩⟩
/-- One text: where it lies, and what is left when it is cut. -/
theorem BuI.text (h : BuI wB wJ B J sy N most outs GT cT NB vOp vRe tf ps R sts ks NX OU nx ou W) {y : Nat} (hy : y < sy) : ∃ a c, (ps.map (·.1))[y]? = some (.slice a (tf y).length c) ∧ W.cell? ⟨GT, y, none⟩ = some (.slice a (tf y).length c) ∧ W.frozen? ⟨GT, y, none⟩ = false ∧ OwnB W wJ.heap.size (.slice a (tf y).length c) (tf y) ∧ (tf y).length ≤ c ∧ (a = none → c = 0) ∧ W.cell? ⟨B, 3, none⟩ = some (.slice (some ⟨GT, 0, none⟩) sy cT) ∧ ∀ m, m ≤ (tf y).length → ∃ ps', (∀ z, z ≠ y → (ps'.map (·.1))[z]? = (ps.map (·.1))[z]?) ∧ BuI wB wJ B J sy N most outs GT cT NB vOp vRe (fun c => if c = y then (tf y).take m else tf c) ps' R sts ks NX OU nx ou (W.setCell ⟨GT, y, none⟩ (.slice a m c)) := by
  obtain ⟨vSt, vNx, vOu, h1, h2, h3, h4, h5⟩ := h.bb
  obtain ⟨p1, p2, p3⟩ := h.tx
  have hy2 : y < ps.length := by omega
  have hmem : ps[y] ∈ ps := List.getElem_mem hy2
  obtain ⟨k0, k1⟩ := p2.cells p1.symm y hy2
  have hr := p2.row _ hmem
  have e2 := p3 y hy2
  obtain ⟨a, c, ev, hac, hcc⟩ : ∃ a c, (ps[y]).1 = .slice a (tf y).length c ∧ (a = none → c = 0) ∧ (tf y).length ≤ c := by
    rcases hr.2 with ⟨e, hn⟩ | ⟨g, cap, cur, e, _, _, hc, _⟩
    · exact ⟨none, 0, by rw [e, ← e2, hn], fun _ => rfl, by rw [← e2, hn]; exact Nat.le_refl _⟩
    · exact ⟨_, cap, by rw [e, ← e2], (fun q => by cases q), by rw [← e2]; exact hc⟩
  rw [ev] at k0
  rw [ev, e2] at hr
  refine ⟨a, c, by rw [List.getElem?_map, List.getElem?_eq_getElem hy2, Option.map_some, ev], k0, k1, hr, hcc, hac, h1.c.2.2.2.1, fun m hm => ?_⟩
  have hf : OwnB W wJ.heap.size (.slice a m c) ((tf y).take m) := by
    have q := own_front hr hm
    unfold OwnB
    rw [List.length_take, Nat.min_eq_left hm]
    have e : cellsOf ((tf y).take m) = (cellsOf (tf y)).take (m * 1) := by unfold cellsOf; rw [Nat.mul_one, List.map_take]
    rw [e]
    exact q
  have hbk : (Value.slice a m c).ownBlock = (Value.slice a (tf y).length c).ownBlock := by cases a <;> rfl
  have hs := p2.set p1.symm y hy2 (w1 := W) (v' := .slice a m c) (l' := (tf y).take m) (fun _ _ _ => rfl) hf (fun q hq => .inl (by rw [ev, ← hbk]; exact hq))
  obtain ⟨cs, hcs⟩ := own_typ p2.outer (show Value.ownBlock _ = some GT from rfl)
  have hk : KeB [99] W (W.setCell ⟨GT, y, none⟩ (.slice a m c)) := KeB.cell hcs (by simp) _
  have hgl := (World.ownsRow.lt p2.outer GT rfl).1
  have hbB : (W.setCell ⟨GT, y, none⟩ (.slice a m c)).heap[B]? = W.heap[B]? := by rw [hk.kp B _ h1.r (fun cs' t' f' e => by injection e with _ e2; rw [← e2]; decide), h1.r]
  refine ⟨ps.set y (.slice a m c, (tf y).take m), fun z hz => ?_, (Only.setCell W GT y _).afterBelow h.bel h.bel.size (fun j hj => by rw [hj]; exact hgl), h.kes.keB hk (by decide) (by decide), ⟨vSt, vNx, vOu, h1.kept hbB, hk.own h2 (by decide), h3.keB hk (by decide) (by decide), h4.keB hk (by decide) (by decide), h5⟩, hk.own h.re (by decide), hk.map h.nb, h.lo', h.cr, h.sl, ⟨by rw [List.length_set]; exact p1, hs, fun j hj => ?_⟩⟩
  · rw [List.getElem?_map, List.getElem?_map, List.getElem?_set_ne (fun e => hz e.symm)]
  · rw [List.getElem_set]
    split
    · rename_i e; rw [if_pos e.symm]
    · rename_i e; rw [if_neg (fun q => e q.symm)]; exact p3 j (by simpa using hj)
end
end Go.Proofs.YtleeedjpccooaaaDoor
namespace Go.Proofs.YtleeedjpccooaaaDoor
open Go.RowKit Go.Shelf
/-- The states that symbols lead to, so many of them: the texts that are known, how many numbers are told, what is told, the states. -/
def nsF (T : Nat → List UInt8) (O : Nat → List Nat) (most : Nat) (ks : List (List UInt8)) (outs : Nat) (ou : List (List Nat)) : Nat → Option (List (List UInt8) × Nat × List (List Nat) × List Nat)
  | 0 => some (ks, outs, ou, [])
  | c + 1 => match nsF T O most ks outs ou c with
    | none => none
    | some (k, n, o, l) => if T c ∈ k then some (k, n, o, l ++ [k.idxOf (T c) + 1]) else if k.length + 1 = most ∨ 4194304 < n + (O c).length then none else some (k ++ [T c], n + (O c).length, o ++ [O c], l ++ [k.length + 1])
theorem nsF_none {T : Nat → List UInt8} {O : Nat → List Nat} {most : Nat} {ks : List (List UInt8)} {outs : Nat} {ou : List (List Nat)} {c : Nat} (h : nsF T O most ks outs ou c = none) : ∀ d, nsF T O most ks outs ou (c + d) = none
  | 0 => h
  | d + 1 => by rw [← Nat.add_assoc, nsF, nsF_none h d]
theorem nsF_old {T : Nat → List UInt8} {O : Nat → List Nat} {most : Nat} {ks : List (List UInt8)} {outs : Nat} {ou : List (List Nat)} {c : Nat} {k : List (List UInt8)} {n : Nat} {o : List (List Nat)} {l : List Nat} (h : nsF T O most ks outs ou c = some (k, n, o, l)) (hm : T c ∈ k) : nsF T O most ks outs ou (c + 1) = some (k, n, o, l ++ [k.idxOf (T c) + 1]) := by
  rw [nsF, h]; simp only; rw [if_pos hm]
theorem nsF_full {T : Nat → List UInt8} {O : Nat → List Nat} {most : Nat} {ks : List (List UInt8)} {outs : Nat} {ou : List (List Nat)} {c : Nat} {k : List (List UInt8)} {n : Nat} {o : List (List Nat)} {l : List Nat} (h : nsF T O most ks outs ou c = some (k, n, o, l)) (hm : T c ∉ k) (hf : k.length + 1 = most ∨ 4194304 < n + (O c).length) : nsF T O most ks outs ou (c + 1) = none := by
  rw [nsF, h]; simp only; rw [if_neg hm, if_pos hf]
theorem nsF_new {T : Nat → List UInt8} {O : Nat → List Nat} {most : Nat} {ks : List (List UInt8)} {outs : Nat} {ou : List (List Nat)} {c : Nat} {k : List (List UInt8)} {n : Nat} {o : List (List Nat)} {l : List Nat} (h : nsF T O most ks outs ou c = some (k, n, o, l)) (hm : T c ∉ k) (hf : ¬ (k.length + 1 = most ∨ 4194304 < n + (O c).length)) : nsF T O most ks outs ou (c + 1) = some (k ++ [T c], n + (O c).length, o ++ [O c], l ++ [k.length + 1]) := by
  rw [nsF, h]; simp only; rw [if_neg hm, if_neg hf]
/-- The texts, cut behind so many symbols. -/
def cutF (tf : Nat → List UInt8) (c : Nat) : Nat → List UInt8 := fun x => if x < c then (tf x).take 4 else tf x
theorem cutF_zero (tf : Nat → List UInt8) : cutF tf 0 = tf := by funext x; unfold cutF; rw [if_neg (by omega)]
theorem cutF_at (tf : Nat → List UInt8) (c : Nat) : cutF tf c c = tf c := by unfold cutF; rw [if_neg (by omega)]
theorem cutF_succ (tf : Nat → List UInt8) (c : Nat) : (fun x => if x = c then (cutF tf c c).take 4 else cutF tf c x) = cutF tf (c + 1) := by
  funext x
  rw [cutF_at]
  unfold cutF
  by_cases h : x = c
  · subst h; rw [if_pos rfl, if_pos (by omega)]
  · rw [if_neg h]
    by_cases h2 : x < c
    · rw [if_pos h2, if_pos (by omega)]
    · rw [if_neg h2, if_neg (by omega)]
/-- While states are looked for. -/
structure NsI (wB wJ : World) (B J sy N most GT cT NB GN : Nat) (vOp vRe : Value) (tf : Nat → List UInt8) (O : Nat → List Nat) (R : Nat → Bool) (s0 : List UInt8) (ks0 : List (List UInt8)) (outs0 : Nat) (ou0 : List (List Nat)) (NX : List Value) (nx : List (List Nat)) (c : Nat) (k : List (List UInt8)) (n : Nat) (o : List (List Nat)) (l : List Nat) (OU : List Value) (ps : Lob) (W : World) : Prop where
  ns : nsF tf O most ks0 outs0 ou0 c = some (k, n, o, l)
  bu : BuI wB wJ B J sy N most n GT cT NB vOp vRe (cutF tf c) ps R (s0 :: k) k NX OU nx o W
  nr : OwnI W wJ.heap.size (.slice (some ⟨GN, 0, none⟩) sy sy) (nI (l ++ List.replicate (sy - c) 0))
  aw : ∀ y ∈ NX ++ OU, y.ownBlock ≠ some GN
  b1 : k.length + 1 ≤ most
  b2 : n ≤ 4194304
  b3 : l.length = c
  lo' : wB.heap.size ≤ GN ∧ wJ.heap.size ≤ GN
section
variable {wB wJ W : World} {B J sy N most GT cT NB GN : Nat} {vOp vRe : Value} {tf : Nat → List UInt8} {O : Nat → List Nat} {R : Nat → Bool} {s0 : List UInt8} {ks0 : List (List UInt8)} {outs0 : Nat} {ou0 : List (List Nat)} {NX : List Value} {nx : List (List Nat)} {c : Nat} {k : List (List UInt8)} {n : Nat} {o : List (List Nat)} {l : List Nat} {OU : List Value} {ps : Lob}
theorem NsI.drew (h : NsI wB wJ B J sy N most GT cT NB GN vOp vRe tf O R s0 ks0 outs0 ou0 NX nx c k n o l OU ps W) : NsI wB wJ B J sy N most GT cT NB GN vOp vRe tf O R s0 ks0 outs0 ou0 NX nx c k n o l OU ps W.drew := ⟨h.ns, h.bu.drew, own_blk h.nr (fun _ _ => rfl), h.aw, h.b1, h.b2, h.b3, h.lo'⟩
theorem row_zero (l : List Nat) {sy c : Nat} (hc : c < sy) (hl : l.length = c) (x : Nat) : (nI (l ++ List.replicate (sy - c) 0)).set c ((x : Nat) : Int) = nI ((l ++ [x]) ++ List.replicate (sy - (c + 1)) 0) := by
  subst hl
  have e : sy - l.length = (sy - (l.length + 1)) + 1 := by omega
  rw [e, List.replicate_succ]
  unfold nI
  rw [List.map_append, List.set_append_right _ _ (by rw [List.length_map]; exact Nat.le_refl _), List.length_map, Nat.sub_self, List.map_cons, List.set_cons_zero, List.append_assoc, List.map_append]
  rfl
/-- The number and the cut text are written. -/
theorem NsI.put (h : NsI wB wJ B J sy N most GT cT NB GN vOp vRe tf O R s0 ks0 outs0 ou0 NX nx c k n o l OU ps W) {k' : List (List UInt8)} {n' : Nat} {o' : List (List Nat)} {OU' : List Value} {x : Nat} {W1 : World} (hc : c < sy) (hns : nsF tf O most ks0 outs0 ou0 (c + 1) = some (k', n', o', l ++ [x])) (hbu : BuI wB wJ B J sy N most n' GT cT NB vOp vRe (cutF tf c) ps R (s0 :: k') k' NX OU' nx o' W1) (hnr : OwnI W1 wJ.heap.size (.slice (some ⟨GN, 0, none⟩) sy sy) (nI (l ++ List.replicate (sy - c) 0))) (haw : ∀ y ∈ NX ++ OU', y.ownBlock ≠ some GN) (hb1 : k'.length + 1 ≤ most) (hb2 : n' ≤ 4194304) (ht4 : 4 ≤ (tf c).length) :
    (∃ u, W1.cell? ⟨GN, c, none⟩ = some u) ∧ W1.frozen? ⟨GN, c, none⟩ = false ∧ ∃ a cp, (ps.map (·.1))[c]? = some (.slice a (tf c).length cp) ∧ 4 ≤ cp ∧ (W1.setCell ⟨GN, c, none⟩ (.int .i64 (x : Int))).cell? ⟨B, 3, none⟩ = some (.slice (some ⟨GT, 0, none⟩) sy cT) ∧ (∃ u, (W1.setCell ⟨GN, c, none⟩ (.int .i64 (x : Int))).cell? ⟨GT, c, none⟩ = some u) ∧ (W1.setCell ⟨GN, c, none⟩ (.int .i64 (x : Int))).frozen? ⟨GT, c, none⟩ = false ∧ ∃ ps', NsI wB wJ B J sy N most GT cT NB GN vOp vRe tf O R s0 ks0 outs0 ou0 NX nx (c + 1) k' n' o' (l ++ [x]) OU' ps' (((W1.setCell ⟨GN, c, none⟩ (.int .i64 (x : Int))).setCell ⟨GT, c, none⟩ (.slice a 4 cp)).drew) := by
  have hlen : (nI (l ++ List.replicate (sy - c) 0)).length = sy := by rw [nI_len, List.length_append, List.length_replicate, h.b3]; omega
  obtain ⟨cs, hcs⟩ := own_typ hnr (show Value.ownBlock _ = some GN from rfl)
  have hr : W1.ownsRow wJ.heap.size 3 1 (.slice (some ⟨GN, 0, none⟩) sy sy) sy ((nI (l ++ List.replicate (sy - c) 0)).map (Value.int .i64)) := by have q := hnr; unfold OwnI at q; rw [hlen] at q; exact q
  have hcell : ∃ u, W1.cell? ⟨GN, c, none⟩ = some u := ⟨_, by
    rw [World.ownsRow.cellAt hr c (by omega)]
    exact List.getElem?_eq_getElem (by rw [List.length_map, hlen]; exact hc)⟩
  have h2 := hbu.fill (i := c) (u := .int .i64 (x : Int)) hcs h.lo'.1 h.lo'.2 haw
  have hst := (World.ownsRow.stored hr c (.int .i64 (x : Int))).1
  have hnr2 : OwnI (W1.setCell ⟨GN, c, none⟩ (.int .i64 (x : Int))) wJ.heap.size (.slice (some ⟨GN, 0, none⟩) sy sy) (nI ((l ++ [x]) ++ List.replicate (sy - (c + 1)) 0)) := by
    rw [← row_zero l hc h.b3 x]
    unfold OwnI
    rw [List.length_set, hlen, List.map_set]
    exact hst
  obtain ⟨a, cp, q1, q2, q3, q4, q5, q6, q7, q8⟩ := h2.text hc
  rw [cutF_at] at q1 q2 q4 q5
  obtain ⟨ps', _, q9⟩ := q8 4 (by rw [cutF_at]; exact ht4)
  rw [cutF_succ] at q9
  refine ⟨hcell, by simp [World.frozen?, hcs], a, cp, q1, by omega, q7, ⟨_, q2⟩, q3, ps', hns, q9.drew, ?_, haw, hb1, hb2, by rw [List.length_append, h.b3]; rfl, h.lo'⟩
  obtain ⟨cs2, hcs2⟩ := own_typ (h2.tx.2.1.outer) (show Value.ownBlock _ = some GT from rfl)
  exact own_blk hnr2 (fun k hk => (Only.setCell _ GT c _).block k (World.ownsRow.lt hnr2 k hk).2 (fun e => own_ne_blk hnr2 hcs2 (by decide) (e ▸ hk)))
end
end Go.Proofs.YtleeedjpccooaaaDoor
namespace Go.Proofs.YtleeedjpccooaaaDoor
open Go.RowKit Go.Shelf
/-- What stays while states are met: the joined patterns, the table, the refusals. -/
def JoC (wJ : World) (J sy lo N : Nat) (A : Nat → Addr) (j : Jn) (vO vF vE vL vM vZ vP vC vS vA : Value) : Prop := ∀ V : World, Below wJ.heap.size wJ V → JoS V J sy lo vO vF vE vL vM vZ vP vC vS vA j.own j.FO.flatten (endsN j.FO) N j.la j.op j.cl j.at0 j.alw ∧ TabAt 11 Lib.deBruijn64tab V ∧ Sen2 V A ∧ RwW V vF vE j.FO ∧ RwW V vL vM (LTs j.LE N)
/-- What a state tells. -/
def outF (j : Jn) (N : Nat) (os : List (List UInt8 × List Nat)) (i : Nat) (g : Nat → Bool) : List Nat := mrg j.alw (mrg (os.getD i ([], [])).2 (endL (fun q => g q && j.la q) j.own (64 * N)))
theorem outF_len (j : Jn) (N : Nat) (os : List (List UInt8 × List Nat)) (i : Nat) (g : Nat → Bool) (hN : N ≤ 1000000) (ha : j.alw.length ≤ 10000000) (ho : ∀ x ∈ os, x.2.length ≤ 100000000) : (outF j N os i g).length ≤ 1000000000 := by
  unfold outF
  have h1 := mrg_len j.alw (mrg (os.getD i ([], [])).2 (endL (fun q => g q && j.la q) j.own (64 * N)))
  have h2 := mrg_len (os.getD i ([], [])).2 (endL (fun q => g q && j.la q) j.own (64 * N))
  have h3 : (endL (fun q => g q && j.la q) j.own (64 * N)).length ≤ 64 * N := by
    unfold endL
    have q1 := onceC_len ((plB (fun q => g q && j.la q) (64 * N)).map fun q => j.own.getD q 0) []
    have q2 := plB_len (fun q => g q && j.la q) (64 * N)
    rw [List.length_map] at q1
    simp only [List.length_nil] at q1
    omega
  have h4 : (os.getD i ([], [])).2.length ≤ 100000000 := by
    rw [List.getD_eq_getElem?_getD]
    by_cases hi : i < os.length
    · rw [List.getElem?_eq_getElem hi]; exact ho _ (List.getElem_mem hi)
    · rw [List.getElem?_eq_none (by omega)]; exact Nat.zero_le _
  omega
theorem endB_any {wB wJ : World} {B J sy lo N i : Nat} {A : Nat → Addr} {j : Jn} {vO vF vE vL vM vZ vP vC vS vA vOp : Value} {os : List (List UInt8 × List Nat)} {g : Nat → Bool} (hC : JoC wJ J sy lo N A j vO vF vE vL vM vZ vP vC vS vA) (hop : OpI wB wJ.heap.size vOp os) (hi : i < os.length) (hN : N ≤ 1000000) (hla : ∀ q, j.la q = true → q < j.own.length) (hol : j.own.length ≤ 64000000) (hal : j.alw.length ≤ 10000000) (hos : os.length ≤ 16384) (hel : ∀ x ∈ os, x.2.length ≤ 10000000)
    (V : World) (hb : Below wJ.heap.size wJ V) (hk : KeS wB V) (b0 : V.cell? ⟨B, 0, none⟩ = some (.pointer (some ⟨J, 0, none⟩))) (b1 : V.cell? ⟨B, 1, none⟩ = some vOp) :
    Calls Tryd.prog 75 #[.pointer (some ⟨B, 0, none⟩), .string ⟨(leB i 4 ++ encW g N).toArray⟩] V fun e w' => ∃ ao co, e = .returned (.slice ao (outF j N os i g).length co) ∧ Hid (OwnI w' V.heap.size (.slice ao (outF j N os i g).length co) (nI (outF j N os i g)) ∧ Below V.heap.size V w') := by
  obtain ⟨hj, ht, _⟩ := hC V hb
  obtain ⟨VS, o1, o2⟩ := (hk.op hop).own
  obtain ⟨q1, aE, cE, q2, q3⟩ := o2 i hi
  obtain ⟨GO, cO, e, _, _, _⟩ := own_form o1 (by omega)
  subst e
  obtain ⟨aO, cW, eO, hIO, _⟩ := OwnI.sl hj.o
  obtain ⟨aA, cA, eA, hIA, hA1, hA2⟩ := OwnI.sl hj.a
  obtain ⟨aE', cE', eE, hIE, hE1, hE2⟩ := OwnI.sl q3
  simp only [Value.slice.injEq, true_and] at eE
  obtain ⟨rfl, rfl⟩ := eE
  subst eO
  subst eA
  have hVl : VS.length = os.length * 2 := o1.1
  have h2 : V.cell? ⟨GO, i * 2, none⟩ = some (.string ⟨(os[i]).1.toArray⟩) := by rw [World.ownsRow.cellAt o1 (i * 2) (by omega)]; exact q1
  have h3 : V.cell? ⟨GO, i * 2 + 1, none⟩ = some (.slice aE (os[i]).2.length cE) := by rw [World.ownsRow.cellAt o1 (i * 2 + 1) (by omega)]; exact q2
  have eo : (os.getD i ([], [])).2 = (os[i]).2 := by rw [List.getD_eq_getElem?_getD, List.getElem?_eq_getElem hi]; rfl
  have h := endBehind_any B J N sy lo GO os.length cO i cE cA g j.la j.own (os[i]).2 j.alw (os[i]).1 aE aO aA cW vF vE vL vM vZ vP vC vS V hN b0 b1 h2 h3 hi (by omega) hj.b hIO hj.z hla (by omega) ht ⟨hIE, hE1, hE2⟩ ⟨hIA, hA1, hA2⟩ (hel _ (List.getElem_mem hi)) hal
  unfold outF
  rw [eo]
  refine h.mono (fun e w' ⟨v, r1, r2, r3⟩ => ?_)
  obtain ⟨ao, co, e4⟩ := own_sl r2
  rw [nI_len] at e4
  subst e4
  exact ⟨ao, co, r1, hid0 ⟨r2, r3⟩⟩
/-- What nextStates leaves. -/
def NsP (wB wJ : World) (B J sy N most GT cT NB : Nat) (A : Nat → Addr) (vOp vRe : Value) (tf : Nat → List UInt8) (R : Nat → Bool) (s0 : List UInt8) (NX : List Value) (nx : List (List Nat)) (res : Option (List (List UInt8) × Nat × List (List Nat) × List Nat)) (e : Ending) (w' : World) : Prop :=
  match res with
  | none => e = .returned (.tuple #[.slice none 0 0, .iface 157 (.pointer (some (A 2)))]) ∧ Below wJ.heap.size wJ w' ∧ KeS wB w'
  | some (k, n, o, l) => ∃ v OU ps, e = .returned (.tuple #[v, .nilIface]) ∧ BuI wB wJ B J sy N most n GT cT NB vOp vRe (fun c => (tf c).take 4) ps R (s0 :: k) k NX OU nx o w' ∧ OwnI w' wJ.heap.size v (nI l) ∧ (∀ y ∈ NX ++ OU, Apt y v) ∧ k.length + 1 ≤ most ∧ n ≤ 4194304 ∧ l.length = sy
set_option maxRecDepth 10000 in
set_option maxHeartbeats 6400000 in
theorem nextStates_any (wB wJ w : World) (B J sy lo N most outs GT cT NB : Nat) (A : Nat → Addr) (j : Jn) (vO vF vE vL vM vZ vP vC vS vA vOp vRe : Value) (os : List (List UInt8 × List Nat)) (tf : Nat → List UInt8) (ix : Nat → Nat) (g : Nat → Nat → Bool) (R : Nat → Bool) (s0 : List UInt8) (ks : List (List UInt8)) (NX OU : List Value) (nx ou : List (List Nat)) (ps : Lob) (hC : JoC wJ J sy lo N A j vO vF vE vL vM vZ vP vC vS vA) (hop : OpI wB wJ.heap.size vOp os) (hN : N ≤ 1000000) (hsy : sy ≤ 16384) (hla : ∀ q, j.la q = true → q < j.own.length) (hol : j.own.length ≤ 64000000) (hal : j.alw.length ≤ 10000000) (hos : os.length ≤ 16384) (hel : ∀ x ∈ os, x.2.length ≤ 10000000)
    (htf : ∀ c, c < sy → ix c < os.length ∧ tf c = leB (ix c) 4 ++ encW (g c) N) (hbu : BuI wB wJ B J sy N most outs GT cT NB vOp vRe tf ps R (s0 :: ks) ks NX OU nx ou w) (hb1 : ks.length + 1 ≤ most) (hb2 : outs ≤ 4194304) (hmo : most ≤ 16384) (hJB : wJ.heap.size ≤ wB.heap.size) :
    Calls Tryd.prog 56 #[.pointer (some ⟨B, 0, none⟩)] w fun e w' => NsP wB wJ B J sy N most GT cT NB A vOp vRe tf R s0 NX nx (nsF tf (fun c => outF j N os (ix c) (g c)) most ks outs ou sy) e w' := by
  obtain ⟨O, hO⟩ : ∃ O, O = fun c => outF j N os (ix c) (g c) := ⟨_, rfl⟩
  rw [← hO]
  have hOl : ∀ c, (O c).length ≤ 1000000000 := fun c => by rw [hO]; exact outF_len j N os (ix c) (g c) hN hal (fun x hx => by have := hel x hx; omega)
  have HEb : Hid (∀ c, c < sy → ∀ V : World, Below wJ.heap.size wJ V → KeS wB V → V.cell? ⟨B, 0, none⟩ = some (.pointer (some ⟨J, 0, none⟩)) → V.cell? ⟨B, 1, none⟩ = some vOp → Calls Tryd.prog 75 #[.pointer (some ⟨B, 0, none⟩), .string ⟨(tf c).toArray⟩] V fun e w' => ∃ ao co, e = .returned (.slice ao (O c).length co) ∧ Hid (OwnI w' V.heap.size (.slice ao (O c).length co) (nI (O c)) ∧ Below V.heap.size V w')) := hid0 (fun c hc V q1 q2 q3 q4 => by
    rw [(htf c hc).2, hO]
    exact endB_any hC hop (htf c hc).1 hN hla hol hal hos hel V q1 q2 q3 q4)
  have HT4 : Hid (∀ c, c < sy → 4 ≤ (tf c).length ∧ (tf c).length ≤ 20000000) := hid0 (fun c hc => by rw [(htf c hc).2, List.length_append, leB_len]; have := encW_len (g c) N; omega)
  have HSen : Hid (∀ V : World, Below wJ.heap.size wJ V → Sen2 V A) := hid0 (fun V hV => (hC V hV).2.2.1)
  have HOl := hid0 hOl
  obtain ⟨GN, hGN⟩ : ∃ GN, GN = w.heap.size := ⟨_, rfl⟩
  have hmk : ∀ V : World, (Instr.makeSlice 34 (.int .i64 (sy : Int)) (.int .i64 (sy : Int))).run Tryd.prog V = .ok (.slice (some ⟨V.heap.size, 0, none⟩) sy sy) (V.alloc (.cells (madeCells #[.int .i64 0] sy) 3)) := fun V => made_run (t := 34) Tryd.underlying34 infoInt sy sy (Nat.le_refl _) (by omega) (by omega) V
  obtain ⟨w0, hw0⟩ : ∃ w0, w0 = w.alloc (.cells (madeCells #[.int .i64 0] sy) 3) := ⟨_, rfl⟩
  have hb0 : Below w.heap.size w w0 := by rw [hw0]; exact (Below.refl _ _).alloc (Nat.le_refl _) _
  have HN0 : Hid (NsI wB wJ B J sy N most GT cT NB GN vOp vRe tf O R s0 ks outs ou NX nx 0 ks outs ou [] OU ps w0) := hid0 (by
    obtain ⟨vSt, vNx, vOu, h1, h2, h3, h4, h5⟩ := hbu.bb
    refine ⟨rfl, by rw [cutF_zero]; exact hbu.keB hb0, ?_, fun y hy e => ?_, hb1, hb2, rfl, by rw [hGN]; exact ⟨hbu.kes.size, hbu.bel.size⟩⟩
    · have q := made_own (e := 3) (z := .int .i64 0) rfl sy sy (Nat.le_refl _) (by omega) w wJ.heap.size hbu.bel.size
      unfold OwnI
      rw [hw0, hGN, List.nil_append, Nat.sub_zero, nI_len, List.length_replicate]
      have e : (nI (List.replicate sy 0)).map (Value.int .i64) = List.replicate sy (.int .i64 0) := by unfold nI; simp
      rw [e]
      exact q
    · rcases List.mem_append.1 hy with hy | hy
      · obtain ⟨l, hl⟩ := h3.mem hy
        have := (World.ownsRow.lt hl GN e).2
        omega
      · obtain ⟨l, hl⟩ := h4.mem hy
        have := (World.ownsRow.lt hl GN e).2
        omega)
  have d0 : w.cell? ⟨B, 0, none⟩ = some (.pointer (some ⟨J, 0, none⟩)) := by
    obtain ⟨vSt, vNx, vOu, h1, _⟩ := hbu.bb
    exact h1.c.1
  have dJ : w.cell? ⟨J, 0, none⟩ = some (.int .i64 (sy : Int)) := (hC w hbu.bel).1.b.c.1
  have d3 : w0.cell? ⟨B, 3, none⟩ = some (.slice (some ⟨GT, 0, none⟩) sy cT) := by
    obtain ⟨vSt, vNx, vOu, h1, _⟩ := HN0.out.bu.bb
    exact h1.c.2.2.2.1
  have hfold := hw0.symm
  have hGN2 := hGN.symm
  have HJB := hid0 hJB
  clear hC hop hla hol hal hos hel htf hbu hO hOl hGN hw0 hb0 hb1 hb2 hJB
  go_enter Tryd.func56, Tryd.ntmps56
  go_wp2
  go_loopw [24] (fun q wr => ∃ (c : Nat) (k : List (List UInt8)) (n : Nat) (o : List (List Nat)) (l : List Nat) (OU : List Value) (ps : Lob), c ≤ sy ∧ q = .int .i64 (c : Int) ∧ Hid (NsI wB wJ B J sy N most GT cT NB GN vOp vRe tf O R s0 ks outs ou NX nx c k n o l OU ps wr)) (fun q _ => sy - (intOf q).toNat)
  case atStart => exact ⟨0, ks, outs, ou, [], OU, ps, Nat.zero_le _, rfl, HN0⟩
  case round =>
    clear d0 dJ d3 hmk hfold HN0
    obtain ⟨c, k, n, o, l, OU, ps, hc, rfl, HK⟩ := hrel
    obtain ⟨V, hV⟩ : ∃ V, V = wr := ⟨_, rfl⟩
    subst hV
    by_cases hcl : c < sy
    · obtain ⟨a, cp, hva, y0, y1, y2, y3, hac, y4, _⟩ := HK.out.bu.text hcl
      rw [cutF_at] at hva y0 y2 y3
      obtain ⟨tB, htB⟩ : ∃ tB : ByteArray, tB = ⟨(tf c).toArray⟩ := ⟨_, rfl⟩
      have hcv : (convert 99 9 (.slice a (tf c).length cp)).run Tryd.prog V.drew = .ok (.string tB) V.drew := by rw [htB]; exact toStr (own_blk y2 (fun _ _ => rfl))
      obtain ⟨t4, tl⟩ := HT4.out c hcl
      obtain ⟨n0, hn0⟩ : ∃ n0, n0 = (tf c).length := ⟨_, rfl⟩
      rw [← hn0] at y0 hcv hva y3 t4 tl
      obtain ⟨vSt, vNx, vOu, hB, hSt, _, hOu, _⟩ := HK.out.bu.bb
      have dB4 : V.cell? ⟨B, 4, none⟩ = some (.map (some NB)) := hB.c.2.2.2.2.1
      have hcI : (c : Int) < (sy : Int) := by omega
      have hcI0 : (0 : Int) ≤ (c : Int) := by omega
      have hcp4 : 4 ≤ cp := by omega
      have hcpI : (4 : Int) ≤ (cp : Int) := by omega
      have hn4I : (4 : Int) ≤ (n0 : Int) := by omega
      have HTL : Hid (∀ {k' : List (List UInt8)} {n' : Nat} {o' : List (List Nat)} {OU' : List Value} {x : Nat} {W1 : World}, nsF tf O most ks outs ou (c + 1) = some (k', n', o', l ++ [x]) → BuI wB wJ B J sy N most n' GT cT NB vOp vRe (cutF tf c) ps R (s0 :: k') k' NX OU' nx o' W1 → OwnI W1 wJ.heap.size (.slice (some ⟨GN, 0, none⟩) sy sy) (nI (l ++ List.replicate (sy - c) 0)) → (∀ y ∈ NX ++ OU', y.ownBlock ≠ some GN) → k'.length + 1 ≤ most → n' ≤ 4194304 → (∃ u, W1.cell? ⟨GN, c, none⟩ = some u) ∧ W1.frozen? ⟨GN, c, none⟩ = false ∧ (W1.setCell ⟨GN, c, none⟩ (.int .i64 (x : Int))).cell? ⟨B, 3, none⟩ = some (.slice (some ⟨GT, 0, none⟩) sy cT) ∧ (∃ u, (W1.setCell ⟨GN, c, none⟩ (.int .i64 (x : Int))).cell? ⟨GT, c, none⟩ = some u) ∧ (W1.setCell ⟨GN, c, none⟩ (.int .i64 (x : Int))).frozen? ⟨GT, c, none⟩ = false ∧ ∃ ps', NsI wB wJ B J sy N most GT cT NB GN vOp vRe tf O R s0 ks outs ou NX nx (c + 1) k' n' o' (l ++ [x]) OU' ps' (((W1.setCell ⟨GN, c, none⟩ (.int .i64 (x : Int))).setCell ⟨GT, c, none⟩ (.slice a 4 cp)).drew)) := hid0 (fun q1 q2 q3 q4 q5 q6 => by
        obtain ⟨r1, r2, a', cp', r3, _, r4, r5, r6, ps', r7⟩ := HK.out.put hcl q1 q2 q3 q4 q5 q6 (by rw [← hn0]; exact t4)
        rw [← hn0, hva] at r3
        injection r3 with r3
        simp only [Value.slice.injEq, true_and] at r3
        obtain ⟨rfl, rfl⟩ := r3
        exact ⟨r1, r2, r4, r5, r6, ps', r7⟩)
      have HN0 := hid0 hn0
      by_cases hm : tf c ∈ k
      · have hi := List.idxOf_lt_length_of_mem hm
        have hlk := HK.out.bu.drew.nb.look hi (by rw [List.getElem_idxOf, ← hn0]; omega)
        rw [List.getElem_idxOf] at hlk
        unfold strB at hlk
        rw [← htB] at hlk
        obtain ⟨num, hnum⟩ : ∃ num, num = k.idxOf (tf c) + 1 := ⟨_, rfl⟩
        rw [← hnum] at hlk
        have hT := HTL.out (x := num) (by rw [hnum]; exact nsF_old HK.out.ns hm) HK.out.bu HK.out.nr HK.out.aw HK.out.b1 HK.out.b2
        obtain ⟨⟨u1, r1⟩, r2, r3, ⟨u2, r4⟩, r5, ps', r6⟩ := hT
        have HR := hid0 r6
        have HR2 := hid0 r6.drew
        clear hn0 htB hB hSt hOu hva y2 hac hm hi hnum r6 t4 y1
        go_upto_region 5 with (fail)
        go_region
        all_goals
          go_wp2
          clear r1 r2 hlk hcv y0 dB4
          go_region
          all_goals
            clear r3 r4 r5
            go_wp2
            go_roundw
            case rel => first | exact ⟨c + 1, k, n, o, _, OU, ps', by omega, by go_num, HR⟩ | exact ⟨c + 1, k, n, o, _, OU, ps', by omega, by go_num, HR2⟩
            case measure => simp [intOf]; omega
      · have hlk := HK.out.bu.drew.nb.lookNot hm (by rw [← hn0]; omega)
        unfold strB at hlk
        rw [← htB] at hlk
        obtain ⟨w3, hup, hm3, hg3⟩ := HK.out.bu.drew.nb.put hm (by rw [← hn0]; omega) (by have := HK.out.b1; omega)
        unfold strB at hup
        rw [← htB] at hup
        obtain ⟨num, hnum⟩ : ∃ num, num = k.length + 1 := ⟨_, rfl⟩
        rw [← hnum] at hup
        have h3 := HK.out.bu.drew.know hm3 hg3
        obtain ⟨aS, cS, eS⟩ := own_sl hSt
        have dS : V.cell? ⟨B, 5, none⟩ = some (.slice aS num cS) := by
          have q := hB.c.2.2.2.2.2.1
          rw [eS, List.length_map, List.length_cons, ← hnum] at q
          exact q
        obtain ⟨vSt3, vNx3, vOu3, g1, g2, g3, g4⟩ := h3.add
        have HEn := hid0 (HEb.out c hcl w3 h3.bel h3.kes g1.c.1 g1.c.2.1)
        rw [← htB] at HEn
        obtain ⟨nE, hnE⟩ : ∃ nE, nE = (O c).length := ⟨_, rfl⟩
        rw [← hnE] at HEn
        have hnEl : nE ≤ 1000000000 := by rw [hnE]; exact HOl.out c
        have hAs : ∀ (w4 : World) (ao : Option Addr) (co : Nat), Below w3.heap.size w3 w4 → ∃ vSt4 vNx4 vOu4, Bb w4 B J vOp vRe (.slice (some ⟨GT, 0, none⟩) sy cT) (.map (some NB)) vSt4 most n vNx4 vOu4 ∧ w4.ownsRow wJ.heap.size 9 1 vSt4 ((s0 :: k).map stV).length (((s0 :: k).map stV).map Value.string) ∧ w4.ownsRow wJ.heap.size 34 1 vOu4 OU.length OU ∧ (Calls Tryd.prog 53 #[.pointer (some ⟨B, 0, none⟩), .string tB, .slice ao nE co] w4 fun e w' =>
            (((s0 :: k).map stV).length = most ∨ 4194304 < n + nE → e = .returned (.iface 157 (.pointer (some (A 2)))) ∧ Only w4 w' (fun k => k = B))
            ∧ (¬ (((s0 :: k).map stV).length = most ∨ 4194304 < n + nE) → e = .returned .nilIface ∧ ∃ vSt' vOu', Bb w' B J vOp vRe (.slice (some ⟨GT, 0, none⟩) sy cT) (.map (some NB)) vSt' most (n + nE) vNx4 vOu' ∧ w'.ownsRow wJ.heap.size 9 1 vSt' ((s0 :: k).map stV ++ [tB]).length (((s0 :: k).map stV ++ [tB]).map Value.string) ∧ w'.ownsRow wJ.heap.size 34 1 vOu' (OU ++ [Value.slice ao nE co]).length (OU ++ [Value.slice ao nE co]) ∧ Only w4 w' (fun k => k = B ∨ vSt4.ownBlock = some k ∨ vOu4.ownBlock = some k) ∧ (∀ k, vSt'.ownBlock = some k → vSt4.ownBlock = some k ∨ w4.heap.size ≤ k) ∧ (∀ k, vOu'.ownBlock = some k → vOu4.ownBlock = some k ∨ w4.heap.size ≤ k))) ∧
            ∀ (w' : World) (t : List UInt8) (x : Value) (o2 : List Nat) (n2 : Nat) (vSt' vOu' : Value), OwnI w4 wJ.heap.size x (nI o2) → (∀ y ∈ NX ++ OU, Apt y x) → Bb w' B J vOp vRe (.slice (some ⟨GT, 0, none⟩) sy cT) (.map (some NB)) vSt' most n2 vNx4 vOu' → w'.ownsRow wJ.heap.size 9 1 vSt' ((s0 :: k).map stV ++ [stV t]).length (((s0 :: k).map stV ++ [stV t]).map Value.string) → w'.ownsRow wJ.heap.size 34 1 vOu' (OU ++ [x]).length (OU ++ [x]) → Only w4 w' (fun k => k = B ∨ vSt4.ownBlock = some k ∨ vOu4.ownBlock = some k) → (∀ k, vOu'.ownBlock = some k → vOu4.ownBlock = some k ∨ w4.heap.size ≤ k) → BuI wB wJ B J sy N most n2 GT cT NB vOp vRe (cutF tf c) ps R ((s0 :: k) ++ [t]) (k ++ [tf c]) NX (OU ++ [x]) nx (o ++ [o2]) w' := fun w4 ao co q2 => by
          have h4 := h3.keB q2
          obtain ⟨vSt4, vNx4, vOu4, t1, t2, t3, t5⟩ := h4.add
          have hOUl : OU.length ≤ 16384 := by
            obtain ⟨_, _, _, _, _, _, z1, _⟩ := h4.bb
            have q1 := z1.len
            have q3 := h4.sl
            rw [List.length_cons] at q3
            have := HK.out.b1
            omega
          exact ⟨vSt4, vNx4, vOu4, t1, t2, t3, addState_any B J wJ.heap.size most n nE co A vOp vRe (.slice (some ⟨GT, 0, none⟩) sy cT) (.map (some NB)) vSt4 vNx4 vOu4 ((s0 :: k).map stV) OU tB ao w4 t1 t2 t3 h4.bel.size (HSen.out w4 h4.bel) (by rw [List.length_map, List.length_cons]; have := HK.out.b1; omega) hOUl hmo HK.out.b2 hnEl, t5⟩
        have hk1 : (((s0 :: k).map stV).length) = k.length + 1 := by rw [List.length_map, List.length_cons]
        by_cases hf : k.length + 1 = most ∨ 4194304 < n + nE
        · have HAd : Hid (∀ (w4 : World) (ao : Option Addr) (co : Nat), Below w3.heap.size w3 w4 → Calls Tryd.prog 53 #[.pointer (some ⟨B, 0, none⟩), .string tB, .slice ao nE co] w4 fun e w' => e = .returned (.iface 157 (.pointer (some (A 2)))) ∧ Hid (NsP wB wJ B J sy N most GT cT NB A vOp vRe tf R s0 NX nx (nsF tf O most ks outs ou sy) (.returned (.tuple #[.slice none 0 0, .iface 157 (.pointer (some (A 2)))])) w')) := hid0 (fun w4 ao co q2 => by
            have h4 := h3.keB q2
            obtain ⟨vSt4, vNx4, vOu4, t1, _, _, t4, _⟩ := hAs w4 ao co q2
            refine t4.mono (fun e w' ⟨z1, _⟩ => ?_)
            obtain ⟨r1, r2⟩ := z1 (by rw [hk1]; exact hf)
            refine ⟨r1, hid0 ?_⟩
            have e1 := nsF_full HK.out.ns hm (by rw [← hnE]; exact hf)
            have e2 := nsF_none e1 (sy - (c + 1))
            rw [show c + 1 + (sy - (c + 1)) = sy by omega] at e2
            rw [e2]
            have hkk : KeB [97] w4 w' := KeB.only r2 (fun q hq _ => by rw [hq]; exact ⟨_, _, _, t1.r, by simp⟩)
            exact ⟨rfl, r2.afterBelow h4.bel h4.bel.size (fun i hi => by rw [hi]; exact h4.lo'.1), h4.kes.keB hkk (by decide) (by decide)⟩)
          clear hn0 htB hB hSt hOu hva y2 hac hm hnum t4 y1 hm3 hg3 h3 g2 g3 g4 eS hnE hAs hk1 hf
          go_upto_region 5 with (fail)
          go_region
          all_goals
            go_wp2_with (first
              | (go_at_call 75; go_loud ((refine HEn.out.mono ?_; rintro e w4 ⟨ao, co, rfl, HE4⟩)))
              | (go_at_call 53; go_loud ((refine (HAd.out w4 ao co HE4.out.2).mono ?_; rintro e w5 ⟨rfl, HP⟩))))
            refine bodyPost_ret (v := .tuple #[.slice none 0 0, .iface 157 (.pointer (some (A 2)))]) (by simp [results, Tryd.results56, go_sem]) rfl HP.out
        · have hgn : GN < V.heap.size := (World.ownsRow.lt HK.out.nr GN rfl).2
          have HAd : Hid (∀ (w4 : World) (ao : Option Addr) (co : Nat), OwnI w4 w3.heap.size (.slice ao nE co) (nI (O c)) → Below w3.heap.size w3 w4 → Calls Tryd.prog 53 #[.pointer (some ⟨B, 0, none⟩), .string tB, .slice ao nE co] w4 fun e w' => e = .returned .nilIface ∧ Hid ((∃ u, w'.cell? ⟨GN, c, none⟩ = some u) ∧ w'.frozen? ⟨GN, c, none⟩ = false ∧ (w'.setCell ⟨GN, c, none⟩ (.int .i64 (num : Int))).cell? ⟨B, 3, none⟩ = some (.slice (some ⟨GT, 0, none⟩) sy cT) ∧ (∃ u, (w'.setCell ⟨GN, c, none⟩ (.int .i64 (num : Int))).cell? ⟨GT, c, none⟩ = some u) ∧ (w'.setCell ⟨GN, c, none⟩ (.int .i64 (num : Int))).frozen? ⟨GT, c, none⟩ = false ∧ ∃ k' n' o' l' OU' ps', NsI wB wJ B J sy N most GT cT NB GN vOp vRe tf O R s0 ks outs ou NX nx (c + 1) k' n' o' l' OU' ps' (((w'.setCell ⟨GN, c, none⟩ (.int .i64 (num : Int))).setCell ⟨GT, c, none⟩ (.slice a 4 cp)).drew))) := hid0 (fun w4 ao co q1 q2 => by
            have h4 := h3.keB q2
            obtain ⟨vSt4, vNx4, vOu4, t1, t2, t3, t4, t5⟩ := hAs w4 ao co q2
            refine t4.mono (fun e w' ⟨_, z2⟩ => ?_)
            obtain ⟨r1, vSt', vOu', r2, r3, r4, r5, _, r6⟩ := z2 (by rw [hk1]; exact hf)
            have hx : OwnI w4 wJ.heap.size (.slice ao nE co) (nI (O c)) := q1.lower h3.bel.size
            have hfresh : ∀ y ∈ NX ++ OU, Apt y (.slice ao nE co) := fun y hy g hg e => by
              have hw3 := (World.ownsRow.lt q1 g e).1
              obtain ⟨_, _, _, _, _, z3, z4, _⟩ := h3.bb
              rcases List.mem_append.1 hy with hy | hy
              · obtain ⟨l', hl'⟩ := z3.mem hy
                have := (World.ownsRow.lt hl' g hg).2
                omega
              · obtain ⟨l', hl'⟩ := z4.mem hy
                have := (World.ownsRow.lt hl' g hg).2
                omega
            have h5 := t5 w' (tf c) (.slice ao nE co) (O c) (n + nE) vSt' vOu' hx hfresh r2 (by have q := r3; rw [htB] at q; exact q) r4 r5 r6
            have n1 : OwnI w3 wJ.heap.size (.slice (some ⟨GN, 0, none⟩) sy sy) (nI (l ++ List.replicate (sy - c) 0)) := own_blk HK.out.nr (fun q hq => by
              obtain ⟨cs, hcs⟩ := own_typ HK.out.nr hq
              obtain ⟨es, cl, em⟩ := HK.out.bu.nb.isMap
              refine hg3.block q (World.ownsRow.lt HK.out.nr q hq).2 (fun e2 => ?_)
              injection e2 with e2
              rw [e2, em] at hcs
              cases hcs)
            have n2 : OwnI w4 wJ.heap.size (.slice (some ⟨GN, 0, none⟩) sy sy) (nI (l ++ List.replicate (sy - c) 0)) := own_blk n1 (fun q hq => q2.block q (World.ownsRow.lt n1 q hq).2)
            have n3 : OwnI w' wJ.heap.size (.slice (some ⟨GN, 0, none⟩) sy sy) (nI (l ++ List.replicate (sy - c) 0)) := own_blk n2 (fun q hq => r5.block q (World.ownsRow.lt n2 q hq).2 (fun e2 => by
              rcases e2 with rfl | e2 | e2
              · exact own_ne_blk n2 t1.r (by decide) hq
              · exact Apt.ofTyp n2 t2 (by decide) q hq e2
              · exact Apt.ofTyp n2 t3 (by decide) q hq e2))
            have e1 := nsF_new HK.out.ns hm (by rw [← hnE]; exact hf)
            rw [← hnE, ← hnum] at e1
            obtain ⟨s1, s2, s3, s4, s5, ps', s6⟩ := HTL.out e1 h5 n3 (fun y hy e2 => by
              rw [← List.append_assoc] at hy
              rcases List.mem_append.1 hy with hy | hy
              · exact HK.out.aw y hy e2
              · rw [List.mem_singleton.1 hy] at e2
                have q3 := (World.ownsRow.lt q1 GN e2).1
                have q4 := hg3.size
                have q5 : V.drew.heap.size = V.heap.size := rfl
                omega) (by rw [List.length_append, List.length_singleton]; have := HK.out.b1; omega) (by omega)
            exact ⟨r1, hid0 ⟨s1, s2, s3, s4, s5, _, _, _, _, _, ps', s6⟩⟩)
          clear hn0 htB hB hSt hOu hva y2 hac hm hnum t4 y1 hm3 hg3 h3 g2 g3 g4 eS hnE hAs hk1 hf
          go_upto_region 5 with (fail)
          go_region
          all_goals
            go_upto_region 14 with (first
              | (go_at_call 75; go_loud ((refine HEn.out.mono ?_; rintro e w4 ⟨ao, co, rfl, HE4⟩)))
              | (go_at_call 53; go_loud ((refine (HAd.out w4 ao co HE4.out.1 HE4.out.2).mono ?_; rintro e w5 ⟨rfl, HP⟩; obtain ⟨u1, r1⟩ := HP.out.1; have r2 := HP.out.2.1))))
            have r3 := HP.out.2.2.1
            obtain ⟨u2, r4⟩ := HP.out.2.2.2.1
            have r5 := HP.out.2.2.2.2.1
            have HR := hid0 HP.out.2.2.2.2.2
            clear r1 r2 hlk hcv y0 dB4 hup dS HP
            go_region
            all_goals
              clear r3 r4 r5
              obtain ⟨k', n', o', l', OU', ps', h6⟩ := HR.out
              have HR1 := hid0 h6
              clear h6
              go_wp2
              go_roundw
              case rel => first | exact ⟨c + 1, k', n', o', l', OU', ps', by omega, by go_num, HR1⟩ | ((repeat apply Exists.intro); exact ⟨⟨by omega, by go_num, HR1⟩, rfl⟩)
              case measure => simp [intOf]; omega
    · obtain rfl : c = sy := by omega
      have HF : Hid (NsP wB wJ B J c N most GT cT NB A vOp vRe tf R s0 NX nx (nsF tf O most ks outs ou c) (.returned (.tuple #[.slice (some ⟨GN, 0, none⟩) c c, .nilIface])) V) := hid0 (by
        rw [HK.out.ns]
        have h := HK.out
        have e : cutF tf c = cutF tf c := rfl
        obtain ⟨p1, p2, p3⟩ := h.bu.tx
        refine ⟨_, OU, ps, rfl, ⟨h.bu.bel, h.bu.kes, h.bu.bb, h.bu.re, h.bu.nb, h.bu.lo', h.bu.cr, h.bu.sl, p1, p2, fun x hx => ?_⟩, ?_, fun y hy q hq e => ?_, h.b1, h.b2, h.b3⟩
        · rw [p3 x hx]; unfold cutF; rw [if_pos (by omega)]
        · have q := h.nr; rw [Nat.sub_self] at q; simpa using q
        · have e2 : GN = q := by simpa [Value.ownBlock] using e
          exact h.aw y hy (by rw [e2]; exact hq))
      clear HK
      go_wp2
      refine bodyPost_ret (v := .tuple #[.slice (some ⟨GN, 0, none⟩) c c, .nilIface]) (by simp [results, Tryd.results56, go_sem]) rfl HF.out
end Go.Proofs.YtleeedjpccooaaaDoor
namespace Go.Proofs.YtleeedjpccooaaaDoor
open Go.RowKit Go.Shelf
section
variable {wB wJ W : World} {B J sy N most outs GT cT NB : Nat} {vOp vRe : Value} {tf : Nat → List UInt8} {ps : Lob} {R : Nat → Bool} {sts ks : List (List UInt8)} {NX OU : List Value} {nx ou : List (List Nat)}
/-- What is reached is another set. -/
theorem BuI.reach (h : BuI wB wJ B J sy N most outs GT cT NB vOp vRe tf ps R sts ks NX OU nx ou W) {W' : World} {R' : Nat → Bool} (hu : OwnU W' wJ.heap.size vRe N R') (hO : Only W W' (fun k => vRe.ownBlock = some k)) : BuI wB wJ B J sy N most outs GT cT NB vOp vRe tf ps R' sts ks NX OU nx ou W' := by
  obtain ⟨vSt, vNx, vOu, h1, h2, h3, h4, h5⟩ := h.bb
  obtain ⟨p1, p2, p3⟩ := h.tx
  have hk : KeB [105] W W' := KeB.row h.re (by simp) hO
  have hbB : W'.heap[B]? = W.heap[B]? := by rw [hk.kp B _ h1.r (fun cs' t' f' e => by injection e with _ e2; rw [← e2]; decide), h1.r]
  exact ⟨hO.afterBelow h.bel h.bel.size (fun i hi => (World.ownsRow.lt h.re i hi).1), h.kes.keB hk (by decide) (by decide), ⟨vSt, vNx, vOu, h1.kept hbB, hk.own h2 (by decide), h3.keB hk (by decide) (by decide), h4.keB hk (by decide) (by decide), h5⟩, hu, hk.map h.nb, h.lo', h.cr, h.sl, ⟨p1, p2.keep hk (by decide) (by decide), p3⟩⟩
theorem BuI.ptI (h : BuI wB wJ B J sy N most outs GT cT NB vOp vRe tf ps R sts ks NX OU nx ou W) : PtI W GT cT sy wJ.heap.size ps tf W := ⟨⟨ps, h.tx.1, h.tx.2.1, h.tx.2.2, fun x hx _g hg => .inl (.inr ⟨x, hx, hg⟩)⟩, Only.refl _ _⟩
theorem BuI.ptK (h : BuI wB wJ B J sy N most outs GT cT NB vOp vRe tf ps R sts ks NX OU nx ou W) {W' : World} (hO : Only W W' (PtS GT ps)) : KeB [99, 5] W W' ∧ Below wJ.heap.size wJ W' := by
  obtain ⟨p1, p2, p3⟩ := h.tx
  refine ⟨KeB.only hO (fun k hk _ => ?_), hO.afterBelow h.bel h.bel.size (fun i hi => ?_)⟩
  · rcases hk with rfl | ⟨x, hx, e⟩
    · obtain ⟨cs, hcs⟩ := own_typ p2.outer (show Value.ownBlock _ = some k from rfl); exact ⟨cs, _, _, hcs, by simp⟩
    · obtain ⟨cs, hcs⟩ := own_typ (p2.row x hx) e; exact ⟨cs, _, _, hcs, by simp⟩
  · rcases hi with rfl | ⟨x, hx, e⟩
    · exact (World.ownsRow.lt p2.outer i rfl).1
    · exact (World.ownsRow.lt (p2.row x hx) i e).1
/-- The texts are others. -/
theorem BuI.part (h : BuI wB wJ B J sy N most outs GT cT NB vOp vRe tf ps R sts ks NX OU nx ou W) {W' : World} {tf' : Nat → List UInt8} (hp : PtI W GT cT sy wJ.heap.size ps tf' W') : ∃ ps', BuI wB wJ B J sy N most outs GT cT NB vOp vRe tf' ps' R sts ks NX OU nx ou W' := by
  obtain ⟨vSt, vNx, vOu, h1, h2, h3, h4, h5⟩ := h.bb
  obtain ⟨ps', q1, q2, q3, _⟩ := hp.bag
  obtain ⟨hk, hb⟩ := h.ptK hp.only
  have hbB : W'.heap[B]? = W.heap[B]? := by rw [hk.kp B _ h1.r (fun cs' t' f' e => by injection e with _ e2; rw [← e2]; decide), h1.r]
  exact ⟨ps', hb, h.kes.keB hk (by decide) (by decide), ⟨vSt, vNx, vOu, h1.kept hbB, hk.own h2 (by decide), h3.keB hk (by decide) (by decide), h4.keB hk (by decide) (by decide), h5⟩, hk.own h.re (by decide), hk.map h.nb, h.lo', h.cr, h.sl, ⟨q1, q2, q3⟩⟩
/-- A row of Next more. -/
theorem BuI.next (h : BuI wB wJ B J sy N most outs GT cT NB vOp vRe tf ps R sts ks NX OU nx ou W) : ∃ a c, W.cell? ⟨B, 9, none⟩ = some (.slice a NX.length c) ∧ W.ownsRow wJ.heap.size 34 1 (.slice a NX.length c) NX.length NX ∧
    ∀ (x : Value) (l : List Nat) (v1 : Value) (w1 : World), OwnI W wJ.heap.size x (nI l) → (∀ y ∈ NX ++ OU, Apt y x) → ApG 34 W w1 wJ.heap.size (.slice a NX.length c) v1 (NX ++ [x]) → (w1.cell? ⟨B, 9, none⟩ = some (.slice a NX.length c) ∧ w1.frozen? ⟨B, 9, none⟩ = false) ∧ BuI wB wJ B J sy N most outs GT cT NB vOp vRe tf ps R sts ks (NX ++ [x]) OU (nx ++ [l]) ou (w1.setCell ⟨B, 9, none⟩ v1) := by
  obtain ⟨vSt, vNx, vOu, h1, h2, h3, h4, h5⟩ := h.bb
  obtain ⟨p1, p2, p3⟩ := h.tx
  obtain ⟨a, c, e⟩ := own_sl h3.outer
  refine ⟨a, c, by rw [← e]; exact h1.c.2.2.2.2.2.2.2.2.2.1, by rw [← e]; exact h3.outer, fun x l v1 w1 hx hap g => ?_⟩
  rw [← e] at g ⊢
  have hk0 : KeB [34, 97] W w1 := KeB.row h3.outer (by simp) g.frm
  have b1 : Bb w1 B J vOp vRe (.slice (some ⟨GT, 0, none⟩) sy cT) (.map (some NB)) vSt most outs vNx vOu := h1.kept (g.frm.block B h1.lt (own_ne_blk h3.outer h1.r (by decide)))
  have hk1 : KeB [34, 97] w1 (w1.setCell ⟨B, 9, none⟩ v1) := KeB.cell b1.r (by simp) _
  have hk := hk0.trans hk1
  have hsO := Only.setCell w1 B 9 v1
  have m2 := own_ne_blk g.own b1.r (by decide)
  have hown : (w1.setCell ⟨B, 9, none⟩ v1).ownsRow wJ.heap.size 34 1 v1 (NX ++ [x]).length (NX ++ [x]) := own_blk g.own (fun k hk => hsO.block k (World.ownsRow.lt g.own k hk).2 (fun q => m2 (q ▸ hk)))
  refine ⟨⟨b1.c.2.2.2.2.2.2.2.2.2.1, b1.fz 9⟩, hsO.afterBelow (g.frm.afterBelow h.bel h.bel.size (fun i hi => (World.ownsRow.lt h3.outer i hi).1)) (Nat.le_trans h.bel.size g.frm.size) (fun i hi => by rw [hi]; exact h.lo'.1), h.kes.keB hk (by decide) (by decide), ⟨vSt, v1, vOu, b1.setNx v1, hk.own h2 (by decide), h3.inner hk (by decide) hown hx, ?_, h5.new h4.outer g.at'⟩, hk.own h.re (by decide), hk.map h.nb, h.lo', ?_, h.sl, ⟨p1, p2.keep hk (by decide) (by decide), p3⟩⟩
  · refine h4.keep (fun k hk2 => ?_) (fun y hy k hk2 => ?_)
    · have q1 := g.frm.block k (World.ownsRow.lt h4.outer k hk2).2 (fun e2 => h5 k e2 hk2)
      obtain ⟨cs, hcs⟩ := own_typ h4.outer hk2
      have hcs1 := q1.trans hcs
      refine (hsO.block k (Array.getElem?_eq_some_iff.1 hcs1).1 (fun e2 => ?_)).trans q1
      have h6 := b1.r
      rw [← e2, hcs1] at h6
      injection h6 with h6
      injection h6 with _ h7
      exact absurd h7 (by decide)
    · obtain ⟨l', hl'⟩ := h4.mem hy
      obtain ⟨cs, hcs⟩ := own_typ hl' hk2
      rw [hk.kp k _ hcs (fun cs' t' f' q => by injection q with _ q2; rw [← q2]; decide), hcs]
  · rw [List.append_assoc, List.pairwise_append]
    obtain ⟨c1, c2, c3⟩ := List.pairwise_append.1 h.cr
    refine ⟨c1, ?_, fun y hy z hz => ?_⟩
    · rw [List.singleton_append, List.pairwise_cons]
      exact ⟨fun y hy => (hap y (List.mem_append_right _ hy)).symm, c2⟩
    · rcases List.mem_append.1 hz with hz | hz
      · rw [List.mem_singleton.1 hz]; exact hap y (List.mem_append_left _ hy)
      · exact c3 y hy z hz
end
/-- The symbols that lead to new states. -/
def ncF (T : Nat → List UInt8) (ks : List (List UInt8)) : Nat → List Nat
  | 0 => []
  | c + 1 => if T c ∈ ks ++ (ncF T ks c).map T then ncF T ks c else ncF T ks c ++ [c]
theorem nsF_ks {T : Nat → List UInt8} {O : Nat → List Nat} {most : Nat} {ks : List (List UInt8)} {outs : Nat} {ou : List (List Nat)} : ∀ {c : Nat} {k : List (List UInt8)} {n : Nat} {o : List (List Nat)} {l : List Nat}, nsF T O most ks outs ou c = some (k, n, o, l) → k = ks ++ (ncF T ks c).map T
  | 0, k, n, o, l, h => by
    rw [nsF] at h
    injection h with h
    injection h with h _
    rw [← h]; simp [ncF]
  | c + 1, k, n, o, l, h => by
    cases hq : nsF T O most ks outs ou c with
    | none => rw [nsF, hq] at h; cases h
    | some q =>
      obtain ⟨k1, n1, o1, l1⟩ := q
      have ih := nsF_ks hq
      by_cases hm : T c ∈ k1
      · rw [nsF_old hq hm] at h
        injection h with h
        injection h with h _
        rw [ncF, ← ih, if_pos hm, ← h, ih]
      · by_cases hf : k1.length + 1 = most ∨ 4194304 < n1 + (O c).length
        · rw [nsF_full hq hm hf] at h; cases h
        · rw [nsF_new hq hm hf] at h
          injection h with h
          injection h with h _
          rw [ncF, ← ih, if_neg hm, ← h, ih, List.map_append, List.append_assoc]
          rfl
theorem ncF_lt (T : Nat → List UInt8) (ks : List (List UInt8)) : ∀ c, ∀ x ∈ ncF T ks c, x < c
  | 0, x, h => by simp [ncF] at h
  | c + 1, x, h => by
    rw [ncF] at h
    split at h
    · have := ncF_lt T ks c x h; omega
    · rcases List.mem_append.1 h with h | h
      · have := ncF_lt T ks c x h; omega
      · have := List.mem_singleton.1 h; omega
/-- The places that follow a state's. -/
def rcF (j : Jn) (N : Nat) (fo f : Nat → Bool) : Nat → Bool := anF (accF (accF (fun _ => false) j.FO (plB fo (64 * N))) j.FO (plB f (64 * N))) j.op N
/-- The machine so far: texts of the states but the first, each with its opening and its other places, how many numbers are told, what is told, the rows. -/
structure Bs where
  ks : List (List UInt8)
  gs : List (Nat × (Nat → Bool))
  n : Nat
  ou : List (List Nat)
  nx : List (List Nat)
def bR (j : Jn) (N : Nat) (fs : Nat → Nat → Bool) (b : Bs) (s : Nat) : Nat → Bool := if s = 0 then j.cl else rcF j N (fs (b.gs.getD (s - 1) (0, fun _ => false)).1) (b.gs.getD (s - 1) (0, fun _ => false)).2
def bT (j : Jn) (N : Nat) (ix : Nat → Nat) (R : Nat → Bool) : Nat → List UInt8 := fun c => leB (ix c) 4 ++ encW (andB R (ltF j.LE c)) N
/-- One state's row. -/
def bStep (j : Jn) (N sy most : Nat) (ix : Nat → Nat) (fs : Nat → Nat → Bool) (os : List (List UInt8 × List Nat)) (b : Bs) (s : Nat) : Option Bs :=
  match nsF (bT j N ix (bR j N fs b s)) (fun c => outF j N os (ix c) (andB (bR j N fs b s) (ltF j.LE c))) most b.ks b.n b.ou sy with
  | none => none
  | some (k, n, o, l) => some ⟨k, b.gs ++ (ncF (bT j N ix (bR j N fs b s)) b.ks sy).map (fun c => (ix c, andB (bR j N fs b s) (ltF j.LE c))), n, o, b.nx ++ [l]⟩
/-- So many rows, or all that there are. -/
def bRun (j : Jn) (N sy most : Nat) (ix : Nat → Nat) (fs : Nat → Nat → Bool) (os : List (List UInt8 × List Nat)) : Nat → Option Bs
  | 0 => if most = 0 ∨ 4194304 < j.at0.length then none else some ⟨[], [], j.at0.length, [j.at0], []⟩
  | s + 1 => match bRun j N sy most ix fs os s with
    | none => none
    | some b => if s < b.ks.length + 1 then bStep j N sy most ix fs os b s else some b
theorem bRun_none {j : Jn} {N sy most : Nat} {ix : Nat → Nat} {fs : Nat → Nat → Bool} {os : List (List UInt8 × List Nat)} {s : Nat} (h : bRun j N sy most ix fs os s = none) : ∀ d, bRun j N sy most ix fs os (s + d) = none
  | 0 => h
  | d + 1 => by rw [← Nat.add_assoc, bRun, bRun_none h d]
theorem bRun_done {j : Jn} {N sy most : Nat} {ix : Nat → Nat} {fs : Nat → Nat → Bool} {os : List (List UInt8 × List Nat)} {s : Nat} {b : Bs} (h : bRun j N sy most ix fs os s = some b) (hs : b.ks.length + 1 ≤ s) : ∀ d, bRun j N sy most ix fs os (s + d) = some b
  | 0 => h
  | d + 1 => by rw [← Nat.add_assoc, bRun, bRun_done h hs d]; simp only; rw [if_neg (by omega)]
theorem bRun_more {j : Jn} {N sy most : Nat} {ix : Nat → Nat} {fs : Nat → Nat → Bool} {os : List (List UInt8 × List Nat)} {s : Nat} {b : Bs} (h : bRun j N sy most ix fs os s = some b) (hs : s < b.ks.length + 1) : bRun j N sy most ix fs os (s + 1) = bStep j N sy most ix fs os b s := by rw [bRun, h]; simp only; rw [if_pos hs]
/-- The texts say what stands beside them. -/
structure BsOk (j : Jn) (N : Nat) (os : List (List UInt8 × List Nat)) (b : Bs) : Prop where
  len : b.gs.length = b.ks.length
  tx : ∀ i (h : i < b.gs.length) (h2 : i < b.ks.length), b.ks[i] = leB (b.gs[i]).1 4 ++ encW (b.gs[i]).2 N
  ix : ∀ x ∈ b.gs, x.1 < os.length
  lt : ∀ x ∈ b.gs, ∀ q, x.2 q = true → q < j.own.length
theorem BsOk.step {j : Jn} {N sy most : Nat} {ix : Nat → Nat} {fs : Nat → Nat → Bool} {os : List (List UInt8 × List Nat)} {b b' : Bs} {s : Nat} (h : BsOk j N os b) (hix : ∀ c, c < sy → ix c < os.length) (hLE : j.LE.length = j.own.length) (hs : bStep j N sy most ix fs os b s = some b') : BsOk j N os b' := by
  unfold bStep at hs
  cases hq : nsF (bT j N ix (bR j N fs b s)) (fun c => outF j N os (ix c) (andB (bR j N fs b s) (ltF j.LE c))) most b.ks b.n b.ou sy with
  | none => rw [hq] at hs; cases hs
  | some q =>
    obtain ⟨k, n, o, l⟩ := q
    rw [hq] at hs
    simp only [Option.some.injEq] at hs
    subst hs
    have hk := nsF_ks hq
    subst hk
    refine ⟨?_, fun i hi hi2 => ?_, fun x hx => ?_, fun x hx q hq2 => ?_⟩
    · show (b.gs ++ (ncF (bT j N ix (bR j N fs b s)) b.ks sy).map (fun c => (ix c, andB (bR j N fs b s) (ltF j.LE c)))).length = _
      rw [List.length_append, List.length_append, List.length_map, List.length_map, h.len]
    · show (b.ks ++ (ncF (bT j N ix (bR j N fs b s)) b.ks sy).map (bT j N ix (bR j N fs b s)))[i] = leB ((b.gs ++ (ncF (bT j N ix (bR j N fs b s)) b.ks sy).map (fun c => (ix c, andB (bR j N fs b s) (ltF j.LE c))))[i]).1 4 ++ encW ((b.gs ++ (ncF (bT j N ix (bR j N fs b s)) b.ks sy).map (fun c => (ix c, andB (bR j N fs b s) (ltF j.LE c))))[i]).2 N
      by_cases hlt : i < b.ks.length
      · rw [List.getElem_append_left hlt]
        have hlt2 : i < b.gs.length := by rw [h.len]; exact hlt
        have e : (b.gs ++ (ncF (bT j N ix (bR j N fs b s)) b.ks sy).map (fun c => (ix c, andB (bR j N fs b s) (ltF j.LE c))))[i] = b.gs[i] := List.getElem_append_left hlt2
        rw [e]
        exact h.tx i hlt2 hlt
      · have e1 : (b.gs ++ (ncF (bT j N ix (bR j N fs b s)) b.ks sy).map (fun c => (ix c, andB (bR j N fs b s) (ltF j.LE c))))[i] = ((ncF (bT j N ix (bR j N fs b s)) b.ks sy).map (fun c => (ix c, andB (bR j N fs b s) (ltF j.LE c))))[i - b.gs.length]'(by
          have hi' : i < (b.gs ++ (ncF (bT j N ix (bR j N fs b s)) b.ks sy).map (fun c => (ix c, andB (bR j N fs b s) (ltF j.LE c)))).length := hi
          rw [List.length_append] at hi'; have := h.len; omega) := List.getElem_append_right (by rw [h.len]; omega)
        rw [List.getElem_append_right (by omega), e1]
        simp only [List.getElem_map, h.len]
        rfl
    · rcases List.mem_append.1 hx with hx | hx
      · exact h.ix x hx
      · obtain ⟨c, hc, rfl⟩ := List.mem_map.1 hx
        exact hix c (ncF_lt _ _ _ c hc)
    · rcases List.mem_append.1 hx with hx | hx
      · exact h.lt x hx q hq2
      · obtain ⟨c, hc, rfl⟩ := List.mem_map.1 hx
        have h3 : ltF j.LE c q = true := by
          have h4 : (andB (bR j N fs b s) (ltF j.LE c)) q = true := hq2
          unfold andB at h4
          rw [Bool.and_eq_true] at h4
          exact h4.2
        unfold ltF at h3
        have h5 := of_decide_eq_true h3
        by_cases hql : q < j.LE.length
        · rw [← hLE]; exact hql
        · rw [List.getD_eq_getElem?_getD, List.getElem?_eq_none (by omega)] at h5
          simp at h5
end Go.Proofs.YtleeedjpccooaaaDoor
namespace Go.Proofs.YtleeedjpccooaaaDoor
open Go.RowKit Go.Shelf
theorem endL_small (g : Nat → Bool) (own : List Nat) (n m : Nat) (h : ∀ q, g q = true → q < m) : (endL g own n).length ≤ m := by
  unfold endL
  have h1 := onceC_len ((plB g n).map fun q => own.getD q 0) []
  rw [List.length_map] at h1
  simp only [List.length_nil] at h1
  have h2 : (plB g n).length ≤ m := nodup_lt m _ (by unfold plB; exact List.Pairwise.filter _ List.nodup_range) (fun x hx => h x (plB_mem.1 hx).2)
  omega
section
variable {wB wJ : World} {B J sy lo N most outs GT cT NB GR cR : Nat} {A : Nat → Addr} {j : Jn} {vO vF vE vL vM vZ vP vC vS vA vOp : Value} {os : List (List UInt8 × List Nat)} {ix : Nat → Nat} {fs : Nat → Nat → Bool} {tf : Nat → List UInt8} {ps : Lob} {R : Nat → Bool} {ks : List (List UInt8)} {NX OU : List Value} {nx ou : List (List Nat)}
theorem BuI.congr {wB wJ W : World} {B J sy N most outs GT cT NB : Nat} {vOp vRe : Value} {tf tf' : Nat → List UInt8} {ps : Lob} {R : Nat → Bool} {sts ks : List (List UInt8)} {NX OU : List Value} {nx ou : List (List Nat)} (h : BuI wB wJ B J sy N most outs GT cT NB vOp vRe tf ps R sts ks NX OU nx ou W) (e : ∀ c, c < sy → tf c = tf' c) : BuI wB wJ B J sy N most outs GT cT NB vOp vRe tf' ps R sts ks NX OU nx ou W := ⟨h.bel, h.kes, h.bb, h.re, h.nb, h.lo', h.cr, h.sl, h.tx.1, h.tx.2.1, fun c hc => (h.tx.2.2 c hc).trans (e c (by rw [← h.tx.1]; exact hc))⟩
theorem reachB_any (hC : JoC wJ J sy lo N A j vO vF vE vL vM vZ vP vC vS vA) (hop : OpI wB wJ.heap.size vOp os) (hos : os.length ≤ 16384) (hok : JnOk j sy N) (hN : N ≤ 1000000) (hol : j.own.length ≤ 10000000) (hfl : j.FO.flatten.length ≤ 1000000000) (hfs : ∀ i (h : i < os.length), (os[i]).1 = encW (fs i) N ∧ ∀ q, fs i q = true → q < j.own.length) {b : Bs} (hb : BsOk j N os b) (V : World) (h : BuI wB wJ B J sy N most outs GT cT NB vOp (.slice (some ⟨GR, 0, none⟩) N cR) tf ps R ([] :: b.ks) b.ks NX OU nx ou V) {s : Nat} (hs : s < b.ks.length + 1) (hkl : b.ks.length ≤ 16384) :
    Calls Tryd.prog 55 #[.pointer (some ⟨B, 0, none⟩), .int .i64 (s : Int)] V fun e w' => (∃ v, e = .returned v) ∧ Hid (BuI wB wJ B J sy N most outs GT cT NB vOp (.slice (some ⟨GR, 0, none⟩) N cR) tf ps (bR j N fs b s) ([] :: b.ks) b.ks NX OU nx ou w') := by
  obtain ⟨vSt, vNx, vOu, h1, h2, h3, h4, h5⟩ := h.bb
  have hO' : ∀ {V' : World}, Only V V' (fun k => k = GR) → Only V V' (fun k => (Value.slice (some ⟨GR, 0, none⟩) N cR).ownBlock = some k) := fun q => q.mono (fun k hk => by rw [hk]; rfl)
  by_cases hs0 : s = 0
  · subst hs0
    obtain ⟨hj, _⟩ := hC V h.bel
    obtain ⟨aC, cC, eC⟩ := own_sl hj.c
    subst eC
    refine (reach0_any B J GR N cR wJ.heap.size lo most outs sy cC R j.cl aC vOp _ _ vSt vNx vOu vO vF vE vL vM vZ vP vS vA V h1 hj.b h.re hj.c).mono (fun e w' ⟨q1, q2, q3⟩ => ⟨q1, hid0 (h.reach (R' := bR j N fs b 0) ?_ (hO' q3))⟩)
    exact q2
  · have hlt : s - 1 < b.gs.length := by rw [hb.len]; omega
    have hlk : s - 1 < b.ks.length := by omega
    have etx := hb.tx (s - 1) hlt hlk
    have egd : b.gs.getD (s - 1) (0, fun _ => false) = b.gs[s - 1] := by rw [List.getD_eq_getElem?_getD, List.getElem?_eq_getElem hlt]; rfl
    have eR : bR j N fs b s = rcF j N (fs (b.gs[s - 1]).1) (b.gs[s - 1]).2 := by unfold bR; rw [if_neg hs0, egd]
    have hgi := hb.ix _ (List.getElem_mem hlt)
    have hgl := hb.lt _ (List.getElem_mem hlt)
    obtain ⟨o, ho⟩ : ∃ o, o = (b.gs[s - 1]).1 := ⟨_, rfl⟩
    obtain ⟨f, hf⟩ : ∃ f, f = (b.gs[s - 1]).2 := ⟨_, rfl⟩
    rw [← ho, ← hf] at etx eR
    rw [← ho] at hgi
    rw [← hf] at hgl
    have hnS : (([] :: b.ks).map stV).length = b.ks.length + 1 := by rw [List.length_map, List.length_cons]
    obtain ⟨GS, cS, eS, _, _, _⟩ := own_form h2 (by omega)
    obtain ⟨aP, cP, eP⟩ := own_sl (hC V h.bel).1.p
    subst eP
    obtain ⟨VS, o1, o2⟩ := (h.kes.op hop).own
    obtain ⟨q1, aE, cE, q2, q3⟩ := o2 o hgi
    obtain ⟨GO, cO, eO, _, _, _⟩ := own_form o1 (by omega)
    subst eO
    subst eS
    rw [(hfs o hgi).1] at q1
    rw [eR]
    refine (reach_any B J GR N cR wJ.heap.size sy most outs GS (([] :: b.ks).map stV).length cS s GO os.length cO o cE cP (os[o]).2.length aE aP R f (fs o) j.op j.FO (.slice (some ⟨GT, 0, none⟩) sy cT) (.map (some NB)) vNx vOu vO vF vE vL vM vZ vC vS vA V (fun V' hV' => ?_) h.re hN hok.fo' (fun q hq => by rw [hok.fo]; exact hgl q hq) (fun q hq => by rw [hok.fo]; exact (hfs o hgi).2 q hq) hfl (by rw [hok.fo]; omega) (by rw [hnS]; omega) (by omega) (by rw [hnS]; omega) hgi (by omega)).mono (fun e w' ⟨r1, r2, r3⟩ => ⟨r1, hid0 (h.reach r2 (hO' r3))⟩)
    have hk : KeB [105] V V' := KeB.row h.re (by simp) (hO' hV')
    have hbl : Below wJ.heap.size wJ V' := hV'.afterBelow h.bel h.bel.size (fun i hi => by rw [hi]; exact (World.ownsRow.lt h.re GR rfl).1)
    obtain ⟨g1, g2, _, g4, _⟩ := hC V' hbl
    have hbB : V'.heap[B]? = V.heap[B]? := by rw [hk.kp B _ h1.r (fun cs' t' f' e => by injection e with _ e2; rw [← e2]; decide), h1.r]
    have hst := hk.own h2 (by decide)
    have hoo := hk.own o1 (by decide)
    have hVl : VS.length = os.length * 2 := o1.1
    refine ⟨h1.kept hbB, g1.b, ?_, ?_, ?_, g4, g2, _, g1.p⟩
    · rw [World.ownsRow.cellAt hst s (by omega)]
      have e7 : ([] :: b.ks)[s]? = some (b.ks[s - 1]) := by
        obtain ⟨s', rfl⟩ : ∃ s', s = s' + 1 := ⟨s - 1, by omega⟩
        rw [List.getElem?_cons_succ, List.getElem?_eq_getElem (by omega)]
        rfl
      rw [List.getElem?_map, List.getElem?_map, e7, etx]
      rfl
    · rw [World.ownsRow.cellAt hoo (o * 2) (by omega)]; exact q1
    · rw [World.ownsRow.cellAt hoo (o * 2 + 1) (by omega)]; exact q2
theorem partB_any (hC : JoC wJ J sy lo N A j vO vF vE vL vM vZ vP vC vS vA) (hok : JnOk j sy N) (hN : N ≤ 1000000) (hol : j.own.length ≤ 64 * N) (hsy : sy ≤ 16384) (hlt : (LTs j.LE N).flatten.length ≤ 1000000000) {sts : List (List UInt8)} (V : World) (h : BuI wB wJ B J sy N most outs GT cT NB vOp (.slice (some ⟨GR, 0, none⟩) N cR) (fun c => leB (ix c) 4) ps R sts ks NX OU nx ou V) :
    Calls Tryd.prog 48 #[.pointer (some ⟨B, 0, none⟩), .slice (some ⟨GR, 0, none⟩) N cR] V fun e w' => (∃ v, e = .returned v) ∧ Hid (∃ ps', BuI wB wJ B J sy N most outs GT cT NB vOp (.slice (some ⟨GR, 0, none⟩) N cR) (bT j N ix R) ps' R sts ks NX OU nx ou w') := by
  obtain ⟨vSt, vNx, vOu, h1, h2, h3, h4, h5⟩ := h.bb
  by_cases hN0 : N = 0
  · subst hN0
    exact (part_none B GT cT cR sy wJ.heap.size (some ⟨GR, 0, none⟩) (ltF j.LE) R (fun c => leB (ix c) 4) ps V h.ptI).mono (fun _ _ ⟨q1, q2⟩ => ⟨q1, hid0 (h.part (q2.congr (fun c _ => rfl)))⟩)
  · refine (part_any B J GT cT GR cR N sy wJ.heap.size wJ.heap.size vL vM (LTs j.LE N) (ltF j.LE) R (fun c => leB (ix c) 4) ps V hN (by omega) h.bel.size (rowL_ok j.LE sy N hok.le' (by rw [hok.le]; exact hol)) hlt (by omega) (fun c _ => by rw [leB_len]; omega) (fun V' hV' => ?_) h.ptI).mono (fun _ _ ⟨q1, q2⟩ => ⟨q1, hid0 (h.part (q2.congr (fun c _ => rfl)))⟩)
    obtain ⟨hk, hb⟩ := h.ptK hV'
    have hbB : V'.heap[B]? = V.heap[B]? := by rw [hk.kp B _ h1.r (fun cs' t' f' e => by injection e with _ e2; rw [← e2]; decide), h1.r]
    have hbV := h1.kept hbB
    obtain ⟨g1, _, _, _, g5⟩ := hC V' hb
    exact ⟨hbV.c.1, hbV.c.2.2.2.1, g1.b.c.2.2.2.2.1, g1.b.c.2.2.2.2.2.1, g5, hk.own h.re (by decide)⟩
end
end Go.Proofs.YtleeedjpccooaaaDoor
namespace Go.Proofs.YtleeedjpccooaaaDoor
open Go.RowKit Go.Shelf
/-- The openings, the number of a symbol's, the places of each. -/
def bOs (j : Jn) (N sy : Nat) : List (List UInt8 × List Nat) := (csF (opF j N) sy).map fun c => (opF j N c, opE j N c)
def bIx (j : Jn) (N sy : Nat) : Nat → Nat := ixF (opF j N) sy
def bFs (j : Jn) (N sy : Nat) : Nat → Nat → Bool := fun i => andB j.op (ltF j.LE ((csF (opF j N) sy).getD i 0))
/-- The machine of joined patterns, of so many states at most. -/
def bAll (j : Jn) (N sy most : Nat) : Option Bs := bRun j N sy most (bIx j N sy) (bFs j N sy) (bOs j N sy) most
theorem bOs_ok {j : Jn} {N sy : Nat} (hok : JnOk j sy N) (hol : j.own.length ≤ 10000000) : (bOs j N sy).length ≤ sy ∧ (∀ c, c < sy → bIx j N sy c < (bOs j N sy).length) ∧ (∀ x ∈ bOs j N sy, x.2.length ≤ 10000000) ∧ ∀ i (h : i < (bOs j N sy).length), ((bOs j N sy)[i]).1 = encW (bFs j N sy i) N ∧ ∀ q, bFs j N sy i q = true → q < j.own.length := by
  have hl : (bOs j N sy).length = (csF (opF j N) sy).length := by unfold bOs; rw [List.length_map]
  refine ⟨by rw [hl]; exact csF_len _ _, fun c hc => by rw [hl]; exact ixF_lt _ hc, fun x hx => ?_, fun i hi => ⟨?_, fun q hq => ?_⟩⟩
  · obtain ⟨c, _, rfl⟩ := List.mem_map.1 hx
    refine Nat.le_trans (endL_small _ _ _ j.own.length (fun q hq => ?_)) hol
    rw [Bool.and_eq_true] at hq
    exact hok.la' q hq.2
  · have hi2 : i < (csF (opF j N) sy).length := by rw [← hl]; exact hi
    have e : (bOs j N sy)[i]? = some (opF j N (csF (opF j N) sy)[i], opE j N (csF (opF j N) sy)[i]) := by unfold bOs; rw [List.getElem?_map, List.getElem?_eq_getElem hi2]; rfl
    rw [(List.getElem?_eq_some_iff.1 e).2]
    unfold bFs
    rw [List.getD_eq_getElem?_getD, List.getElem?_eq_getElem hi2]
    rfl
  · unfold bFs andB at hq
    rw [Bool.and_eq_true] at hq
    exact hok.op' q hq.1
/-- What build leaves. -/
def BdP (wJ : World) (A : Nat → Addr) (res : Option Bs) (e : Ending) (w' : World) : Prop :=
  match res with
  | none => e = .returned (.tuple #[.agg #[.int .i64 0, .slice none 0 0, .slice none 0 0], .iface 157 (.pointer (some (A 2)))]) ∧ Below wJ.heap.size wJ w'
  | some b => ∃ vNx vOu NX OU, e = .returned (.tuple #[.agg #[.int .i64 0, vNx, vOu], .nilIface]) ∧ Below wJ.heap.size wJ w' ∧ RwsM w' wJ.heap.size vNx NX b.nx ∧ RwsM w' wJ.heap.size vOu OU b.ou ∧ (NX ++ OU).Pairwise Apt ∧ Apt vNx vOu
/-- From state to state. -/
structure BlI (wB wJ : World) (B J sy N most GT cT NB GR cR : Nat) (j : Jn) (vOp : Value) (ix : Nat → Nat) (fs : Nat → Nat → Bool) (os : List (List UInt8 × List Nat)) (s : Nat) (b : Bs) (NX OU : List Value) (ps : Lob) (R : Nat → Bool) (W : World) : Prop where
  run : bRun j N sy most ix fs os s = some b
  bu : BuI wB wJ B J sy N most b.n GT cT NB vOp (.slice (some ⟨GR, 0, none⟩) N cR) (fun c => leB (ix c) 4) ps R ([] :: b.ks) b.ks NX OU b.nx b.ou W
  ok : BsOk j N os b
  b1 : b.ks.length + 1 ≤ most
  b2 : b.n ≤ 4194304
  b3 : s ≤ b.ks.length + 1
  b4 : b.nx.length = s
theorem take4 (ix : Nat → Nat) (j : Jn) (N : Nat) (R : Nat → Bool) (c : Nat) : (bT j N ix R c).take 4 = leB (ix c) 4 := by
  unfold bT
  exact List.take_left' (leB_len 4 (ix c))
set_option maxRecDepth 10000 in
set_option maxHeartbeats 6400000 in
theorem build_any (wJ w : World) (B J sy lo N most GT NB KB : Nat) (A : Nat → Addr) (j : Jn) (vO vF vE vL vM vZ vP vC vS vA : Value) (ps : Lob) (hC : JoC wJ J sy lo N A j vO vF vE vL vM vZ vP vC vS vA) (hnb : NbI wJ B J sy N most GT sy NB KB (opF j N) (opE j N) (csF (opF j N) sy) (csF (opF j N) sy) (txN (opF j N) sy) ps w) (hok : JnOk j sy N) (hN : N ≤ 1000000) (hsy : sy ≤ 16384) (hol : j.own.length ≤ 10000000) (hol2 : j.own.length ≤ 64 * N) (hfl : j.FO.flatten.length ≤ 1000000000) (hlt : (LTs j.LE N).flatten.length ≤ 1000000000) (hal : j.alw.length ≤ 10000000) (ha0 : j.at0.length ≤ 10000000) (hm1 : 1 ≤ most) (hmo : most ≤ 16384) :
    Calls Tryd.prog 29 #[.pointer (some ⟨B, 0, none⟩)] w fun e w' => BdP wJ A (bAll j N sy most) e w' := by
  obtain ⟨i0, hi, hz⟩ := Option.map_eq_some_iff.1 infoIntsM
  simp only [Prod.mk.injEq] at hz
  obtain ⟨hz0, hz1, hz2⟩ := hz
  obtain ⟨os1, os2, os3, os4⟩ := bOs_ok (N := N) hok hol
  obtain ⟨os, hos⟩ : ∃ os, os = bOs j N sy := ⟨_, rfl⟩
  obtain ⟨ix, hix⟩ : ∃ ix, ix = bIx j N sy := ⟨_, rfl⟩
  obtain ⟨fs, hfs⟩ : ∃ fs, fs = bFs j N sy := ⟨_, rfl⟩
  have hres : bAll j N sy most = bRun j N sy most ix fs os most := by rw [hos, hix, hfs]; rfl
  rw [hres]
  rw [← hos] at os1 os2 os3 os4
  rw [← hix] at os2
  rw [← hfs] at os4
  obtain ⟨vOp, vRe, n1, n2, n3, GR, cR, eR⟩ := hnb.bb
  subst eR
  obtain ⟨RC, hRC⟩ : ∃ RC, RC = w.heap.size := ⟨_, rfl⟩
  obtain ⟨w0, hw0⟩ : ∃ w0, w0 = w.alloc (.cells #[.int .i64 0, .slice none 0 0, .slice none 0 0] 28) := ⟨_, rfl⟩
  have hb0 : Below w.heap.size w w0 := by rw [hw0]; exact (Below.refl _ _).alloc (Nat.le_refl _) _
  have hrc : w0.heap[RC]? = some (.cells #[.int .i64 0, .slice none 0 0, .slice none 0 0] 28 (0, 0)) := by rw [hw0, hRC]; exact heap_alloc_new w _
  have hn0 := hnb.new hb0
  have hop : OpI w0 wJ.heap.size vOp os := by
    have hk : KeB [] w w0 := KeB.below _ hb0
    rw [hos]
    exact n2.keep hk (by simp) (by simp)
  have hB0 : BuI w0 wJ B J sy N most 0 GT sy NB vOp (.slice (some ⟨GR, 0, none⟩) N cR) (fun c => leB (ix c) 4) ps (fun _ => false) [] [] [] [] [] [] w0 := by
    have hk : KeB [] w w0 := KeB.below _ hb0
    refine ⟨hn0.bel, KeS.refl _, ⟨_, _, _, n1.past hb0, World.ownsRow_nil _ _ _ _, RwsM.nil _ _, RwsM.nil _ _, fun k hk => by cases hk⟩, hk.own n3 (by simp), hn0.nb, ⟨hn0.lo'.1, hn0.lo'.2.2⟩, List.Pairwise.nil, rfl, hn0.tx.1, hn0.tx.2.1, fun c hc => ?_⟩
    rw [hn0.tx.2.2 c hc, hix]
    unfold txN bIx
    rw [if_pos (by rw [← hn0.tx.1]; exact hc)]
  have HRe : Hid (∀ {b : Bs} {n : Nat} {ps : Lob} {R : Nat → Bool} {NX OU : List Value} {nx ou : List (List Nat)} {s : Nat}, BsOk j N os b → s < b.ks.length + 1 → b.ks.length ≤ 16384 → ∀ V : World, BuI w0 wJ B J sy N most n GT sy NB vOp (.slice (some ⟨GR, 0, none⟩) N cR) (fun c => leB (ix c) 4) ps R ([] :: b.ks) b.ks NX OU nx ou V → Calls Tryd.prog 55 #[.pointer (some ⟨B, 0, none⟩), .int .i64 (s : Int)] V fun e w' => (∃ v, e = .returned v) ∧ Hid (BuI w0 wJ B J sy N most n GT sy NB vOp (.slice (some ⟨GR, 0, none⟩) N cR) (fun c => leB (ix c) 4) ps (bR j N fs b s) ([] :: b.ks) b.ks NX OU nx ou w')) := hid0 (fun q1 q2 q3 V q4 => reachB_any hC hop (by omega) hok hN hol hfl os4 q1 V q4 q2 q3)
  have HPa : Hid (∀ {n : Nat} {ps : Lob} {R : Nat → Bool} {sts ks : List (List UInt8)} {NX OU : List Value} {nx ou : List (List Nat)} (V : World), BuI w0 wJ B J sy N most n GT sy NB vOp (.slice (some ⟨GR, 0, none⟩) N cR) (fun c => leB (ix c) 4) ps R sts ks NX OU nx ou V → Calls Tryd.prog 48 #[.pointer (some ⟨B, 0, none⟩), .slice (some ⟨GR, 0, none⟩) N cR] V fun e w' => (∃ v, e = .returned v) ∧ Hid (∃ ps', BuI w0 wJ B J sy N most n GT sy NB vOp (.slice (some ⟨GR, 0, none⟩) N cR) (bT j N ix R) ps' R sts ks NX OU nx ou w')) := hid0 (fun V q => partB_any hC hok hN hol2 hsy hlt V q)
  have HNs : Hid (∀ (b : Bs) (ps : Lob) (R : Nat → Bool) (NX OU : List Value) (V : World), BuI w0 wJ B J sy N most b.n GT sy NB vOp (.slice (some ⟨GR, 0, none⟩) N cR) (bT j N ix R) ps R ([] :: b.ks) b.ks NX OU b.nx b.ou V → b.ks.length + 1 ≤ most → b.n ≤ 4194304 → Calls Tryd.prog 56 #[.pointer (some ⟨B, 0, none⟩)] V fun e w' => NsP w0 wJ B J sy N most GT sy NB A vOp (.slice (some ⟨GR, 0, none⟩) N cR) (bT j N ix R) R [] NX b.nx (nsF (bT j N ix R) (fun c => outF j N os (ix c) (andB R (ltF j.LE c))) most b.ks b.n b.ou sy) e w') := hid0 (fun b ps R NX OU V q1 q2 q3 => nextStates_any w0 wJ V B J sy lo N most b.n GT sy NB A j vO vF vE vL vM vZ vP vC vS vA vOp _ os (bT j N ix R) ix (fun c => andB R (ltF j.LE c)) R [] b.ks NX OU b.nx b.ou ps hC hop hN hsy hok.la' (by omega) hal (by omega) os3 (fun c hc => ⟨os2 c hc, rfl⟩) q1 q2 q3 hmo hn0.bel.size)
  -- the answer's own block
  have HRc : Hid (∀ V : World, KeS w0 V → V.heap[RC]? = some (.cells #[.int .i64 0, .slice none 0 0, .slice none 0 0] 28 (0, 0))) := hid0 (fun V hV => (hV.kp RC _ _ _ hrc (.inr (.inr rfl))).trans hrc)
  have HFin : Hid (∀ (V : World) (x y z : Value), KeS w0 V → Below wJ.heap.size wJ V → ∀ V', V' = (((V.setCell ⟨RC, 0, none⟩ x).setCell ⟨RC, 1, none⟩ y).setCell ⟨RC, 2, none⟩ z) → V'.cell? ⟨RC, 0, none⟩ = some x ∧ V'.cell? ⟨RC, 1, none⟩ = some y ∧ V'.cell? ⟨RC, 2, none⟩ = some z ∧ Below wJ.heap.size wJ V') := hid0 (fun V x y z hV hb V' e => by
    have hq := heap_setCell_same _ _ 2 _ _ z (heap_setCell_same _ _ 1 _ _ y (heap_setCell_same V _ 0 _ _ x (HRc.out V hV)))
    have hRJ : wJ.heap.size ≤ RC := by rw [hRC]; exact hnb.bel.size
    subst e
    refine ⟨by rw [cell_of_row _ _ _ _ _ _ hq]; rfl, by rw [cell_of_row _ _ _ _ _ _ hq]; rfl, by rw [cell_of_row _ _ _ _ _ _ hq]; rfl, ?_⟩
    exact (((hb.setCell (p := ⟨RC, 0, none⟩) hRJ _).setCell (p := ⟨RC, 1, none⟩) hRJ _).setCell (p := ⟨RC, 2, none⟩) hRJ _))
  have HRf : Hid (∀ V : World, KeS w0 V → V.cell? ⟨RC, 0, none⟩ = some (.int .i64 0) ∧ V.cell? ⟨RC, 1, none⟩ = some (.slice none 0 0) ∧ V.cell? ⟨RC, 2, none⟩ = some (.slice none 0 0) ∧ V.frozen? ⟨RC, 0, none⟩ = false ∧ V.frozen? ⟨RC, 1, none⟩ = false ∧ V.frozen? ⟨RC, 2, none⟩ = false) := hid0 (fun V hV => by
    have hq := HRc.out V hV
    refine ⟨by rw [cell_of_row _ _ _ _ _ _ hq]; rfl, by rw [cell_of_row _ _ _ _ _ _ hq]; rfl, by rw [cell_of_row _ _ _ _ _ _ hq]; rfl, by simp [World.frozen?, hq], by simp [World.frozen?, hq], by simp [World.frozen?, hq]⟩)
  obtain ⟨hj0, _, hsen, _⟩ := hC w0 hn0.bel
  obtain ⟨aS, cS, eS, hIS, hS1, hS2⟩ := OwnI.sl hj0.s
  obtain ⟨n0, hn0e⟩ : ∃ n0, n0 = j.at0.length := ⟨_, rfl⟩
  rw [← hn0e] at eS hS1
  have d0 : w0.cell? ⟨B, 0, none⟩ = some (.pointer (some ⟨J, 0, none⟩)) := (n1.past hb0).c.1
  have d9 : w0.cell? ⟨J, 9, none⟩ = some (.slice aS n0 cS) := by rw [← eS]; exact hj0.b.c.2.2.2.2.2.2.2.2.2.1
  have HMe : Hid (Calls Tryd.prog 54 #[.slice aS n0 cS, .slice none 0 0] w0 fun e w' => ∃ ao co, e = .returned (.slice ao n0 co) ∧ Hid (OwnI w' w0.heap.size (.slice ao n0 co) (nI j.at0) ∧ Below w0.heap.size w0 w')) := hid0 (by
    have h := merged_any j.at0 [] aS none cS 0 w0 hIS (ia_nil _ _) (by rw [← hn0e]; exact hS1) (Nat.le_refl _) hS2 (fun _ => rfl) (by omega) (by simp)
    rw [mrg_nil, ← hn0e] at h
    refine h.mono (fun e w' ⟨v, q1, q2, q3⟩ => ?_)
    obtain ⟨ao, co, e4⟩ := own_sl q2
    rw [nI_len, ← hn0e] at e4
    subst e4
    exact ⟨ao, co, q1, hid0 ⟨q2, q3⟩⟩)
  have hn0b : n0 ≤ 10000000 := by omega
  have HSen : Hid (∀ V : World, Below wJ.heap.size wJ V → Sen2 V A) := hid0 (fun V hV => (hC V hV).2.2.1)
  have HB0 := hid0 hB0
  have HJo : Hid (JnOk j sy N) := hid0 hok
  have HIx := hid0 os2
  have HN0 := hid0 hn0e
  have hfold := hw0.symm
  have hRC2 := hRC.symm
  clear hC hop hnb hok hol hol2 hfl hlt hal ha0 os1 os2 os3 os4 n1 n2 n3 hrc hn0 hB0 hw0 hRC hj0 hIS eS hos hix hfs hres hn0e hb0 hsen
  by_cases hf : 4194304 < n0
  · have HAd : Hid (∀ (w1 : World) (ao : Option Addr) (co : Nat), Below w0.heap.size w0 w1 → Calls Tryd.prog 53 #[.pointer (some ⟨B, 0, none⟩), .string ⟨#[]⟩, .slice ao n0 co] w1 fun e w' => e = .returned (.iface 157 (.pointer (some (A 2)))) ∧ Hid (KeS w0 w' ∧ Below wJ.heap.size wJ w')) := hid0 (fun w1 ao co q => by
      have h1 := HB0.out.keB q
      obtain ⟨vSt4, vNx4, vOu4, t1, t2, t3, _⟩ := h1.add
      refine (addState_any B J wJ.heap.size most 0 n0 co A vOp _ _ _ vSt4 vNx4 vOu4 [] [] ⟨#[]⟩ ao w1 t1 t2 t3 h1.bel.size (HSen.out w1 h1.bel) (by simp) (by simp) hmo (by omega) (by omega)).mono (fun e w' ⟨z1, _⟩ => ?_)
      obtain ⟨r1, r2⟩ := z1 (.inr (by omega))
      have hkk : KeB [97] w1 w' := KeB.only r2 (fun q hq _ => by rw [hq]; exact ⟨_, _, _, t1.r, by simp⟩)
      exact ⟨r1, hid0 ⟨h1.kes.keB hkk (by decide) (by decide), r2.afterBelow h1.bel h1.bel.size (fun i hi => by rw [hi]; exact h1.lo'.1)⟩⟩)
    have HRes : Hid (bRun j N sy most ix fs os most = none) := hid0 (by
      have e1 : bRun j N sy most ix fs os 0 = none := by rw [bRun, if_pos (.inr (by rw [← HN0.out]; exact hf))]
      have e2 := bRun_none e1 most
      rw [Nat.zero_add] at e2
      exact e2)
    go_enter Tryd.func29, Tryd.ntmps29
    go_upto_region 3 with (first
      | (go_at_call 54; go_loud ((refine HMe.out.mono ?_; rintro e w1 ⟨ao, co, rfl, HE1⟩)))
      | (go_at_call 53; go_loud ((refine (HAd.out w1 ao co HE1.out.2).mono ?_; rintro e w2 ⟨rfl, HP⟩))))
    obtain ⟨c0, c1, c2, f0, f1, f2⟩ := HRf.out w2 HP.out.1
    go_wp2
    obtain ⟨V', hV'⟩ : ∃ V', V' = (((w2.setCell ⟨RC, 0, none⟩ (.int .i64 0)).setCell ⟨RC, 1, none⟩ (.slice none 0 0)).setCell ⟨RC, 2, none⟩ (.slice none 0 0)) := ⟨_, rfl⟩
    rw [← hV']
    obtain ⟨q0, q1, q2, hB⟩ := HFin.out w2 _ _ _ HP.out.1 HP.out.2 V' hV'
    have HBf := hid0 hB
    clear hV' hB c0 c1 c2 f0 f1 f2
    refine bodyPost_ret (v := .tuple #[.agg #[.int .i64 0, .slice none 0 0, .slice none 0 0], .iface 157 (.pointer (some (A 2)))]) (by simp [results, Tryd.results29, go_sem, q0, q1, q2]) rfl ?_
    rw [HRes.out]
    exact ⟨rfl, HBf.out⟩
  · have HAd : Hid (∀ (w1 : World) (ao : Option Addr) (co : Nat), OwnI w1 w0.heap.size (.slice ao n0 co) (nI j.at0) → Below w0.heap.size w0 w1 → Calls Tryd.prog 53 #[.pointer (some ⟨B, 0, none⟩), .string ⟨#[]⟩, .slice ao n0 co] w1 fun e w' => e = .returned .nilIface ∧ Hid (∃ b OU, BlI w0 wJ B J sy N most GT sy NB GR cR j vOp ix fs os 0 b [] OU ps (fun _ => false) w')) := hid0 (fun w1 ao co q1 q => by
      have h1 := HB0.out.keB q
      obtain ⟨vSt4, vNx4, vOu4, t1, t2, t3, t5⟩ := h1.add
      refine (addState_any B J wJ.heap.size most 0 n0 co A vOp _ _ _ vSt4 vNx4 vOu4 [] [] ⟨#[]⟩ ao w1 t1 t2 t3 h1.bel.size (HSen.out w1 h1.bel) (by simp) (by simp) hmo (by omega) (by omega)).mono (fun e w' ⟨_, z2⟩ => ?_)
      obtain ⟨r1, vSt', vOu', r2, r3, r4, r5, _, r6⟩ := z2 (by rintro (h | h); (simp at h; omega); omega)
      have h5 := t5 w' [] (.slice ao n0 co) j.at0 (0 + n0) vSt' vOu' (q1.lower HB0.out.bel.size) (fun y hy => by simp at hy) r2 r3 r4 r5 r6
      refine ⟨r1, hid0 ⟨⟨[], [], j.at0.length, [j.at0], []⟩, [.slice ao n0 co], ?_, ?_, ⟨rfl, fun i hi => absurd hi (Nat.not_lt_zero _), fun x hx => by simp at hx, fun x hx => by simp at hx⟩, by simpa using hm1, ?_, by simp, rfl⟩⟩
      · rw [bRun, if_neg (by rw [← HN0.out]; omega)]
      · rw [Nat.zero_add, HN0.out] at h5
        rw [HN0.out]
        exact h5
      · show j.at0.length ≤ 4194304
        rw [← HN0.out]; omega)
    go_enter Tryd.func29, Tryd.ntmps29
    go_wp2_with (first
      | (go_at_call 54; go_loud ((refine HMe.out.mono ?_; rintro e w1 ⟨ao, co, rfl, HE1⟩)))
      | (go_at_call 53; go_loud ((refine (HAd.out w1 ao co HE1.out.1 HE1.out.2).mono ?_; rintro e w2 ⟨rfl, HP⟩))))
    clear d0 d9 hfold HAd HMe
    go_loopw [5] (fun q wr => ∃ (s : Nat) (b : Bs) (NX OU : List Value) (ps : Lob) (R : Nat → Bool), q = .int .i64 (s : Int) ∧ Hid (BlI w0 wJ B J sy N most GT sy NB GR cR j vOp ix fs os s b NX OU ps R wr)) (fun q _ => most - (intOf q).toNat)
    case atStart =>
      obtain ⟨b, OU, h⟩ := HP.out
      exact ⟨0, b, [], OU, ps, _, rfl, hid0 h⟩
    case round =>
      clear HP HE1
      obtain ⟨s, b, NX, OU, ps, R, rfl, HK⟩ := hrel
      obtain ⟨V, hV⟩ : ∃ V, V = wr := ⟨_, rfl⟩
      subst hV
      obtain ⟨nst, hnst⟩ : ∃ nst, nst = b.ks.length + 1 := ⟨_, rfl⟩
      have hsl : nst ≤ most := by rw [hnst]; exact HK.out.b1
      have hs3 : s ≤ nst := by rw [hnst]; exact HK.out.b3
      obtain ⟨aSt, cSt, dS⟩ : ∃ a c, V.cell? ⟨B, 5, none⟩ = some (.slice a nst c) := by
        obtain ⟨vSt, vNx, vOu, h1, h2, _⟩ := HK.out.bu.bb
        obtain ⟨a, c, e⟩ := own_sl h2
        rw [List.length_map, List.length_cons, ← hnst] at e
        exact ⟨a, c, by rw [← e]; exact h1.c.2.2.2.2.2.1⟩
      have HNst := hid0 hnst
      by_cases hs : s < nst
      · have hsI : (s : Int) < (nst : Int) := by omega
        obtain ⟨R1, hR1⟩ : ∃ R1, R1 = bR j N fs b s := ⟨_, rfl⟩
        have HC1 := hid0 (HRe.out HK.out.ok (by rw [← HNst.out]; exact hs) (by have := HNst.out; omega) V HK.out.bu)
        rw [← hR1] at HC1
        have HC2 : Hid (∀ (V1 : World), BuI w0 wJ B J sy N most b.n GT sy NB vOp (.slice (some ⟨GR, 0, none⟩) N cR) (fun c => leB (ix c) 4) ps R1 ([] :: b.ks) b.ks NX OU b.nx b.ou V1 → V1.cell? ⟨B, 2, none⟩ = some (.slice (some ⟨GR, 0, none⟩) N cR)) := hid0 (fun V1 h => by
          obtain ⟨vSt, vNx, vOu, h1, _⟩ := h.bb
          exact h1.c.2.2.1)
        have hmr : s < b.ks.length + 1 := by rw [← HNst.out]; exact hs
        cases hq : nsF (bT j N ix R1) (fun c => outF j N os (ix c) (andB R1 (ltF j.LE c))) most b.ks b.n b.ou sy with
        | none =>
          have HRes : Hid (bRun j N sy most ix fs os most = none) := hid0 (by
            have e1 : bRun j N sy most ix fs os (s + 1) = none := by
              rw [bRun_more HK.out.run hmr]
              unfold bStep
              rw [← hR1, hq]
            have e2 := bRun_none e1 (most - (s + 1))
            rw [show s + 1 + (most - (s + 1)) = most by omega] at e2
            exact e2)
          have HC3 : Hid (∀ (V2 : World) (ps2 : Lob), BuI w0 wJ B J sy N most b.n GT sy NB vOp (.slice (some ⟨GR, 0, none⟩) N cR) (bT j N ix R1) ps2 R1 ([] :: b.ks) b.ks NX OU b.nx b.ou V2 → Calls Tryd.prog 56 #[.pointer (some ⟨B, 0, none⟩)] V2 fun e w' => e = .returned (.tuple #[.slice none 0 0, .iface 157 (.pointer (some (A 2)))]) ∧ Hid (KeS w0 w' ∧ Below wJ.heap.size wJ w')) := hid0 (fun V2 ps2 h => by
            refine (HNs.out b ps2 R1 NX OU V2 h HK.out.b1 HK.out.b2).mono (fun e w' hn => ?_)
            rw [hq] at hn
            exact ⟨hn.1, hid0 ⟨hn.2.2, hn.2.1⟩⟩)
          clear hR1 hq HK hnst hmr
          go_upto_region 11 with (first
            | (go_at_call 55; go_loud ((refine HC1.out.mono ?_; rintro e V1 ⟨⟨v1, rfl⟩, H1⟩; have d2 := HC2.out V1 H1.out; clear dS)))
            | (go_at_call 48; go_loud ((refine (HPa.out V1 H1.out).mono ?_; rintro e V2 ⟨⟨v2, rfl⟩, H2⟩)))
            | (go_at_call 56; go_loud ((refine (H2.out.elim (fun ps2 h2 => HC3.out V2 ps2 h2)).mono ?_; rintro e V3 ⟨rfl, H3⟩))))
          obtain ⟨c0, c1, c2, f0, f1, f2⟩ := HRf.out V3 H3.out.1
          go_wp2
          obtain ⟨V', hV'⟩ : ∃ V', V' = (((V3.setCell ⟨RC, 0, none⟩ (.int .i64 0)).setCell ⟨RC, 1, none⟩ (.slice none 0 0)).setCell ⟨RC, 2, none⟩ (.slice none 0 0)) := ⟨_, rfl⟩
          rw [← hV']
          obtain ⟨q0, q1, q2, hB⟩ := HFin.out V3 _ _ _ H3.out.1 H3.out.2 V' hV'
          have HBf := hid0 hB
          clear hV' hB c0 c1 c2 f0 f1 f2
          refine bodyPost_ret (v := .tuple #[.agg #[.int .i64 0, .slice none 0 0, .slice none 0 0], .iface 157 (.pointer (some (A 2)))]) (by simp [results, Tryd.results29, go_sem, q0, q1, q2]) rfl ?_
          rw [HRes.out]
          exact ⟨rfl, HBf.out⟩
        | some q =>
          obtain ⟨k', n', o', l'⟩ := q
          have hbs : bStep j N sy most ix fs os b s = some ⟨k', b.gs ++ (ncF (bT j N ix R1) b.ks sy).map (fun c => (ix c, andB R1 (ltF j.LE c))), n', o', b.nx ++ [l']⟩ := by
            unfold bStep
            rw [← hR1, hq]
          have HC3 : Hid (∀ (V2 : World) (ps2 : Lob), BuI w0 wJ B J sy N most b.n GT sy NB vOp (.slice (some ⟨GR, 0, none⟩) N cR) (bT j N ix R1) ps2 R1 ([] :: b.ks) b.ks NX OU b.nx b.ou V2 → Calls Tryd.prog 56 #[.pointer (some ⟨B, 0, none⟩)] V2 fun e w' => ∃ av cv aN cN, e = .returned (.tuple #[.slice av sy cv, .nilIface]) ∧ w'.cell? ⟨B, 9, none⟩ = some (.slice aN NX.length cN) ∧ Hid (w'.ownsRow wJ.heap.size 34 1 (.slice aN NX.length cN) NX.length NX) ∧ Hid (wJ.heap.size ≤ w'.heap.size ∧ NX.length ≤ 16384) ∧ Hid (∀ (v1 : Value) (w1 : World), ApG 34 w' w1 wJ.heap.size (.slice aN NX.length cN) v1 (NX ++ [.slice av sy cv]) → (w1.cell? ⟨B, 9, none⟩ = some (.slice aN NX.length cN) ∧ w1.frozen? ⟨B, 9, none⟩ = false) ∧ ∃ b' NX' OU' ps', BlI w0 wJ B J sy N most GT sy NB GR cR j vOp ix fs os (s + 1) b' NX' OU' ps' R1 (w1.setCell ⟨B, 9, none⟩ v1))) := hid0 (fun V2 ps2 h => by
            refine (HNs.out b ps2 R1 NX OU V2 h HK.out.b1 HK.out.b2).mono (fun e w' hn => ?_)
            rw [hq] at hn
            obtain ⟨v, OU', ps', r1, r2, r3, r4, r5, r6, r7⟩ := hn
            obtain ⟨av, cv, ev⟩ := own_sl r3
            rw [nI_len, r7] at ev
            subst ev
            have r2' := r2.congr (tf' := fun c => leB (ix c) 4) (fun c _ => take4 ix j N R1 c)
            obtain ⟨aN, cN, g1, g2, g3⟩ := r2'.next
            have hNl : NX.length ≤ 16384 := by
              obtain ⟨_, _, _, _, _, z1, _⟩ := HK.out.bu.bb
              have q1 := z1.len
              have q2 := HK.out.b4
              omega
            refine ⟨av, cv, aN, cN, r1, g1, hid0 g2, hid0 ⟨r2.bel.size, hNl⟩, hid0 (fun v1 w1 hg => ?_)⟩
            obtain ⟨g4, g5⟩ := g3 (.slice av sy cv) l' v1 w1 r3 r4 hg
            refine ⟨g4, ⟨k', b.gs ++ (ncF (bT j N ix R1) b.ks sy).map (fun c => (ix c, andB R1 (ltF j.LE c))), n', o', b.nx ++ [l']⟩, _, _, _, ?_, g5, HK.out.ok.step HIx.out HJo.out.le hbs, r5, r6, ?_, by rw [List.length_append, HK.out.b4]; rfl⟩
            · rw [bRun_more HK.out.run hmr]; exact hbs
            · have q := nsF_ks hq
              show s + 1 ≤ k'.length + 1
              rw [q, List.length_append]
              omega)
          clear hR1 hq HK hnst hmr hbs
          go_wp2_with (first
            | (go_at_call 55; go_loud ((refine HC1.out.mono ?_; rintro e V1 ⟨⟨v1, rfl⟩, H1⟩; have d2 := HC2.out V1 H1.out; clear dS)))
            | (go_at_call 48; go_loud ((refine (HPa.out V1 H1.out).mono ?_; rintro e V2 ⟨⟨v2, rfl⟩, H2⟩)))
            | (go_at_call 56; go_loud ((refine (H2.out.elim (fun ps2 h2 => HC3.out V2 ps2 h2)).mono ?_; rintro e V3 ⟨av, cv, aN, cN, rfl, dN, HOw, HLb, HNx⟩; have hlb := HLb.out.1; have hnl := HLb.out.2)))
            | (at_builtin; go_loud ((refine wpList_append_own_at _ rfl _ _ 26 rfl wJ.heap.size 34 i0 (.slice none 0 0) 1 24 Tryd.underlying26 hi hz0 hz1 hz2 rfl (by decide) (.slice aN NX.length cN) NX.length NX rfl (World.ownsRow.alloc HOw.out _) ⟨V3.heap.size, 0, none⟩ 1 1 [.slice av sy cv] rfl rfl (cell_one_new _ _ _) (by simp [Value.oneCell']) (by unfold maxLen; omega) (by omega) (by simp; omega) ?_; intro v4 w4 h1 h2 _ h4; obtain ⟨a4, c4, rfl⟩ := own_sl h1; have Rr := hid0 (HNx.out _ w4 (apG_one h1 h2 h4)); clear h1 h2 h4; have d9 := Rr.out.1.1; have f9 := Rr.out.1.2))))
          obtain ⟨b', NX', OU', ps', h6⟩ := Rr.out.2
          have HR := hid0 h6
          clear h6
          go_roundw
          case rel => exact ⟨s + 1, b', NX', OU', ps', R1, by go_num, HR⟩
          case measure => simp [intOf]; omega
      · obtain rfl : s = nst := by omega
        have HRes : Hid (bRun j N sy most ix fs os most = some b) := hid0 (by
          have e2 := bRun_done HK.out.run (by rw [← HNst.out]; exact Nat.le_refl _) (most - s)
          rw [show s + (most - s) = most by omega] at e2
          exact e2)
        obtain ⟨vSt, vNx, vOu, h1, h2, h3, h4, h5⟩ := HK.out.bu.bb
        obtain ⟨a9, c9, e9⟩ := own_sl h3.outer
        obtain ⟨a10, c10, e10⟩ := own_sl h4.outer
        subst e9
        subst e10
        have d8 : V.cell? ⟨B, 8, none⟩ = some (.int .i64 0) := h1.c.2.2.2.2.2.2.2.2.1
        have d9 : V.cell? ⟨B, 9, none⟩ = some (.slice a9 NX.length c9) := h1.c.2.2.2.2.2.2.2.2.2.1
        have d10 : V.cell? ⟨B, 10, none⟩ = some (.slice a10 OU.length c10) := h1.c.2.2.2.2.2.2.2.2.2.2
        obtain ⟨c0, c1, c2, f0, f1, f2⟩ := HRf.out V HK.out.bu.kes
        have HRw := hid0 (And.intro h3 (And.intro h4 (And.intro HK.out.bu.cr h5)))
        have HKe := hid0 (And.intro HK.out.bu.kes HK.out.bu.bel)
        clear h1 h2 h3 h4 h5 HK hnst
        go_wp2
        obtain ⟨V', hV'⟩ : ∃ V', V' = (((V.setCell ⟨RC, 0, none⟩ (.int .i64 0)).setCell ⟨RC, 1, none⟩ (.slice a9 NX.length c9)).setCell ⟨RC, 2, none⟩ (.slice a10 OU.length c10)) := ⟨_, rfl⟩
        rw [← hV']
        obtain ⟨q0, q1, q2, hB⟩ := HFin.out V _ _ _ HKe.out.1 HKe.out.2 V' hV'
        have HRw2 : Hid (RwsM V' wJ.heap.size (.slice a9 NX.length c9) NX b.nx ∧ RwsM V' wJ.heap.size (.slice a10 OU.length c10) OU b.ou) := hid0 (by
          have hrc := HRc.out V HKe.out.1
          have k1 : KeB [28] V (V.setCell ⟨RC, 0, none⟩ (.int .i64 0)) := KeB.cell hrc (by simp) _
          have hrc1 := heap_setCell_same V _ 0 _ _ (.int .i64 0) hrc
          have k2 : KeB [28] (V.setCell ⟨RC, 0, none⟩ (.int .i64 0)) _ := KeB.cell (i := 1) hrc1 (by simp) (.slice a9 NX.length c9)
          have hrc2 := heap_setCell_same _ _ 1 _ _ (.slice a9 NX.length c9) hrc1
          have k3 := KeB.cell (T := [28]) (i := 2) hrc2 (by simp) (.slice a10 OU.length c10)
          have k := (k1.trans k2).trans k3
          rw [hV']
          exact ⟨HRw.out.1.keB k (by decide) (by decide), HRw.out.2.1.keB k (by decide) (by decide)⟩)
        have HBf := hid0 hB
        clear hV' hB c0 c1 c2 f0 f1 f2 d8 d9 d10 dS
        refine bodyPost_ret (v := .tuple #[.agg #[.int .i64 0, .slice a9 NX.length c9, .slice a10 OU.length c10], .nilIface]) (by simp [results, Tryd.results29, go_sem, q0, q1, q2]) rfl ?_
        rw [HRes.out]
        exact ⟨_, _, NX, OU, rfl, HBf.out, HRw2.out.1, HRw2.out.2, HRw.out.2.2.1, HRw.out.2.2.2⟩
end Go.Proofs.YtleeedjpccooaaaDoor
