/-
  MbFW, MbGW.
-/
import Derived.Test.YtbbejfkgopcjoaaDoorNeae
namespace Go.Proofs.YtbbejfkgopcjoaaDoor
open Go.RowKit Go.Shelf
theorem kpt_put {W : World} {l : Nat} {o o' : Obj} (h : W.heap[l]? = some o) {W3 : World} (hk : KpT (W.putObj l o') W3) (hl : l < W.heap.size) : KpT W (W3.putObj l o) := by
  have hs : (W.putObj l o').heap.size = W.heap.size := by simp
  have h3 : l < W3.heap.size := by have := hk.size; omega
  refine ⟨by simp; have := hk.size; omega, fun k x hx kx => ?_⟩
  by_cases e : k = l
  · subst e
    rw [World.putObj_heap_same h3, ← h, hx]
  · rw [World.putObj_heap_other e]
    exact hk.keep k x ((World.putObj_heap_other e).trans hx) kx
theorem wpIn_rangeW {gop : Operand} {p : Tmp} {assign body : Code} {Q : Exit → Act → World → Prop} {a : Act} {w : World} (q n : Nat) (hn : 2 ≤ n) {l0 : Nat} {r0 : Loop} (hl0 : w.heap[l0]? = some (.loop r0)) (i : Nat) (f : Nat → Bool) (hi : i < 4294967296)
    (hg : a.eval gop = .func (.func 68) #[.agg #[.int .i64 (i : Int), .int .u64 (wordOf f i : Int)]] #[])
    (J : List Nat → World → Prop) (hJk : ∀ pre A B, J pre A → Only A B (fun k => w.heap.size ≤ k ∧ ∃ o, A.heap[k]? = some o ∧ o.isCells = false) → J pre B) (hJs : ∀ pre A, J pre A → TabAt 11 Lib.deBruijn64tab A) (h0 : J (plB f (64 * i)) w)
    (hassign : ∀ (l x : Nat) (W : World) (K : Act → World → Prop), K (actE a p q x) W → assign.wpIn (Fence.wide.inRound l) (n - 1 - 1) Tryd.prog (Exit.then K (fun _ _ _ => False)) { tmps := a.tmps.setIfInBounds p (.int .i64 (x : Int)), defers := [] } W)
    (hbody : ∀ (l : Nat) (pre : List Nat) (x : Nat) (W : World), J pre W → 64 * i ≤ x → x < 64 * (i + 1) → f x = true → pre = plB f x → body.wpIn (Fence.wide.inRound l) (n - 1 - 1) Tryd.prog (fun e _ W' => e = .normal ∧ J (pre ++ [x]) W' ∧ KpT W W') (actE a p q x) W)
    (hdone : ∀ W, J (plB f (64 * (i + 1))) W → KpT w W → Q .normal a W) :
    (Code.rangeFunc gop #[p] assign body).wpIn (Fence.wide.inRound l0) n Tryd.prog Q a w := by
  refine wpIn_rangeFunc ?_
  intro fn hfn
  rw [show (Fence.wide.inRound l0).round = some l0 from rfl]
  obtain ⟨rec, hrec⟩ : ∃ rec : LoopState → Loop, rec = fun st => { state := st, pending := none, fn, tmps := a.tmps, params := #[p], assign, body, defers := r0.defers } := ⟨_, rfl⟩
  obtain ⟨W1, hW1⟩ : ∃ W1, w.alloc (.loop (rec .ready)) = W1 := ⟨_, rfl⟩
  have hs1 : W1.heap.size = w.heap.size + 1 := by rw [← hW1]; simp
  have hL1 : W1.heap[w.heap.size]? = some (.loop (rec .ready)) := by rw [← hW1]; exact World.alloc_heap_new w _
  have hb1 : Below w.heap.size w W1 := by rw [← hW1]; exact (Below.refl _ w).alloc (Nat.le_refl _) _
  have hJn : ∀ pre A B, J pre A → Below A.heap.size A B → J pre B := fun pre A B h hb => hJk _ _ _ h (Only.ofNew hb _)
  have hJ1 : J (plB f (64 * i)) W1 := hJn _ _ _ h0 hb1
  have hJp : ∀ (pre : List Nat) (A : World) (o o' : Obj), J pre A → A.heap[w.heap.size]? = some o → o.isCells = false → J pre (A.putObj w.heap.size o') := fun pre A o o' h ho hc => hJk _ _ _ h (Only.putObj _ _ _ _ ⟨Nat.le_refl _, o, ho, hc⟩)
  refine ⟨w.heap.size, [], W1, { target := .fn (.func 68) #[], args := #[.agg #[.int .i64 (i : Int), .int .u64 (wordOf f i : Int)], .func (.yield w.heap.size) #[] #[]] }, W1, 68,
    #[.agg #[.int .i64 (i : Int), .int .u64 (wordOf f i : Int)], .func (.yield w.heap.size) #[] #[]], W1, ?_, ?_, ?_, ?_, fun _ => by omega, ?_⟩
  · rw [← hW1, hrec]; exact run_enterLoop_inner hl0 _ _ _ _ _
  · simp only [resolve, hg]
    simp [go_sem]
  · intro f' hf'; simp [Target.leads] at hf'; subst hf'; trivial
  · simp [invoke, go_sem]
  · refine (CallsIn.inRound l0 (eachW_in (n - 1) (by omega) w.heap.size i f hi
      (fun pre W => J pre W ∧ W.heap[w.heap.size]? = some (.loop (rec .ready)) ∧ KpT w W) W1 ?_ (fun pre A h => hJs pre A h.1) ?_ ⟨hJ1, hL1, KpT.below hb1⟩)).mono ?_
    · rintro pre A B ⟨h1, h2, h3⟩ hb
      exact ⟨hJn _ _ _ h1 hb, (hb.block _ (Array.getElem?_eq_some_iff.1 h2).1).trans h2, h3.trans (KpT.below hb)⟩
    · rintro pre x W ⟨hj, hl, hk⟩ hx1 hx2 hfx hpx
      have hlt : w.heap.size < W.heap.size := (Array.getElem?_eq_some_iff.1 hl).1
      have hy := run_yield (P := Tryd.prog) (args := #[Value.int .i64 (x : Int)]) hl (by rw [hrec]; rfl)
      rw [hrec] at hy
      refine ⟨fn, _, assign, body, hy, roundIn_of_wpIn trivial ?_⟩
      have ha := hassign w.heap.size x W
      simp only [List.zip_toArray, List.zip_cons_cons, List.zip_nil_right, List.foldl_toArray', List.foldl_cons, List.foldl_nil] at ha ⊢
      refine ha _ ?_
      refine ⟨_, run_beginRound hl (by rw [hrec]), ?_⟩
      have hl2 : (W.putObj w.heap.size (.loop { rec .ready with state := .busy })).heap[w.heap.size]? = some (.loop { rec .ready with state := .busy }) := World.putObj_heap_same hlt
      refine wpIn_mono (hbody _ pre x _ (hJp _ _ _ _ hj hl rfl) hx1 hx2 hfx hpx) ?_
      rintro e a3 W3 ⟨rfl, hj3, ho3⟩
      have hl3 := ho3.keep _ _ hl2 rfl
      have hr := run_endRound (P := Tryd.prog) none hl3
      rw [hrec] at hr
      have hkk : KpT W (W3.putObj w.heap.size (.loop (rec .ready))) := kpt_put hl ho3 hlt
      refine ⟨_, _, hr, rfl, ⟨?_, ?_, ?_⟩, ?_⟩
      · exact hJp _ _ _ _ hj3 hl3 rfl
      · rw [hrec]; exact World.putObj_heap_same (Array.getElem?_eq_some_iff.1 hl3).1
      · rw [hrec] at hkk; exact hk.trans hkk
      · rw [hrec] at hkk; exact hkk
    · rintro e W2 ⟨⟨v, rfl⟩, hj, hl, hk⟩
      have hr := run_endLoop (P := Tryd.prog) hl (by rw [hrec]; simp)
      rw [hrec] at hr
      refine ⟨none, _, hr, hdone _ (hJp _ _ _ _ hj hl rfl) ⟨by simp; exact hk.size, fun k o ho hkk => ?_⟩⟩
      have hne : k ≠ w.heap.size := by have := (Array.getElem?_eq_some_iff.1 ho).1; omega
      exact (World.putObj_heap_other hne).trans (hk.keep k o ho hkk)
end Go.Proofs.YtbbejfkgopcjoaaDoor
namespace Go.Proofs.YtbbejfkgopcjoaaDoor
open Go.RowKit Go.Shelf
attribute [local go_sem] Oper.semAt_some
theorem wlT_cons (f : Nat → Bool) (i : Nat) (l : List Nat) : wlT f (i :: l) = leB i 4 ++ leB (wordOf f i) 8 ++ wlT f l := by unfold wlT; rw [List.flatMap_cons]
theorem leD_take4 (i : Nat) (t : List UInt8) (hi : i < 4294967296) : leD ((leB i 4 ++ t).take 4) = i := by
  rw [List.take_left' (leB_len 4 i), leD_leB, Nat.mod_eq_of_lt (by omega)]
theorem leD_take8 (x : Nat) (t : List UInt8) (hx : x < 18446744073709551616) : leD ((leB x 8 ++ t).take 8) = x := by
  rw [List.take_left' (leB_len 8 x), leD_leB, Nat.mod_eq_of_lt (by omega)]
theorem ba_cut (l : List UInt8) (k : Nat) : (⟨l.toArray⟩ : ByteArray).extract k (⟨l.toArray⟩ : ByteArray).size = ⟨(l.drop k).toArray⟩ := by
  apply ByteArray.ext
  rw [ByteArray.data_extract]
  simp [ByteArray.size]
  exact List.take_of_length_le (by rw [List.length_drop]; exact Nat.le_refl _)
set_option maxRecDepth 100000 in
set_option maxHeartbeats 2000000 in
theorem words_in (n : Nat) (hn : 1 ≤ n) (l tb N : Nat) (f : Nat → Bool) (hN : N ≤ 1000000) (J : List Nat → World → Prop) (w : World)
    (hJa : ∀ pre A B, J pre A → Only A B (fun k => k = tb) → J pre B)
    (hY : ∀ pre x A, J pre A → x < N → wordOf f x ≠ 0 → (∃ rest, wl f N = pre ++ x :: rest) → YieldAt Fence.wide (n - 1) Tryd.prog l #[.agg #[.int .i64 (x : Int), .int .u64 (wordOf f x : Int)]] A fun e A' => e = .returned (.bool true) ∧ J (pre ++ [x]) A' ∧ KpT A A')
    (htb : w.heap[tb]? = some (.cells #[.string ⟨(encW f N).toArray⟩] 9 (0, 0)))
    (h0 : J [] w) :
    CallsIn Fence.wide n Tryd.prog 88 #[.func (.yield l) #[] #[], .pointer (some ⟨tb, 0, none⟩)] w fun e w' => (∃ v, e = .returned v) ∧ J (wl f N) w' := by
  have HJ0 := hid0 h0
  have HJa := hid0 hJa
  have HY := hid0 hY
  have HW0 : Hid (w.heap[tb]? = some (.cells #[.string ⟨(wlT f (wl f N)).toArray⟩] 9 (0, 0))) := hid0 (by rw [← encW_wl]; exact htb)
  have HL := hid0 (wl_lt f N)
  have HLn := hid0 (wl_len f N)
  clear hJa hY h0 htb
  refine callsIn_of_wp Tryd.func88 rfl trivial ?_ rfl
  simp only [Tryd.ntmps88, List.size_toArray, List.length_cons, List.length_nil, Nat.reduceAdd, Nat.reduceSub, Array.replicate_succ, Array.replicate_zero, List.push_toArray, List.append_toArray, List.nil_append, List.cons_append]
  gi_wp2
  gi_loopw [4] (fun _ wr => ∃ pre rest : List Nat, Hid (wl f N = pre ++ rest) ∧ Hid (J pre wr) ∧ Hid (wr.heap[tb]? = some (.cells #[.string ⟨(wlT f rest).toArray⟩] 9 (0, 0)))) (fun _ wr => match wr.cell? ⟨tb, 0, none⟩ with | some (.string b) => b.size | _ => 0)
  case atStart => exact ⟨[], wl f N, hid0 rfl, HJ0, HW0⟩
  case round =>
    clear HJ0 HW0
    obtain ⟨pre, rest, HE, HJ, HT⟩ := hrel
    cases rest with
    | nil =>
      have d0 : wr.cell? ⟨tb, 0, none⟩ = some (.string ⟨#[]⟩) := by rw [cell_of_row _ _ _ _ _ _ HT.out]; rfl
      have HF : Hid (J (wl f N) wr) := hid0 (by rw [HE.out, List.append_nil]; exact HJ.out)
      gi_wp2
      go_end0
      exact ⟨⟨_, rfl⟩, HF.out⟩
    | cons x rest =>
      have hx := HL.out x (by rw [HE.out]; simp)
      have hxN : x < 1000000 := by omega
      have HX := hid0 hx
      obtain ⟨T, hT⟩ : ∃ T, T = wlT f (x :: rest) := ⟨_, rfl⟩
      have hTl : T.length = 12 * rest.length + 12 := by rw [hT, wlT_len, List.length_cons]; omega
      have hTb : T.length ≤ 100000000 := by
        have h1 := congrArg List.length HE.out
        have h2 := HLn.out
        rw [List.length_append, List.length_cons] at h1
        omega
      obtain ⟨B, hB⟩ : ∃ B : ByteArray, B = ⟨T.toArray⟩ := ⟨_, rfl⟩
      obtain ⟨m, hm⟩ : ∃ m : Nat, m = T.length := ⟨_, rfl⟩
      have hsz : B.size = m := by rw [hB, hm]; simp [ByteArray.size]
      obtain ⟨B4, hc4⟩ : ∃ B4 : ByteArray, B.extract 4 m = B4 := ⟨_, rfl⟩
      obtain ⟨B12, hc12⟩ : ∃ B12 : ByteArray, B.extract 12 m = B12 := ⟨_, rfl⟩
      have hB4 : B4 = ⟨(T.drop 4).toArray⟩ := by rw [← hc4, ← hsz, hB]; exact ba_cut T 4
      have hB12 : B12 = ⟨(T.drop 12).toArray⟩ := by rw [← hc12, ← hsz, hB]; exact ba_cut T 12
      have d0 : wr.cell? ⟨tb, 0, none⟩ = some (.string B) := by rw [cell_of_row _ _ _ _ _ _ HT.out, hB, hT]; rfl
      have hfz : wr.frozen? ⟨tb, 0, none⟩ = false := by simp [World.frozen?, HT.out]
      have hwl := wordOf_lt f x
      have HN1 : Hid (∀ V : World, Calls Tryd.prog 89 #[.string B, .int .i64 4] V fun e w' => e = .returned (.int .u64 (x : Int)) ∧ w' = V) := hid0 (fun V => by
        have h := numberIn_any 4 T V (by omega) (by omega) (by omega)
        rw [hB]
        rw [hT, wlT_cons, List.append_assoc, leD_take4 x _ (by omega)] at h
        rw [hT, wlT_cons, List.append_assoc]
        exact h)
      have HN2 : Hid (∀ V : World, Calls Tryd.prog 89 #[.string B4, .int .i64 8] V fun e w' => e = .returned (.int .u64 (wordOf f x : Int)) ∧ w' = V) := hid0 (fun V => by
        have h := numberIn_any 8 (T.drop 4) V (by omega) (by rw [List.length_drop]; omega) (by rw [List.length_drop]; omega)
        have e : T.drop 4 = leB (wordOf f x) 8 ++ wlT f rest := by rw [hT, wlT_cons, List.append_assoc, List.drop_left' (leB_len 4 x)]
        rw [hB4]
        rw [e, leD_take8 _ _ (by omega)] at h
        rw [e]
        exact h)
      have HTd : Hid (B12 = ⟨(wlT f rest).toArray⟩) := hid0 (by rw [hB12, hT, wlT_cons, List.drop_left' (by rw [List.length_append, leB_len, leB_len])])
      have HTs : Hid (B12.size < B.size) := hid0 (by rw [hB12, hB]; simp [ByteArray.size]; omega)
      have hm1 : 12 ≤ m := by omega
      have hm2 : m ≤ 100000000 := by omega
      have hm0 : (0 : Int) < (m : Int) := by omega
      have hm4 : 4 ≤ m := by omega
      have hm4I : (4 : Int) ≤ (m : Int) := by omega
      have hm4N : ¬ (m : Int) < 4 := by omega
      have hm12I : (12 : Int) ≤ (m : Int) := by omega
      have hm12N : ¬ (m : Int) < 12 := by omega
      have htl : tb < wr.heap.size := (Array.getElem?_eq_some_iff.1 HT.out).1
      have d1 : (wr.drew.alloc (.cells #[.int .i64 0, .int .u64 0] 130)).cell? ⟨tb, 0, none⟩ = some (.string B) := cell_alloc (w := wr.drew) d0 _
      have HT0 : Hid (∀ V : World, KpT wr V → V.heap[tb]? = some (.cells #[.string B] 9 (0, 0))) := hid0 (fun V hV => by rw [hV.keep _ _ HT.out rfl, hB, hT])
      obtain ⟨wA, hwA⟩ : ∃ wA, wA = (wr.alloc (.cells #[.int .i64 (x : Int), .int .u64 (wordOf f x : Int)] 130)).drew := ⟨_, rfl⟩
      have hbA : Below wr.heap.size wr wA := by rw [hwA]; exact ((Below.refl _ _).alloc (Nat.le_refl _) _).drew
      have hrA : wA.heap[wr.heap.size]? = some (.cells #[.int .i64 (x : Int), .int .u64 (wordOf f x : Int)] 130 (0, 0)) := by rw [hwA]; exact heap_alloc_new wr _
      have HcA : Hid (wA.cell? ⟨wr.heap.size, 0, none⟩ = some (.int .i64 (x : Int)) ∧ wA.cell? ⟨wr.heap.size, 1, none⟩ = some (.int .u64 (wordOf f x : Int))) := hid0 ⟨by rw [cell_of_row _ _ _ _ _ _ hrA]; rfl, by rw [cell_of_row _ _ _ _ _ _ hrA]; rfl⟩
      have HJA : Hid (J pre wA) := hid0 (HJa.out _ _ _ HJ.out (Only.ofNew hbA _))
      have HKA := hid0 (KpT.below hbA)
      have HWA := hid0 hwA.symm
      have hwx : IntKind.i64.wrap (x : Int) = (x : Int) := by rw [IntKind.wrap_i64]; omega
      clear hbA hrA hwA
      clear hT hx hwl hB hB4 hB12 hTl hTb hm HT
      have hmx : Tryd.prog.follows .mixedOrders = true := by kernel_rfl
      have hf1 : Fence.wide.fn 89 := trivial
      gi_wp2
      have key := ‹∀ (a : Act) (w : World), _ → _› { tmps := #[.func (.yield l) #[] #[], .pointer (some ⟨tb, 0, none⟩), undef, .pointer (some ⟨wr.heap.size, 0, none⟩), .string B, .int .i64 (m : Int), .bool true, .string B, .int .u64 (x : Int), .int .i64 (x : Int), .string B, .string B4, .int .u64 (wordOf f x : Int), .agg #[.int .i64 (x : Int), .int .u64 (wordOf f x : Int)], u14, u15, u16, u17, u18, u19], defers := [] } wA (by
        obtain ⟨a0, a1⟩ := HcA.out
        obtain ⟨fn, tmps, assign, body, hy, hR⟩ := HY.out pre x wA HJA.out HX.out.1 HX.out.2 ⟨rest, HE.out⟩
        have HRd := hid0 hR
        clear hR d1 d0 hfz
        gi_wp2
        refine HRd.out.mono ?_
        rintro e W3 ⟨rfl, hJ3, hK3⟩
        have hrB := HT0.out W3 (HKA.out.trans hK3)
        have d0 : W3.cell? ⟨tb, 0, none⟩ = some (.string B) := by rw [cell_of_row _ _ _ _ _ _ hrB]; rfl
        have hfz : W3.frozen? ⟨tb, 0, none⟩ = false := by simp [World.frozen?, hrB]
        have HJ3 : Hid (J (pre ++ [x]) (W3.setCell ⟨tb, 0, none⟩ (.string B12))) := hid0 (HJa.out _ _ _ hJ3 (Only.setCell W3 _ _ _))
        have HT3 : Hid ((W3.setCell ⟨tb, 0, none⟩ (.string B12)).heap[tb]? = some (.cells #[.string ⟨(wlT f rest).toArray⟩] 9 (0, 0))) := hid0 (by rw [← HTd.out]; exact heap_setCell_same _ _ 0 _ _ (.string B12) hrB)
        have HMs : Hid (B12.size < B.size) := HTs
        have HD0 : Hid (wr.cell? ⟨tb, 0, none⟩ = some (.string B)) := hid0 (by rw [cell_of_row _ _ _ _ _ _ (HT0.out wr (KpT.refl wr))]; rfl)
        clear hJ3 hK3 hrB hy HRd a0 a1
        gi_wp2
        go_roundw
        case rel => exact ⟨pre ++ [x], rest, hid0 (by rw [HE.out]; simp), HJ3, HT3⟩
        case measure =>
          have h1 : (W3.setCell ⟨tb, 0, none⟩ (.string B12)).cell? ⟨tb, 0, none⟩ = some (.string B12) := by rw [cell_of_row _ _ _ _ _ _ HT3.out, ← HTd.out]; rfl
          have h2 := HMs.out
          have h3 := HD0.out
          rw [h1, h3]
          exact h2)
      gi_region_with_o (first
        | (gi_at_call 89; with_reducible refine (callsIn_wide.2 (HN1.out _)).mono ?_; rintro e w2 ⟨rfl, rfl⟩)
        | (gi_at_call 89; with_reducible refine (callsIn_wide.2 (HN2.out _)).mono ?_; rintro e w2 ⟨rfl, rfl⟩)
        | fail)
      all_goals
        rw [HWA.out]
        exact key
end Go.Proofs.YtbbejfkgopcjoaaDoor
