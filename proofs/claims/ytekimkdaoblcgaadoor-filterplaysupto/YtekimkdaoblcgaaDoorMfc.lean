/-
  TwAW, TwCW, TwDW, TrSW.
-/
import Derived.Test.YtekimkdaoblcgaaDoorMfb
namespace Go.Proofs.YtekimkdaoblcgaaDoor
open Go.RowKit Go.Shelf Go.Lib Go.Maps
set_option maxRecDepth 10000 in
theorem scalar_any (c : Int) (w : World) : Calls Tryd.prog 70 #[.int .i64 c] w fun e w' => e = .returned (.bool (!nsB c)) ∧ w' = w := by
  by_cases h1 : c < 0
  · have hr : nsB c = true := by simp [nsB, h1]
    have h1' : ¬ c ≥ 0 := by omega
    rw [hr]
    clear hr
    go_enter Tryd.func70, Tryd.ntmps70
    go_wp2
    go_ret
    exact ⟨rfl, rfl⟩
  · have h1' : c ≥ 0 := by omega
    by_cases h2 : c > 1114111
    · have hr : nsB c = true := by simp [nsB, h2]
      have h2' : ¬ c ≤ 1114111 := by omega
      rw [hr]
      clear hr
      go_enter Tryd.func70, Tryd.ntmps70
      go_wp2
      go_ret
      exact ⟨rfl, rfl⟩
    · have h2' : c ≤ 1114111 := by omega
      by_cases h3 : c < 55296
      · have hr : nsB c = false := by simp [nsB]; omega
        rw [hr]
        clear hr
        go_enter Tryd.func70, Tryd.ntmps70
        go_wp2
        go_ret
        exact ⟨rfl, rfl⟩
      · by_cases h4 : c > 57343
        · have hr : nsB c = false := by simp [nsB]; omega
          rw [hr]
          clear hr
          go_enter Tryd.func70, Tryd.ntmps70
          go_wp2
          go_ret
          exact ⟨rfl, rfl⟩
        · have hr : nsB c = true := by simp [nsB]; omega
          rw [hr]
          clear hr
          go_enter Tryd.func70, Tryd.ntmps70
          go_wp2
          go_ret
          exact ⟨rfl, rfl⟩
theorem take_step {p q : List Int} {k : Nat} (hp : k < p.length) (hq : k < q.length) (h : p.take k = q.take k) : p.take (k + 1) = q.take (k + 1) ↔ p[k] = q[k] := by
  rw [take_snoc hp, take_snoc hq, h]
  constructor
  · intro e
    have := List.append_cancel_left e
    simpa using this
  · intro e
    rw [e]
theorem take_ne {p q : List Int} {k n : Nat} (hk : k ≤ n) (h : p.take k ≠ q.take k) : p.take n ≠ q.take n := fun e => h (by
  have h1 := congrArg (List.take k) e
  rw [List.take_take, List.take_take, Nat.min_eq_left hk] at h1
  exact h1)
end Go.Proofs.YtekimkdaoblcgaaDoor
namespace Go.Proofs.YtekimkdaoblcgaaDoor
open Go.RowKit Go.Shelf Go.Lib Go.Maps
theorem eq_uptoT {L M : List Int} (hl : L.length = M.length) (h : ∀ k, k < L.length → L[k]? = M[k]?) : L = M := by
  apply List.ext_getElem?
  intro k
  rcases Nat.lt_or_ge k L.length with hk | hk
  · exact h k hk
  · rw [List.getElem?_eq_none hk, List.getElem?_eq_none (by omega)]
set_option maxRecDepth 10000 in
set_option maxHeartbeats 800000 in
theorem sameInts_anyT (L M : List Int) (a b : Option Addr) (ca cb : Nat) (w : World) (hl : L.length ≤ 17592186044000) (ha : IA w a L) (hb : IA w b M) :
    Calls Tryd.prog 10 #[.slice a L.length ca, .slice b M.length cb] w fun e w' => e = .returned (.bool (decide (L = M))) ∧ ∃ n, w' = w.drewN n := by
  have HA := hid0 ha
  have HB := hid0 hb
  clear ha hb
  by_cases hlen : L.length = M.length
  · have hlI : (L.length : Int) = (M.length : Int) := by omega
    have HL := hid0 hlen
    clear hlen
    go_enter Tryd.func10, Tryd.ntmps10
    go_wp2
    go_loopw [5] (fun i wr => ∃ k : Nat, k ≤ L.length ∧ i = .int .i64 (k : Int) ∧ (∃ n, wr = w.drewN n) ∧ Hid (∀ j, j < k → L[j]? = M[j]?)) (fun i _ => L.length - (intOf i).toNat)
    case atStart => exact ⟨0, Nat.zero_le _, rfl, ⟨0, rfl⟩, hid0 (fun j h => absurd h (Nat.not_lt_zero _))⟩
    case round =>
      obtain ⟨k, hk, rfl, ⟨nd, rfl⟩, HE⟩ := hrel
      by_cases hlt : k < L.length
      · have hltM : k < M.length := by have := HL.out; omega
        obtain ⟨b1, o1, rfl, _, d1⟩ := HA.out.at' k hlt
        obtain ⟨b2, o2, rfl, _, d2⟩ := HB.out.at' k hltM
        have hkI : (k : Int) < (L.length : Int) := by omega
        have hkM : (k : Int) < (M.length : Int) := by omega
        have hkI0 : (0 : Int) ≤ (k : Int) := by omega
        have HG1 : Hid (L[k]? = some L[k]) := hid0 (List.getElem?_eq_getElem hlt)
        have HG2 : Hid (M[k]? = some M[k]) := hid0 (List.getElem?_eq_getElem hltM)
        generalize L[k] = s at *
        generalize M[k] = u at *
        by_cases hsu : s = u
        · subst hsu
          have hself : (s == s) = true := by simp
          have hself2 : (s != s) = false := by simp
          have HE2 : Hid (∀ j, j < k + 1 → L[j]? = M[j]?) := hid0 (fun j hj => by
            by_cases e : j = k
            · subst e; rw [HG1.out, HG2.out]
            · exact HE.out j (by omega))
          clear HE HG1 HG2
          go_wp2
          go_quiet ((fail))
          go_wp2
          go_roundw
          case rel => exact ⟨k + 1, by omega, by go_num, ⟨_, rfl⟩, HE2⟩
          case measure => simp [intOf]; omega
        · have hne : (s == u) = false := by simpa using hsu
          have hne2 : (s != u) = true := by simpa using hsu
          have HV : Hid (decide (L = M) = false) := hid0 (decide_eq_false (fun e => by
            subst e
            rw [HG1.out] at HG2
            exact hsu (by have := HG2.out; cases this; rfl)))
          clear HE HG1 HG2
          go_wp2
          go_quiet ((fail))
          go_wp2
          go_ret
          exact ⟨by rw [HV.out]; rfl, _, World.drewN_drewN _ _ _⟩
      · have hkI : ¬ (k : Int) < (L.length : Int) := by omega
        have HV : Hid (decide (L = M) = true) := hid0 (decide_eq_true (eq_uptoT HL.out (fun j hj => HE.out j (by omega))))
        clear HE
        go_wp2
        go_ret
        exact ⟨by rw [HV.out]; rfl, nd, rfl⟩
  · have hlI : ¬ (L.length : Int) = (M.length : Int) := by omega
    have HV : Hid (decide (L = M) = false) := hid0 (decide_eq_false (fun e => hlen (by rw [e])))
    clear hlen
    go_enter Tryd.func10, Tryd.ntmps10
    go_wp2
    go_ret
    exact ⟨by rw [HV.out]; rfl, 0, rfl⟩
/-- What fault says of an entry. -/
def fltN (L : List (List Int)) (i : Nat) : Int :=
  match chkN (L.getD i []) with
  | some k => (k : Int) + 1
  | none => if L.getD i [] ∈ L.take i then 5 else 0
set_option maxRecDepth 10000 in
set_option maxHeartbeats 1600000 in
theorem fault_any (L : List (List Int)) (a : Option Addr) (ca i : Nat) (w : World) (ha : RwA w a L) (hi : i < L.length) (hn : L.length ≤ 1000000000) (hl : ∀ e ∈ L, e.length ≤ 1000000000) :
    Calls Tryd.prog 51 #[.slice a L.length ca, .int .i64 (i : Int)] w fun r w' => r = .returned (.int .i64 (fltN L i)) ∧ ∃ m, w' = w.drewN m := by
  have HA := hid0 ha
  have HL := hid0 hl
  obtain ⟨b, off, rfl, hb, a1, c1, hc1, hia⟩ := ha.at' i hi
  have HI := hid0 hia
  have hel := hl _ (List.getElem_mem hi)
  have HF : Hid (fltN L i = match chkN L[i] with
    | some k => (k : Int) + 1
    | none => if L[i] ∈ L.take i then 5 else 0) := hid0 (by
      unfold fltN
      rw [List.getD_eq_getElem?_getD, List.getElem?_eq_getElem hi]
      rfl)
  generalize fltN L i = R at *
  have hiI : (i : Int) < (L.length : Int) := by omega
  have hiI0 : (0 : Int) ≤ (i : Int) := by omega
  clear ha hl hia
  generalize L[i] = e at *
  by_cases h0 : e.length = 0
  · have hR : R = 1 := by
      rw [HF.out]
      have : e = [] := List.length_eq_zero_iff.1 h0
      subst this
      rfl
    subst hR
    rw [h0] at hc1
    clear h0 HF HA HL HI
    go_enter Tryd.func51, Tryd.ntmps51
    go_wp2
    go_ret
    exact ⟨rfl, 0, rfl⟩
  · have h0I : ¬ (e.length : Int) = 0 := by omega
    have h0B : ((e.length : Int) == 0) = false := beq_eq_false_iff_ne.2 h0I
    have HZ := hid0 h0
    clear h0
    go_enter Tryd.func51, Tryd.ntmps51
    go_wp2
    go_loopw [6] (fun j wr => ∃ k : Nat, k ≤ e.length ∧ j = .int .i64 (k : Int) ∧ Hid ((e.take k).any nsB = false) ∧ wr = w) (fun j _ => e.length - (intOf j).toNat)
    case atStart => exact ⟨0, Nat.zero_le _, rfl, hid0 rfl, rfl⟩
    case round =>
      obtain ⟨k, hk, rfl, HN, rfl⟩ := hrel
      by_cases hlt : k < e.length
      · obtain ⟨b2, o2, rfl, _, ce⟩ := HI.out.at' k hlt
        have hkI : (k : Int) < (e.length : Int) := by omega
        have hkI0 : (0 : Int) ≤ (k : Int) := by omega
        have HT := hid0 (take_snoc hlt)
        have HM : Hid (e[k] ∈ e) := hid0 (List.getElem_mem hlt)
        generalize e[k] = c at *
        have HCc := hid0 (scalar_any c wr)
        cases hq : nsB c with
        | true =>
          rw [hq] at HCc
          have hR : R = 1 := by
            rw [HF.out, show chkN e = some 0 by
              unfold chkN
              rw [if_pos]
              rw [List.any_eq_true.2 ⟨c, HM.out, hq⟩]
              simp]
            rfl
          subst hR
          clear hq HF HA HL HI HN HT HM
          go_wp2_with (go_at_call 70; go_loud ((
            refine HCc.out.mono ?_
            rintro r w1 ⟨rfl, hw⟩
            have hw := hw.symm
            subst hw)))
          go_ret
          exact ⟨rfl, 0, rfl⟩
        | false =>
          rw [hq] at HCc
          have HN2 : Hid ((e.take (k + 1)).any nsB = false) := hid0 (by rw [HT.out, List.any_append, HN.out]; simp [hq])
          clear hq HN HT HM
          go_wp2_with (go_at_call 70; go_loud ((
            refine HCc.out.mono ?_
            rintro r w1 ⟨rfl, hw⟩
            have hw := hw.symm
            subst hw)))
          go_roundw
          case rel => exact ⟨k + 1, hlt, by go_num, HN2, trivial⟩
          case measure => simp [intOf]; omega
      · have hkI : ¬ (k : Int) < (e.length : Int) := by omega
        have hE : (e.isEmpty || e.any nsB) = false := by
          have h := HN.out
          rw [List.take_of_length_le (by omega)] at h
          rw [h]
          have := HZ.out
          cases e with
          | nil => simp at this
          | cons x xs => rfl
        by_cases hgt : (e.length : Int) > 32
        · have hR : R = 3 := by
            rw [HF.out, show chkN e = some 2 by
              unfold chkN
              rw [hE, if_neg (by simp), if_pos (by omega)]]
            rfl
          subst hR
          clear HF HA HL HI HN hE
          go_wp2
          go_ret
          exact ⟨rfl, 0, rfl⟩
        · have HF2 : Hid (R = if e ∈ L.take i then 5 else 0) := hid0 (by
            rw [HF.out, show chkN e = none by
              unfold chkN
              rw [hE, if_neg (by simp), if_neg (by omega)]])
          clear HF HN hE
          go_wp2
          go_loopw [8] (fun j wx => ∃ k m : Nat, k ≤ i ∧ j = .int .i64 (k : Int) ∧ Hid (e ∉ L.take k) ∧ wx = wr.drewN m) (fun j _ => i - (intOf j).toNat)
          case atStart => exact ⟨0, 0, Nat.zero_le _, rfl, hid0 (by simp), rfl⟩
          case round =>
            obtain ⟨j, m, hj, rfl, HN, rfl⟩ := hrel
            by_cases hji : j < i
            · have hjI : (j : Int) < (i : Int) := by omega
              have hjI0 : (0 : Int) ≤ (j : Int) := by omega
              have hjL : (j : Int) < (L.length : Int) := by omega
              obtain ⟨b3, o3, e3, hb3, a3, c3, hc3, hi3⟩ := HA.out.at' j (by omega)
              injection e3 with e3
              injection e3 with e4 e5
              subst e4 e5
              have HSa := hid0 (sameInts_anyT (L[j]'(by omega)) e a3 a1 c3 c1 (wr.drewN m) (by have := HL.out _ (List.getElem_mem (show j < L.length by omega)); omega) ⟨hi3.at'⟩ ⟨HI.out.at'⟩)
              have HTk : Hid (L.take (j + 1) = L.take j ++ [L[j]'(by omega)]) := hid0 (by rw [List.take_add_one, List.getElem?_eq_getElem (by omega)]; rfl)
              have HLt : Hid (L[j]'(by omega) ∈ L.take i) := hid0 (by
                rw [List.mem_take_iff_getElem]
                exact ⟨j, by omega, rfl⟩)
              generalize L[j]'(by omega) = e2 at *
              clear hi3
              by_cases hee : e2 = e
              · have hR : R = 5 := by rw [HF2.out, if_pos (by rw [← hee]; exact HLt.out)]
                subst hR
                rw [decide_eq_true hee] at HSa
                clear hee HF2 HTk HLt HN
                go_wp2_with (go_at_call 10; go_loud ((
                  refine HSa.out.mono ?_
                  rintro r w1 ⟨rfl, n1, rfl⟩)))
                go_ret
                exact ⟨rfl, _, rfl⟩
              · have HN2 : Hid (e ∉ L.take (j + 1)) := hid0 (by
                  rw [HTk.out]
                  simp only [List.mem_append, List.mem_singleton, not_or]
                  exact ⟨HN.out, fun h => hee h.symm⟩)
                rw [decide_eq_false hee] at HSa
                clear hee HTk HLt HN
                go_wp2_with (go_at_call 10; go_loud ((
                  refine HSa.out.mono ?_
                  rintro r w1 ⟨rfl, n1, rfl⟩)))
                go_roundw
                case rel => exact ⟨j + 1, _, hji, by go_num, HN2, rfl⟩
                case measure => simp [intOf]; omega
            · have hjI : ¬ (j : Int) < (i : Int) := by omega
              have hR : R = 0 := by
                rw [HF2.out, if_neg]
                have h := HN.out
                rw [show j = i by omega] at h
                exact h
              subst hR
              clear HF2 HN
              go_wp2
              go_ret
              exact ⟨rfl, _, rfl⟩
end Go.Proofs.YtekimkdaoblcgaaDoor
namespace Go.Proofs.YtekimkdaoblcgaaDoor
open Go.RowKit Go.Shelf Go.Lib Go.Maps
theorem app_nilT (w : World) (ty : TypeId) : (Builtin.append_ #[28, 28] ty #[.slice none 0 0, .slice none 0 0]).run Tryd.prog w = .ok (.slice none 0 0) w := by
  go_simp
theorem wpList_spreadT {ops : Array Oper} {rest : List Oper} {op : Oper} {a : Act} {w : World} {Q : Exit → Act → World → Prop} (hgd : op.guard = none) (s x : Operand) (ho : op.op = .call { callee := .builtin .append, args := #[s, x], argTypes := #[28, 28] })
    (aN : Option Addr) (L : List Int) (cN base : Nat) (hs : a.eval s = .slice none 0 0) (hx : a.eval x = .slice aN L.length cN) (hnil : aN = none → cN = 0) (ha : IA w aN L) (hl : L.length ≤ 17592186044416) (hb : base ≤ w.heap.size)
    (h : ∀ v' w', OwnI w' base v' L → w.grownBy w' none → wpList Tryd.prog ops Q rest (a.put op.dst v') w') : wpList Tryd.prog ops Q (op :: rest) a w := by
  obtain ⟨i0, hi, hz0, hz1, hz2⟩ := info_parts infoInt
  cases aN with
  | none =>
    have hL : L = [] := by
      cases L with
      | nil => rfl
      | cons y r => obtain ⟨b, off, e, _⟩ := ha.at' 0 (by simp); cases e
    subst hL
    have hc := hnil rfl
    subst hc
    refine wpList_plain hgd fun K hK => ?_
    have hr := app_nilT w op.type
    unfold Oper.wp execOp
    simp only [ho, resolve, invoke, builtin, Sem.run_bind, Sem.run_pure, Result.andThen_ok, List.map_toArray, List.map_cons, List.map_nil, hs, hx, List.length_nil, hr]
    exact hK _ _ (h _ _ (World.ownsRow_nil _ _ _ _) ⟨rfl, rfl, rfl, Nat.le_refl _, fun _ _ _ => rfl⟩)
  | some ad =>
    refine wpList_append_own _ hgd s x 28 ho base 3 i0 (.int .i64 0) 1 8 Tryd.underlying28 hi hz0 hz1 hz2 rfl (by decide) (.slice none 0 0) 0 [] hs (World.ownsRow_nil _ _ _ _) ad L.length cN (L.map (Value.int .i64)) hx (by simp) (fun j u hu => ?_) (fun u hu => by obtain ⟨y, _, rfl⟩ := List.mem_map.1 hu; rfl) (by unfold maxLen; omega) (by omega) hb (fun v' w' h1 h2 _ => h v' w' (by rw [Nat.zero_add, List.nil_append] at h1; exact h1) h2)
    have hj : j < L.length := by have := (List.getElem?_eq_some_iff.1 hu).1; simpa using this
    obtain ⟨b, off, e, h1, h2⟩ := ha.at' j hj
    cases e
    rw [Addr.add_mid, h2]
    have : (L.map (Value.int .i64))[j]? = some (.int .i64 L[j]) := by simp [hj]
    rw [this] at hu
    exact hu
/-- The document's trie in memory. -/
structure RTr (w : World) (U : Nat) (E : List (List Int)) (a : Option Addr) (c : Nat) : Prop where
  at' : w.cell? ⟨U, 0, none⟩ = some (.slice a E.length c)
  row : RwA w a E
theorem RTr.past {w w' : World} {U : Nat} {E : List (List Int)} {a : Option Addr} {c : Nat} (h : RTr w U E a c) (hb : Below w.heap.size w w') : RTr w' U E a c :=
  ⟨(hb.cell (p := ⟨U, 0, none⟩) (World.block_lt_of_cell? w _ h.at')).trans h.at', h.row.past hb⟩
/-- The same, while it is made. -/
structure Nst (w : World) (U : Nat) (v : Value) (E : List (List Int)) (vs : List Value) : Prop where
  box : w.heap[U]? = some (.cells #[v] 98 (0, 0))
  own : w.ownsRow (U + 1) 28 1 v E.length vs
  row : ∀ k (h : k < E.length), ∃ a c, vs[k]? = some (.slice a (E[k]).length c) ∧ IA w a E[k] ∧ ∀ p, a = some p → U < p.block ∧ p.block < w.heap.size ∧ v.ownBlock ≠ some p.block
theorem Nst.nil (w : World) : Nst (w.alloc (.cells #[.slice none 0 0] 98)) w.heap.size (.slice none 0 0) [] [] := ⟨heap_alloc_new _ _, World.ownsRow_nil _ _ _ _, fun _k h => absurd h (Nat.not_lt_zero _)⟩
theorem Nst.past {w w' : World} {U : Nat} {v : Value} {E : List (List Int)} {vs : List Value} (h : Nst w U v E vs) (hb : Below w.heap.size w w') : Nst w' U v E vs :=
  ⟨(hb.block U (Array.getElem?_eq_some_iff.1 h.box).1).trans h.box, own_blk h.own (fun k e => hb.block k (World.ownsRow.lt h.own k e).2), fun k hk => by
    obtain ⟨a, c, h1, h2, h3⟩ := h.row k hk
    exact ⟨a, c, h1, h2.past hb, fun p hp => ⟨(h3 p hp).1, Nat.lt_of_lt_of_le (h3 p hp).2.1 hb.size, (h3 p hp).2.2⟩⟩⟩
theorem IA.only {w w' : World} {S : Nat → Prop} {a : Option Addr} {L : List Int} (h : IA w a L) (ho : Only w w' S) (hs : ∀ p, a = some p → ¬ S p.block) : IA w' a L := ⟨fun k hk => by
  obtain ⟨b, off, rfl, h1, h2⟩ := h.at' k hk
  exact ⟨b, off, rfl, Nat.lt_of_lt_of_le h1 ho.size, (ho.cell (p := ⟨b, off + k, none⟩) h1 (hs ⟨b, off, none⟩ rfl)).trans h2⟩⟩
theorem OwnI.blk {w : World} {base : Nat} {v : Value} {L : List Int} (h : OwnI w base v L) : ∃ a cap, v = .slice a L.length cap ∧ IA w a L ∧ ∀ p, a = some p → base ≤ p.block ∧ p.block < w.heap.size := by
  have h0 := h
  obtain ⟨a, cap, e, hia⟩ := OwnI.ia h0
  refine ⟨a, cap, e, hia, fun p hp => ?_⟩
  rcases h.2 with ⟨rfl, _⟩ | ⟨g, cap', cur, rfl, _⟩
  · injection e with e1
    rw [hp] at e1
    cases e1
  · injection e with e1
    rw [hp] at e1
    injection e1 with e1
    subst e1
    exact World.ownsRow.lt h0 g rfl
/-- One more entry. -/
theorem Nst.snoc {w w1 w2 : World} {U c : Nat} {v v2 : Value} {E : List (List Int)} {vs : List Value} {e : List Int} {a : Option Addr} {o : Obj} {n : Nat} (hn : n = E.length) (h : Nst w U v E vs) (hb : Below w.heap.size w w1) (hia : IA w1 a e) (hab : ∀ p, a = some p → w.heap.size ≤ p.block ∧ p.block < w1.heap.size)
    (hown : w2.ownsRow (U + 1) 28 1 v2 (n + 1) (vs ++ [.slice a e.length c])) (hg : (w1.alloc o).grownBy w2 v.ownBlock) (hat : v2.ownBlock = v.ownBlock ∨ v2.ownBlock = some (w1.alloc o).heap.size) :
    Nst (w2.setCell ⟨U, 0, none⟩ v2) U v2 (E ++ [e]) (vs ++ [.slice a e.length c]) ∧ Below U w (w2.setCell ⟨U, 0, none⟩ v2) ∧ w2.cell? ⟨U, 0, none⟩ = some v ∧ w2.frozen? ⟨U, 0, none⟩ = false := by
  subst hn
  have hUl := (Array.getElem?_eq_some_iff.1 h.box).1
  have hs1 := hb.size
  have hvo : ∀ g, v.ownBlock = some g → U + 1 ≤ g ∧ g < w.heap.size := fun g e => World.ownsRow.lt h.own g e
  have ho1 : Only w1 w2 (fun k => v.ownBlock = some k) := ((Only.alloc w1 o (fun k => v.ownBlock = some k))).trans (T := fun k => v.ownBlock = some k) ⟨hg.os, hg.tape, hg.output, hg.size, fun k hk hn => hg.block k hk (fun e => hn e.symm)⟩ (fun i hi => .inl hi)
  have hbox : w2.heap[U]? = some (.cells #[v] 98 (0, 0)) := ((ho1.block U (by omega) (fun e => by have := hvo _ e; omega)).trans (hb.block U hUl)).trans h.box
  have ho2 : Only w1 (w2.setCell ⟨U, 0, none⟩ v2) (fun k => k = U ∨ v.ownBlock = some k) := (ho1.mono (fun i hi => .inr hi)).trans ((Only.setCell _ _ _ _).mono (fun i hi => .inl hi)) (fun i hi => .inl hi)
  have hne2 : ∀ p : Addr, U < p.block → v.ownBlock ≠ some p.block → p.block < w1.heap.size → v2.ownBlock ≠ some p.block := fun p h1 h2 h3 h4 => by
    rcases hat with e | e
    · rw [e] at h4; exact h2 h4
    · rw [e] at h4
      simp at h4
      omega
  have hvs : vs.length = E.length := by have := h.own.1; omega
  refine ⟨⟨(heap_setCell_same _ _ 0 _ _ _ hbox).trans (by simp), ?_, fun k hk => ?_⟩, ?_, by rw [cell_of_row _ _ _ _ _ _ hbox]; rfl, by simp [World.frozen?, hbox]⟩
  · rw [List.length_append]
    exact own_blk hown (fun k e => setCell_block_ne (by have := (World.ownsRow.lt hown k e).1; omega))
  · by_cases hlt : k < E.length
    · obtain ⟨a1, c1, h1, h2, h3⟩ := h.row k hlt
      rw [List.getElem_append_left hlt]
      refine ⟨a1, c1, by rw [List.getElem?_append_left (by omega)]; exact h1, (h2.past hb).only ho2 (fun p hp => ?_), fun p hp => ⟨(h3 p hp).1, ?_, hne2 p (h3 p hp).1 (h3 p hp).2.2 ?_⟩⟩
      · have := h3 p hp
        rintro (q | q)
        · omega
        · exact this.2.2 q
      · have := (h3 p hp).2.1
        have := ho2.size
        omega
      · have := (h3 p hp).2.1
        omega
    · have hke : k = E.length := by simp at hk; omega
      subst hke
      rw [List.getElem_append_right (Nat.le_refl _)]
      simp only [Nat.sub_self, List.getElem_cons_zero]
      refine ⟨a, c, by rw [List.getElem?_append_right (by omega)]; simp [hvs], hia.only ho2 (fun p hp => ?_), fun p hp => ?_⟩
      · have := hab p hp
        rintro (q | q)
        · omega
        · have := hvo _ q; omega
      · have h1 := hab p hp
        have h2 := ho2.size
        exact ⟨by omega, by omega, hne2 p (by omega) (fun q => by have := hvo _ q; omega) h1.2⟩
  · exact (hb.mono (by omega)).trans (ho2.below (by omega) (by
      rintro i (e | e)
      · omega
      · have := hvo _ e; omega))
/-- What the document's New answers. -/
def RNewR (w : World) (L : List (List Int)) (r : Ending) (w' : World) : Prop :=
  Below w.heap.size w w' ∧ ((∃ k : Nat, newE L = some k ∧ r = .returned (.tuple #[.pointer none, .int .i64 ((k : Int) + 1)])) ∨ (newE L = none ∧ ∃ U a c, r = .returned (.tuple #[.pointer (some ⟨U, 0, none⟩), .int .i64 0]) ∧ RTr w' U L a c ∧ ∀ V : World, Agree w' V w.heap.size → RTr V U L a c))
theorem flt_cases {L : List (List Int)} {k : Nat} (hk : k < L.length) : (∃ j : Nat, fltN L k = (j : Int) + 1 ∧ nwK (L.take k) (L.drop k) = some j) ∨ (fltN L k = 0 ∧ nwK (L.take k) (L.drop k) = nwK (L.take (k + 1)) (L.drop (k + 1)) ∧ L[k] ≠ [] ∧ L[k].length ≤ 32) := by
  have h1 := nwK_step hk
  have h2 : fltN L k = match chkN L[k] with
    | some k => (k : Int) + 1
    | none => if L[k] ∈ L.take k then 5 else 0 := by
      unfold fltN
      rw [List.getD_eq_getElem?_getD, List.getElem?_eq_getElem hk]
      rfl
  cases hq : chkN L[k] with
  | some j =>
    rw [hq] at h1 h2
    exact .inl ⟨j, h2, h1⟩
  | none =>
    rw [hq] at h1 h2
    by_cases he : L[k] ∈ L.take k
    · simp only [if_pos he] at h1 h2
      exact .inl ⟨4, h2, h1⟩
    · simp only [if_neg he] at h1 h2
      exact .inr ⟨h2, h1, (chkN_none hq).1, (chkN_none hq).2.1⟩
theorem Nst.keep {w V : World} {U : Nat} {v : Value} {E : List (List Int)} {vs : List Value} (h : Nst w U v E vs) (ha : Agree w V U) : Nst V U v E vs :=
  ⟨(ha.block U (Nat.le_refl _) (Array.getElem?_eq_some_iff.1 h.box).1).trans h.box, own_blk h.own (fun k e => ha.block k (by have := (World.ownsRow.lt h.own k e).1; omega) (World.ownsRow.lt h.own k e).2), fun k hk => by
    obtain ⟨a, c, h1, h2, h3⟩ := h.row k hk
    refine ⟨a, c, h1, ⟨fun q hq => ?_⟩, fun p hp => ⟨(h3 p hp).1, Nat.lt_of_lt_of_le (h3 p hp).2.1 ha.size, (h3 p hp).2.2⟩⟩
    obtain ⟨b, off, rfl, q1, q2⟩ := h2.at' q hq
    have := (h3 _ rfl).1
    exact ⟨b, off, rfl, Nat.lt_of_lt_of_le q1 ha.size, (World.cell?_of_block (w := w) (a := ⟨b, off + q, none⟩) (ha.block b (Nat.le_of_lt this) q1)).trans q2⟩⟩
theorem Nst.done {w : World} {U : Nat} {v : Value} {E : List (List Int)} {vs : List Value} (h : Nst w U v E vs) : ∃ a c, RTr w U E a c ∧ ∀ V : World, Agree w V U → RTr V U E a c := by
  have key : ∃ a c, v = .slice a E.length c ∧ ∀ V : World, Nst V U v E vs → RTr V U E a c := by
    rcases h.own.2 with ⟨e, hn⟩ | ⟨g, cap, cur, e, _⟩
    · refine ⟨none, 0, by rw [e, hn], fun V hV => ⟨?_, ⟨fun k hk => by omega⟩⟩⟩
      rw [cell_of_row _ _ _ _ _ _ hV.box, hn]
      simp [e]
    · refine ⟨_, cap, e, fun V hV => ⟨?_, ⟨fun k hk => ?_⟩⟩⟩
      · rw [cell_of_row _ _ _ _ _ _ hV.box, ← e]
        rfl
      · obtain ⟨a1, c1, h1, h2, _⟩ := hV.row k hk
        have h0 := hV.own
        rw [e] at h0
        refine ⟨g, 0, rfl, (World.ownsRow.lt h0 g rfl).2, a1, c1, ?_, h2⟩
        rw [Nat.zero_add, World.ownsRow.cellAt h0 k (by omega)]
        exact h1
  obtain ⟨a, c, _, hk⟩ := key
  exact ⟨a, c, hk w h, fun V hV => hk V (h.keep hV)⟩
set_option maxRecDepth 10000 in
set_option maxHeartbeats 1600000 in
theorem refNew_any (L : List (List Int)) (a : Option Addr) (ca : Nat) (w : World) (ha : RwA w a L) (hl : ∀ e ∈ L, e.length ≤ 1000000000) :
    Calls Tryd.prog 33 #[.slice a L.length ca] w fun r w' => RNewR w L r w' := by
  by_cases h2 : (L.length : Int) > 2000
  · have HR : Hid (RNewR w L (.returned (.tuple #[.pointer none, .int .i64 3])) w) := hid0 ⟨Below.refl _ _, .inl ⟨2, by unfold newE; rw [if_pos (by omega)], rfl⟩⟩
    clear ha hl
    go_enter Tryd.func33, Tryd.ntmps33
    go_wp2
    go_returns
    exact HR.out
  · have HA := hid0 ha
    have HL := hid0 hl
    have hL2 : L.length ≤ 2000 := by omega
    have HN0 := hid0 (Nst.nil w)
    have HNE : Hid (nwK [] L = newE L) := hid0 (by unfold newE; rw [if_neg (by omega)])
    obtain ⟨i0, hi, hz0, hz1, hz2⟩ := info_parts infoInts
    clear ha hl
    go_enter Tryd.func33, Tryd.ntmps33
    go_wp2
    go_loopw [5] (fun i wr => ∃ (k : Nat) (v : Value) (vs : List Value), k ≤ L.length ∧ i = .int .i64 (k : Int) ∧ Hid (Nst wr w.heap.size v (L.take k) vs) ∧ Hid (nwK (L.take k) (L.drop k) = newE L) ∧ Hid (Below w.heap.size w wr)) (fun i _ => L.length - (intOf i).toNat)
    case atStart => exact ⟨0, _, [], Nat.zero_le _, rfl, HN0, HNE, hid0 ((Below.refl _ _).alloc (Nat.le_refl _) _)⟩
    case round =>
      obtain ⟨k, v, vs, hk, rfl, HN, HE, HB⟩ := hrel
      clear HN0 HNE
      by_cases hlt : k < L.length
      · have hkI : (k : Int) < (L.length : Int) := by omega
        have hkI0 : (0 : Int) ≤ (k : Int) := by omega
        have HF := hid0 (fault_any L a ca k wr (HA.out.past HB.out) hlt (by omega) HL.out)
        rcases flt_cases hlt with ⟨j, hf, hn⟩ | ⟨hf, hn, hne, hel⟩
        · rw [hf] at HF
          have HR : Hid (∀ m, RNewR w L (.returned (.tuple #[.pointer none, .int .i64 ((j : Int) + 1)])) (wr.drewN m)) := hid0 (fun m => ⟨below_drew' HB.out m, .inl ⟨j, by rw [← HE.out, hn], rfl⟩⟩)
          have hj0 : ¬ (j : Int) + 1 = 0 := by omega
          have hj1 : (((j : Int) + 1) != 0) = true := by simp; omega
          have hj2 : (((j : Int) + 1) == 0) = false := by simp; omega
          clear hf hn HN HE HB HA HL
          go_wp2_with (go_at_call 51; go_loud ((
            refine HF.out.mono ?_
            rintro r w1 ⟨rfl, m1, rfl⟩)))
          go_returns
          exact HR.out _
        · rw [hf] at HF
          obtain ⟨b, off, e0, hbl, a1, c1, hc1, hia⟩ := (HA.out.past HB.out).at' k hlt
          have HXa := hid0 e0
          subst e0
          have HTk : Hid (L.take (k + 1) = L.take k ++ [L[k]]) := hid0 (by rw [List.take_add_one, List.getElem?_eq_getElem hlt]; rfl)
          have HE2 : Hid (nwK (L.take (k + 1)) (L.drop (k + 1)) = newE L) := hid0 (by rw [← hn]; exact HE.out)
          have HI := hid0 hia
          have HNn : Hid (a1 = none → c1 = 0) := hid0 (fun e => by
            obtain ⟨b', off', e', _⟩ := hia.at' 0 (List.length_pos_iff.2 hne)
            rw [e] at e'
            cases e')
          have HLe : Hid ((L.take k).length = k) := hid0 (by rw [List.length_take]; omega)
          have HF2 : Hid (Calls Tryd.prog 51 #[.slice (some ⟨b, off, none⟩) L.length ca, .int .i64 (k : Int)] wr fun r w' => r = .returned (.int .i64 0) ∧ Below wr.heap.size wr w') := hid0 (HF.out.mono (by
            rintro r w1 ⟨rfl, m1, rfl⟩
            exact ⟨rfl, below_drew' (Below.refl _ _) m1⟩))
          clear hf hn hia HF HE
          generalize L[k] = e at *
          have HCx : Hid (∀ V : World, Below wr.heap.size wr V → V.cell? ⟨b, off + k, none⟩ = some (.slice a1 e.length c1)) := hid0 (fun V hV => (hV.cell (p := ⟨b, off + k, none⟩) hbl).trans hc1)
          have hbs := HB.out.size
          have hUw : w.heap.size < wr.heap.size := (Array.getElem?_eq_some_iff.1 HN.out.box).1
          clear hc1 hbl hne HXa
          go_wp2_with (first
            | (have hq := HQ2.out; at_builtin; go_loud ((
                refine wpList_append_own_at _ rfl _ _ 22 rfl (w.heap.size + 1) 28 i0 (.slice none 0 0) 1 24 Tryd.underlying22 hi hz0 hz1 hz2 rfl (by decide) _ k vs rfl (World.ownsRow.alloc HOO.out _) ⟨w2.heap.size, 0, none⟩ 1 1 [.slice a2 e.length c2] rfl rfl (cell_one_new _ _ _) (by simp [Value.oneCell']) (by unfold maxLen; omega) (by omega) (by simp; omega) ?_
                intro v3 w3 hown3 hgrow3 _ hat3
                obtain ⟨g3, c3, rfl, _⟩ := own_form hown3 (by omega)
                obtain ⟨n1, n2, n3, n4⟩ := Nst.snoc HLe.out.symm HN1.out hq.1 hq.2.1 hq.2.2 hown3 hgrow3 hat3
                have HN3 := hid0 n1
                have HB3 := hid0 n2
                clear hown3 hgrow3 hat3 n1 n2 hq)))
            | (at_builtin; go_loud ((
                refine wpList_spreadT rfl _ _ rfl a1 e c1 w1.heap.size rfl rfl HNn.out (HI.out.past HB1.out) (by omega) (Nat.le_refl _) ?_
                intro v2 w2 hown2 hgrow2
                have hb2 := (Below.refl w1.heap.size w1).grown hgrow2 (Nat.le_refl _) (fun k hk => by cases hk)
                obtain ⟨a2, c2, rfl, hia2, hab2⟩ := OwnI.blk hown2
                have hs2 := hb2.size
                have HQ2 : Hid (Below w1.heap.size w1 w2 ∧ IA w2 a2 e ∧ ∀ p, a2 = some p → w1.heap.size ≤ p.block ∧ p.block < w2.heap.size) := hid0 ⟨hb2, hia2, hab2⟩
                have HOO : Hid (w2.ownsRow (w.heap.size + 1) 28 1 v k vs) := hid0 (by
                  have h := (HN1.out.past hb2).own
                  rw [HLe.out] at h
                  exact h)
                have hbx : w2.cell? ⟨w.heap.size, 0, none⟩ = some v := by rw [cell_of_row _ _ _ _ _ _ (HN1.out.past hb2).box]; rfl
                clear hown2 hgrow2 hb2 hia2 hab2)))
            | (go_at_call 51; go_loud ((
                refine HF2.out.mono ?_
                rintro r w1 ⟨rfl, hb1⟩
                have HB1 := hid0 hb1
                have hc1 := HCx.out w1 hb1
                have hs1 := hb1.size
                have HN1 := hid0 (HN.out.past hb1)
                clear hb1 HF2)))
            | fail)
          go_roundw
          case rel => exact ⟨k + 1, _, _, hlt, by go_num, by rw [HTk.out]; exact HN3, HE2, hid0 (HB.out.trans ((HB1.out.mono hbs).trans HB3.out))⟩
          case measure => simp [intOf]; omega
      · have hkI : ¬ (k : Int) < (L.length : Int) := by omega
        obtain ⟨a9, c9, hT⟩ := HN.out.done
        rw [List.take_of_length_le (by omega)] at hT
        have HR : Hid (RNewR w L (.returned (.tuple #[.pointer (some ⟨w.heap.size, 0, none⟩), .int .i64 0])) wr) := hid0 ⟨HB.out, .inr ⟨by rw [← HE.out, show k = L.length by omega, List.drop_length]; rfl, _, a9, c9, rfl, hT.1, hT.2⟩⟩
        clear hT HN HE HB
        go_wp2
        go_returns
        exact HR.out
end Go.Proofs.YtekimkdaoblcgaaDoor
namespace Go.Proofs.YtekimkdaoblcgaaDoor
open Go.RowKit Go.Shelf Go.Lib Go.Maps
theorem std_step {e l : List Int} {a k : Nat} (hk : k < e.length) (hl : a + e.length ≤ l.length) (h : (l.drop a).take k = e.take k) : (l.drop a).take (k + 1) = e.take (k + 1) ↔ l[a + k]'(by omega) = e[k] := by
  have hd : k < (l.drop a).length := by rw [List.length_drop]; omega
  rw [take_snoc hd, take_snoc hk, h, List.getElem_drop]
  constructor
  · intro q
    have := List.append_cancel_left q
    simpa using this
  · intro q
    rw [q]
theorem std_ne {e l : List Int} {a k : Nat} (hk : k ≤ e.length) (h : (l.drop a).take k ≠ e.take k) : stdB e l a = false := by
  refine decide_eq_false (fun q => h ?_)
  have h1 := congrArg (List.take k) q
  rw [List.take_take, Nat.min_eq_left hk] at h1
  exact h1
end Go.Proofs.YtekimkdaoblcgaaDoor
