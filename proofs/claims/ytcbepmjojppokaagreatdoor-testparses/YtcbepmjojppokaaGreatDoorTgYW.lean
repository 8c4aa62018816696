/-
  The walk of testfile.readFile (stage 23).
-/
import Derived.Test.YtcbepmjojppokaaGreatDoorTgYM
import Derived.Deep.CutRange
namespace Go.Proofs.YtcbepmjojppokaaGreatDoor
open Go.RowKit Go.Shelf Go.Lib Go.Maps
attribute [local go_sem] Oper.semAt_some
def actL (a : Act) (s q : Nat) (x : By) : Act := { tmps := (a.tmps.setIfInBounds s (.string (rd x))).setIfInBounds q (.string (rd x)), defers := [] }
/-- Four boxes and the text's. -/
theorem laid5 {w w' : World} {o1 o2 o3 o4 o5 : Array Value} {t1 t2 t3 t4 t5 : TypeId} (h : ((((w.alloc (.cells o1 t1)).alloc (.cells o2 t2)).alloc (.cells o3 t3)).alloc (.cells o4 t4)).alloc (.cells o5 t5) = w') :
    Below w.heap.size w w' ∧ w'.heap[w.heap.size]? = some (.cells o1 t1 (0, 0)) ∧ w'.heap[w.heap.size + 1]? = some (.cells o2 t2 (0, 0)) ∧ w'.heap[w.heap.size + 2]? = some (.cells o3 t3 (0, 0)) ∧ w'.heap[w.heap.size + 3]? = some (.cells o4 t4 (0, 0)) ∧ w'.heap[w.heap.size + 4]? = some (.cells o5 t5 (0, 0)) ∧ w'.heap.size = w.heap.size + 5 := by
  subst h
  have n0 := heap_alloc_new w (.cells o1 t1)
  have n1 := heap_alloc_new (w.alloc (.cells o1 t1)) (.cells o2 t2)
  have n2 := heap_alloc_new ((w.alloc (.cells o1 t1)).alloc (.cells o2 t2)) (.cells o3 t3)
  have n3 := heap_alloc_new (((w.alloc (.cells o1 t1)).alloc (.cells o2 t2)).alloc (.cells o3 t3)) (.cells o4 t4)
  have n4 := heap_alloc_new ((((w.alloc (.cells o1 t1)).alloc (.cells o2 t2)).alloc (.cells o3 t3)).alloc (.cells o4 t4)) (.cells o5 t5)
  simp only [World.size_alloc] at n1 n2 n3 n4
  refine ⟨?_, ?_, ?_, ?_, ?_, n4, by simp only [World.size_alloc]⟩
  · exact ((((((Below.refl _ w).alloc (Nat.le_refl _) _).alloc (by simp only [World.size_alloc]; omega) _).alloc (by simp only [World.size_alloc]; omega) _).alloc (by simp only [World.size_alloc]; omega) _).alloc (by simp only [World.size_alloc]; omega) _)
  · rw [Below.heap_alloc _ _ _ (by simp only [World.size_alloc]; omega), Below.heap_alloc _ _ _ (by simp only [World.size_alloc]; omega), Below.heap_alloc _ _ _ (by simp only [World.size_alloc]; omega), Below.heap_alloc _ _ _ (by simp only [World.size_alloc]; omega)]; exact n0
  · rw [Below.heap_alloc _ _ _ (by simp only [World.size_alloc]; omega), Below.heap_alloc _ _ _ (by simp only [World.size_alloc]; omega), Below.heap_alloc _ _ _ (by simp only [World.size_alloc]; omega)]; exact n1
  · rw [Below.heap_alloc _ _ _ (by simp only [World.size_alloc]; omega), Below.heap_alloc _ _ _ (by simp only [World.size_alloc]; omega)]; exact n2
  · rw [Below.heap_alloc _ _ _ (by simp only [World.size_alloc]; omega)]; exact n3
theorem PC.lower {W : World} {lo lo' : Nat} {v : Value} {VS : List Value} {C : List Cx} (h : PC W lo v VS C) (hl : lo' ≤ lo) : PC W lo' v VS C :=
  ⟨owns_lower h.own hl, fun i hi => by
    obtain ⟨vP, vB, h1, h2, h3, h4⟩ := h.at' i hi
    exact ⟨vP, vB, h1, h2, owns_lower h3 hl, owns_lower h4 hl⟩, h.apart, h.lt⟩
/-- What readFile answers. -/
def RfO (A : Nat → Addr) (w : World) (s : By) (e : Ending) (w' : World) : Prop :=
  match parF 0 [] ((rawL s).map bareN) with
  | .ok C => ∃ v VS, e = .returned (.tuple #[v, .nilIface]) ∧ PC w' w.heap.size v VS C ∧ Below w.heap.size w w'
  | .bad k i => e = .returned (.tuple #[.slice none 0 0, flt (k : Int) (A i)]) ∧ Below w.heap.size w w'
/-- Behind the making of a reader. -/
def RegO (w W1 : World) (s x : By) (n : Nat) : Exit → Act → World → Prop := fun e a' V => e = .normal ∧ ∃ w0, a' = { tmps := #[.string (rd s), undef, .pointer (some ⟨w.heap.size, 0, none⟩), .pointer (some ⟨w.heap.size + 1, 0, none⟩), .pointer (some ⟨w.heap.size + 1 + 1, 0, none⟩), .pointer (some ⟨w.heap.size + 1 + 1 + 1, 0, none⟩), .string (rd x), .pointer (some ⟨w0.heap.size, 0, none⟩), undef, .string (rd s), .func (.func 43) #[] #[.pointer (some ⟨w.heap.size + 1 + 1 + 1 + 1, 0, none⟩)], .string (rd x), .int .i64 (n : Int), .int .i64 ((n : Int) + 1), .int .i64 ((n : Int) + 1), .string (rd x), .string (rd (bareN x)), .agg #[.int .i64 ((n : Int) + 1), .string (rd (bareN x)), .nilFunc, .slice none 0 0, .slice none 0 0], undef, undef, undef, undef, undef, undef, undef, undef, undef, undef, undef, undef, undef, undef, undef, undef, undef, undef], defers := [] } ∧ Hid (Below W1.heap.size W1 w0 ∧ RSt w0 V ((n : Int) + 1) (bareN x) .nilFunc [] [] (.slice none 0 0) (.slice none 0 0))
theorem bareOf_len (l : By) : (bareOf l).length ≤ l.length := by
  unfold bareOf trimB
  rw [List.length_reverse]
  have h1 := (List.dropWhile_sublist isBl (l := ((l.takeWhile fun c => c != 35).dropWhile isBl).reverse)).length_le
  have h2 := (List.dropWhile_sublist isBl (l := l.takeWhile fun c => c != 35)).length_le
  have h3 := (List.takeWhile_sublist (fun c : UInt8 => c != 35) (l := l)).length_le
  rw [List.length_reverse] at h1
  omega
theorem chopR_len (l : By) : (chopR l).length ≤ l.length := by unfold chopR; split <;> simp
theorem bareN_len (l : By) : (bareN l).length ≤ l.length := by
  unfold bareN
  split
  · have h1 := bareOf_len (chopR (Lib.trimSuffix l [10]))
    have h2 := chopR_len (Lib.trimSuffix l [10])
    have h3 : (Lib.trimSuffix l [10]).length ≤ l.length := by unfold Lib.trimSuffix; split <;> simp
    omega
  · exact bareOf_len l
theorem store_new (V : World) (n : Int) (S : ByteArray) : (store ⟨V.heap.size, 2, none⟩ .nilFunc).run Tryz.prog (V.alloc (.cells #[.int .i64 n, .string S, .nilFunc, .slice none 0 0, .slice none 0 0] 62)) = .ok () (V.alloc (.cells #[.int .i64 n, .string S, .nilFunc, .slice none 0 0, .slice none 0 0] 62)) := by
  have h := heap_alloc_new V (.cells #[.int .i64 n, .string S, .nilFunc, .slice none 0 0, .slice none 0 0] 62)
  have hc : (V.alloc (.cells #[.int .i64 n, .string S, .nilFunc, .slice none 0 0, .slice none 0 0] 62)).cell? ⟨V.heap.size, 2, none⟩ = some .nilFunc := by rw [cell_of_row _ _ _ _ _ _ h]; rfl
  rw [store_nf _ _ _ hc (frozen_of_row _ _ _ _ _ h), setCell_self h rfl]
/-- A reader's box that was made ahead of a call. -/
theorem box_after {W V1 : World} (n : Int) (S : ByteArray) (h : Below (W.alloc (.cells #[.int .i64 0, .string ⟨#[]⟩, .nilFunc, .slice none 0 0, .slice none 0 0] 62)).drew.heap.size (W.alloc (.cells #[.int .i64 0, .string ⟨#[]⟩, .nilFunc, .slice none 0 0, .slice none 0 0] 62)).drew V1) :
    V1.cell? ⟨W.heap.size, 0, none⟩ = some (.int .i64 0) ∧ V1.cell? ⟨W.heap.size, 1, none⟩ = some (.string ⟨#[]⟩) ∧ V1.cell? ⟨W.heap.size, 2, none⟩ = some .nilFunc ∧ V1.cell? ⟨W.heap.size, 3, none⟩ = some (.slice none 0 0) ∧ V1.cell? ⟨W.heap.size, 4, none⟩ = some (.slice none 0 0) ∧ V1.frozen? ⟨W.heap.size, 0, none⟩ = false ∧ V1.frozen? ⟨W.heap.size, 1, none⟩ = false ∧ V1.frozen? ⟨W.heap.size, 3, none⟩ = false ∧ V1.frozen? ⟨W.heap.size, 4, none⟩ = false ∧
    (store ⟨W.heap.size, 2, none⟩ .nilFunc).run Tryz.prog ((V1.setCell ⟨W.heap.size, 0, none⟩ (.int .i64 n)).setCell ⟨W.heap.size, 1, none⟩ (.string S)) = .ok () ((V1.setCell ⟨W.heap.size, 0, none⟩ (.int .i64 n)).setCell ⟨W.heap.size, 1, none⟩ (.string S)) ∧
    Hid (((V1.setCell ⟨W.heap.size, 0, none⟩ (.int .i64 n)).setCell ⟨W.heap.size, 1, none⟩ (.string S)).heap[W.heap.size]? = some (.cells #[.int .i64 n, .string S, .nilFunc, .slice none 0 0, .slice none 0 0] 62 (0, 0)) ∧ Below W.heap.size W ((V1.setCell ⟨W.heap.size, 0, none⟩ (.int .i64 n)).setCell ⟨W.heap.size, 1, none⟩ (.string S))) ∧ Below W.heap.size W V1 := by
  have h0 : (W.alloc (.cells #[.int .i64 0, .string ⟨#[]⟩, .nilFunc, .slice none 0 0, .slice none 0 0] 62)).drew.heap[W.heap.size]? = some (.cells #[.int .i64 0, .string ⟨#[]⟩, .nilFunc, .slice none 0 0, .slice none 0 0] 62 (0, 0)) := heap_alloc_new W _
  have h1 : V1.heap[W.heap.size]? = some (.cells #[.int .i64 0, .string ⟨#[]⟩, .nilFunc, .slice none 0 0, .slice none 0 0] 62 (0, 0)) := (h.block _ (Array.getElem?_eq_some_iff.1 h0).1).trans h0
  have h2 := heap_setCell_same _ _ 1 _ _ (.string S) (heap_setCell_same V1 W.heap.size 0 _ _ (.int .i64 n) h1)
  have h3 : ((V1.setCell ⟨W.heap.size, 0, none⟩ (.int .i64 n)).setCell ⟨W.heap.size, 1, none⟩ (.string S)).cell? ⟨W.heap.size, 2, none⟩ = some .nilFunc := by rw [cell_of_row _ _ _ _ _ _ h2]; rfl
  have c : ∀ j : Nat, V1.cell? ⟨W.heap.size, j, none⟩ = (#[Value.int .i64 0, .string ⟨#[]⟩, .nilFunc, .slice none 0 0, .slice none 0 0] : Array Value)[j]? := fun j => by rw [cell_of_row _ _ _ _ _ _ h1]
  have f : ∀ j : Nat, V1.frozen? ⟨W.heap.size, j, none⟩ = false := fun j => frozen_of_row _ _ _ _ _ h1
  have hb : Below W.heap.size W V1 := by
    have hd : Below W.heap.size W (W.alloc (.cells #[.int .i64 0, .string ⟨#[]⟩, .nilFunc, .slice none 0 0, .slice none 0 0] 62)).drew := ((Below.refl _ W).alloc (Nat.le_refl _) _).drew
    exact hd.trans (h.mono hd.size)
  refine ⟨c 0, c 1, c 2, c 3, c 4, f 0, f 1, f 3, f 4, ?_, hid0 ⟨h2, (hb.setCell (p := ⟨W.heap.size, 0, none⟩) (Nat.le_refl _) _).setCell (p := ⟨W.heap.size, 1, none⟩) (Nat.le_refl _) _⟩, hb⟩
  rw [store_nf _ _ _ h3 (frozen_of_row _ _ _ _ _ h2), setCell_self h2 rfl]
theorem reg_late {w W1 V1 : World} {s x : By} {n : Nat} (h : Below W1.heap.size W1 V1) : RegO w W1 s x n .normal { tmps := #[.string (rd s), undef, .pointer (some ⟨w.heap.size, 0, none⟩), .pointer (some ⟨w.heap.size + 1, 0, none⟩), .pointer (some ⟨w.heap.size + 1 + 1, 0, none⟩), .pointer (some ⟨w.heap.size + 1 + 1 + 1, 0, none⟩), .string (rd x), .pointer (some ⟨V1.heap.size, 0, none⟩), undef, .string (rd s), .func (.func 43) #[] #[.pointer (some ⟨w.heap.size + 1 + 1 + 1 + 1, 0, none⟩)], .string (rd x), .int .i64 (n : Int), .int .i64 ((n : Int) + 1), .int .i64 ((n : Int) + 1), .string (rd x), .string (rd (bareN x)), .agg #[.int .i64 ((n : Int) + 1), .string (rd (bareN x)), .nilFunc, .slice none 0 0, .slice none 0 0], undef, undef, undef, undef, undef, undef, undef, undef, undef, undef, undef, undef, undef, undef, undef, undef, undef, undef], defers := [] } (V1.alloc (.cells #[.int .i64 ((n : Int) + 1), .string (rd (bareN x)), .nilFunc, .slice none 0 0, .slice none 0 0] 62)) :=
  ⟨rfl, V1, rfl, hid0 ⟨h, heap_alloc_new V1 _, World.ownsRow_nil _ _ _ _, World.ownsRow_nil _ _ _ _, (fun _ h => nomatch h), (Below.refl _ _).alloc (Nat.le_refl _) _⟩⟩
theorem reg_soon {w W1 V2 : World} {s x : By} {n : Nat} (h : Hid (V2.heap[W1.heap.size]? = some (.cells #[.int .i64 ((n : Int) + 1), .string (rd (bareN x)), .nilFunc, .slice none 0 0, .slice none 0 0] 62 (0, 0)) ∧ Below W1.heap.size W1 V2)) : RegO w W1 s x n .normal { tmps := #[.string (rd s), undef, .pointer (some ⟨w.heap.size, 0, none⟩), .pointer (some ⟨w.heap.size + 1, 0, none⟩), .pointer (some ⟨w.heap.size + 1 + 1, 0, none⟩), .pointer (some ⟨w.heap.size + 1 + 1 + 1, 0, none⟩), .string (rd x), .pointer (some ⟨W1.heap.size, 0, none⟩), undef, .string (rd s), .func (.func 43) #[] #[.pointer (some ⟨w.heap.size + 1 + 1 + 1 + 1, 0, none⟩)], .string (rd x), .int .i64 (n : Int), .int .i64 ((n : Int) + 1), .int .i64 ((n : Int) + 1), .string (rd x), .string (rd (bareN x)), .agg #[.int .i64 ((n : Int) + 1), .string (rd (bareN x)), .nilFunc, .slice none 0 0, .slice none 0 0], undef, undef, undef, undef, undef, undef, undef, undef, undef, undef, undef, undef, undef, undef, undef, undef, undef, undef], defers := [] } ((V2.setCell ⟨W1.heap.size, 3, none⟩ (.slice none 0 0)).setCell ⟨W1.heap.size, 4, none⟩ (.slice none 0 0)) :=
  ⟨rfl, W1, rfl, hid0 ⟨Below.refl _ _, heap_setCell_same _ _ 4 _ _ (.slice none 0 0) (heap_setCell_same _ _ 3 _ _ (.slice none 0 0) h.out.1), World.ownsRow_nil _ _ _ _, World.ownsRow_nil _ _ _ _, (fun _ h => nomatch h), (h.out.2.setCell (p := ⟨W1.heap.size, 3, none⟩) (Nat.le_refl _) _).setCell (p := ⟨W1.heap.size, 4, none⟩) (Nat.le_refl _) _⟩⟩
/-- An append whose run is known, inside a fence. -/
theorem wpListIn_run {F : Fence} {n : Nat} {P : Program} {ops : Array Oper} {rest : List Oper} {op : Oper} {a : Act} {w : World} {Q : Exit → Act → World → Prop} (hgd : op.guard = none) (s x : Operand) (t : TypeId)
    (ho : op.op = .call { callee := .builtin .append, args := #[s, x], argTypes := #[t, t] }) (vs vx : Value) (hs : a.eval s = vs) (hx : a.eval x = vx) {v' : Value} {w' : World}
    (hr : (Builtin.append_ #[t, t] op.type #[vs, vx]).run P w = .ok v' w') (h : wpListIn F n P ops Q rest (a.put op.dst v') w') : wpListIn F n P ops Q (op :: rest) a w := by
  refine wpListIn_plain hgd fun K hK => ?_
  unfold Oper.wpIn
  refine ⟨?_, ?_⟩
  · simp [Oper.about, ho, resolve, Target.leads, go_sem]
  · rw [Oper.semAt_plain F _ _ (by rw [ho]; intro c hc'; cases hc')]
    simp only [execOp, ho, resolve, invoke, builtin, Sem.run_bind, Sem.run_pure, Result.andThen_ok, List.map_toArray, List.map_cons, List.map_nil, hs, hx, hr]
    exact hK _ _ h
theorem wpIn_rangeLines' {gop : Operand} {sl : Tmp} {assign body : Code} {Q : Exit → Act → World → Prop} {a : Act} {w : World} (q n : Nat) (hn : 2 ≤ n) (g : Nat) (s : By) (hs : s.length ≤ 1048576) (ok : List By → Bool) (hok : ok [] = true)
    (hg : a.eval gop = .func (.func 43) #[] #[.pointer (some ⟨g, 0, none⟩)])
    (J : List By → World → Prop)
    (hJk : ∀ pre A B, J pre A → Only A B (fun k => k = w.heap.size ∨ k = w.heap.size + 1) → Kc0 A B → J pre B)
    (hJg : ∀ pre A v, J pre A → J pre (A.setCell ⟨g, 0, none⟩ v)) (hgl : g < w.heap.size)
    (h0 : J [] w) (hbox : LBox g s w)
    (hassign : ∀ (lp : Nat) (x : By) (W : World) (K : Act → World → Prop), K (actL a sl q x) W → assign.wpIn (Fence.wide.inRound lp) (n - 1 - 1) Tryz.prog (Exit.then K (fun _ _ _ => False)) { tmps := a.tmps.setIfInBounds sl (.string (rd x)), defers := [] } W)
    (hbody : ∀ (lp : Nat) (pre : List By) (x : By) (v : Bool) (W : World), J pre W → ok pre = true → ok (pre ++ [x]) = v → (∃ r, pre ++ x :: r = rawL s) → (W.heap[w.heap.size]? = some (.deferred (some [])) ∧ ∃ rc, W.heap[w.heap.size + 1]? = some (.loop rc)) →
      body.wpIn (Fence.wide.inRound lp) (n - 1 - 1) Tryz.prog (fun e _ W' => e = (if v then .normal else .ret) ∧ J (pre ++ [x]) W' ∧ W'.heap[w.heap.size]? = W.heap[w.heap.size]? ∧ W'.heap[w.heap.size + 1]? = W.heap[w.heap.size + 1]? ∧ W'.heap[g]? = W.heap[g]?) (actL a sl q x) W)
    (hdone : ∀ W, J (rawL s) W → ok (rawL s) = true → W.heap[w.heap.size]? = some (.deferred (some [])) → Q .normal { a with defers := markD w.heap.size :: a.defers } W)
    (hret : ∀ pre W, J pre W → ok pre = false → (∃ r, pre ++ r = rawL s) → W.heap[w.heap.size]? = some (.deferred (some [])) → Q .ret { a with defers := markD w.heap.size :: a.defers } W) :
    (Code.rangeFunc gop #[sl] assign body).wpIn Fence.wide n Tryz.prog Q a w :=
  wpIn_rangeLines n hn g s hs ok hok hg rfl J hJk hJg hgl h0 hbox (actL a sl q) (fun l x W K hK => by simpa using hassign l x W K hK) hbody hdone hret
set_option maxRecDepth 100000 in
set_option maxHeartbeats 4000000 in
theorem readFile_any (s : By) (A : Nat → Addr) (w : World) (hs : s.length ≤ 1048576) (hA : Sents w A) (hSy : Syn w) :
    Calls Tryz.prog 15 #[.string (rd s)] w fun e w' => Hid (RfO A w s e w') := by
  obtain ⟨W0, hW0⟩ : ∃ W0, ((((w.alloc (.cells #[.slice none 0 0] 22)).alloc (.cells #[.nilIface] 24)).alloc (.cells #[.slice none 0 0] 22)).alloc (.cells #[.int .i64 0] 3)).alloc (.cells #[.string (rd s)] 9) = W0 := ⟨_, rfl⟩
  obtain ⟨bb, b0, b1, b2, b3, b4, bs⟩ := laid5 hW0
  have HB := hid0 bb
  have HBs := hid0 bs
  have HBox : Hid (LBox (w.heap.size + 4) s W0) := hid0 b4
  have HJ0 : Hid (RfJ w A (W0.heap.size + 2) [] W0) := hid0 ⟨bb, fun _ => ⟨_, [], [], b0, b1, b2, b3, PC.nil _ _, rfl⟩, fun h => nomatch h⟩
  have HAe := hid0 hA
  have HSy := hid0 hSy
  have HL := hid0 hs
  clear b0 b1 b2 b3 b4 bs bb hA hSy hs
  refine (callsIn_wide (n := 8)).1 ?_
  refine callsIn_of_wp_marks Tryz.func15 rfl trivial ?_ rfl
  simp only [Tryz.ntmps15, List.size_toArray, List.length_cons, List.length_nil, Nat.reduceAdd, Nat.reduceSub, Array.replicate_succ, Array.replicate_zero, List.push_toArray, List.append_toArray, List.nil_append, List.cons_append]
  gi_wp2_with (first
    | (refine ⟨trivial, ?_⟩; gi_at_call 25; refine (lines_in0 _ _ _).mono ?_; rintro e w' ⟨rfl, hw'⟩)
    | fail)
  rw [hW0] at hw'
  subst hw'
  clear hW0
  refine wpIn_rangeLines' 6 8 (by omega) (w.heap.size + 4) s HL.out okL okL_nil rfl (RfJ w A (w'.heap.size + 2)) ?keep ?keepg (by have := HBs.out; omega) HJ0.out HBox.out ?assign ?body ?done ?ret
  case keep =>
    intro pre X Y hX ho _
    exact hX.keep ho (fun k hk => by have := HBs.out; omega)
  case keepg =>
    intro pre X v hX
    exact hX.keep (Only.setCell X (w.heap.size + 4) 0 v) (fun k hk => by have := HBs.out; omega)
  case assign =>
    intro l x W K hK
    simp only [actL, List.setIfInBounds_toArray, List.set_cons_succ, List.set_cons_zero] at hK ⊢
    gi_wp2
    exact hK
  case body =>
    rintro lp pre x v W hJ hok1 hv hx ⟨hd, rc, hlo⟩
    simp only [actL, List.setIfInBounds_toArray, List.set_cons_succ, List.set_cons_zero]
    obtain ⟨vL, VS, C, y0, y1, y2, y3, hPC, hpar⟩ := hJ.yes hok1
    have z3 : W.cell? ⟨w.heap.size + 3, 0, none⟩ = some (.int .i64 (pre.length : Int)) := by rw [cell_of_row _ _ _ _ _ _ y3]; rfl
    have g3 : W.frozen? ⟨w.heap.size + 3, 0, none⟩ = false := frozen_of_row _ _ _ _ _ y3
    have hcnt : (rawL s).length ≤ 1048577 := by have := rawGo_cnt s []; have := HL.out; show (rawGo [] s).length ≤ _; omega
    have hpl : pre.length ≤ 1048577 := by
      obtain ⟨r, hr⟩ := hx
      have := congrArg List.length hr
      simp at this
      omega
    have hxl : x.length ≤ 1048576 := by
      obtain ⟨r, hr⟩ := hx
      have := rawGo_len s [] x (by show x ∈ rawL s; rw [← hr]; simp)
      have := HL.out
      simp at *
      omega
    have hW1o := Only.setCell W (w.heap.size + 3) 0 (.int .i64 ((pre.length : Int) + 1))
    have hWsz : w'.heap.size + 2 ≤ W.heap.size := by have := (Array.getElem?_eq_some_iff.1 hlo).1; omega
    have HBr : Hid (∀ V, Calls Tryz.prog 26 #[.string (rd x)] V fun e w' => e = .returned (.string (rd (bareN x))) ∧ Below V.heap.size V w') := hid0 (fun V => bare_any x (by omega) V)
    have HJW := hid0 hJ
    have HD := hid0 (And.intro hd hlo)
    have HY := hid0 (And.intro y0 (And.intro y1 y2))
    have HPC := hid0 hPC
    have HPar := hid0 hpar
    have HV := hid0 hv
    have HX := hid0 hx
    have HOk := hid0 hok1
    clear hJ hd hlo y0 y1 y2 hPC hpar hv hx hok1 hcnt
    gi_wp2
    obtain ⟨W1, hW1⟩ : ∃ W1, W1 = W.setCell ⟨w.heap.size + 1 + 1 + 1, 0, none⟩ (.int .i64 ((pre.length : Int) + 1)) := ⟨_, rfl⟩
    have h3 : W1.heap[w.heap.size + 1 + 1 + 1]? = some (.cells #[.int .i64 ((pre.length : Int) + 1)] 3 (0, 0)) := by rw [hW1]; exact heap_setCell_same W _ 0 _ _ _ y3
    have HO1 : Hid (Only W W1 (fun k => k = w.heap.size + 3)) := hid0 (by rw [hW1]; exact hW1o)
    rw [← hW1]
    have HY3 := hid0 h3
    have c3 : W1.cell? ⟨w.heap.size + 1 + 1 + 1, 0, none⟩ = some (.int .i64 ((pre.length : Int) + 1)) := by rw [cell_of_row _ _ _ _ _ _ h3]; rfl
    clear hW1 h3 z3 g3 y3 hW1o
    refine wpIn_mono (Q := RegO w W1 s x pre.length) ?first ?rest
    case first =>
      have hmx : Tryz.prog.follows .mixedOrders = true := by kernel_rfl
      have hlt3 := (Array.getElem?_eq_some_iff.1 HY3.out).1
      have c3a : (W1.alloc (.cells #[.int .i64 0, .string ⟨#[]⟩, .nilFunc, .slice none 0 0, .slice none 0 0] 62)).drew.cell? ⟨w.heap.size + 1 + 1 + 1, 0, none⟩ = some (.int .i64 ((pre.length : Int) + 1)) := (((Below.refl _ W1).alloc (Nat.le_refl _) (.cells #[.int .i64 0, .string ⟨#[]⟩, .nilFunc, .slice none 0 0, .slice none 0 0] 62)).cell (p := ⟨w.heap.size + 1 + 1 + 1, 0, none⟩) hlt3).trans c3
      have c3b : (W1.alloc (.cells #[.int .i64 0, .string ⟨#[]⟩, .nilFunc, .slice none 0 0, .slice none 0 0] 62)).cell? ⟨w.heap.size + 1 + 1 + 1, 0, none⟩ = some (.int .i64 ((pre.length : Int) + 1)) := c3a
      have HC3 : Hid (∀ V, Below W1.heap.size W1 V → V.cell? ⟨w.heap.size + 1 + 1 + 1, 0, none⟩ = some (.int .i64 ((pre.length : Int) + 1))) := hid0 (fun V hV => (hV.cell (p := ⟨w.heap.size + 1 + 1 + 1, 0, none⟩) hlt3).trans c3)
      have hst := fun V : World => store_new V ((pre.length : Int) + 1) (rd (bareN x))
      gi_region_with_o (first
        | (refine ⟨trivial, ?_⟩; gi_at_call 26; refine (CallsIn.inRound lp (callsIn_wide.2 (HBr.out _))).mono ?_; rintro e V1 ⟨rfl, hV1⟩; (first | (with_reducible change Below _ (World.drew (World.alloc _ _)) _ at hV1; obtain ⟨q0, q1, q2, q3, q4, r0, r1, r3, r4, qs, HQ, hbV⟩ := box_after ((pre.length : Int) + 1) (rd (bareN x)) hV1; have c3c := HC3.out _ hbV) | (have c3d := HC3.out V1 ((Below.refl _ W1).drew.trans hV1); have c3e := HC3.out (V1.alloc (.cells #[.int .i64 0, .string ⟨#[]⟩, .nilFunc, .slice none 0 0, .slice none 0 0] 62)) (((Below.refl _ W1).drew.trans hV1).alloc ((Below.refl _ W1).drew.trans hV1).size _)) | skip))
        | fail)
      all_goals first
        | exact reg_late ((Below.refl _ W1).drew.trans hV1)
        | exact reg_soon HQ
    case rest =>
      rintro e a' V ⟨rfl, w0, rfl, H0⟩
      have HBW1 : Hid (Below w.heap.size w W1) := hid0 (HJW.out.bel.trans (HO1.out.below HJW.out.bel.size (fun k hk => by omega)))
      have HPC1 : Hid (PC W1 (w'.heap.size + 2) vL VS C) := hid0 (HPC.out.agree ⟨HO1.out.size, fun k h1 h2 => HO1.out.block k h2 (fun e => by have := HBs.out; omega)⟩)
      have HY1 : Hid (W1.heap[w.heap.size]? = some (.cells #[.slice none 0 0] 22 (0, 0)) ∧ W1.heap[w.heap.size + 1]? = some (.cells #[.nilIface] 24 (0, 0)) ∧ W1.heap[w.heap.size + 2]? = some (.cells #[vL] 22 (0, 0)) ∧ W1.heap[w'.heap.size]? = some (.deferred (some [])) ∧ W1.heap[w'.heap.size + 1]? = some (.loop rc)) := hid0 (by
        have h := HBs.out
        have k : ∀ i o, ¬ i = w.heap.size + 3 → W.heap[i]? = some o → W1.heap[i]? = some o := fun i o hi ho => (HO1.out.block i (Array.getElem?_eq_some_iff.1 ho).1 hi).trans ho
        exact ⟨k _ _ (by omega) HY.out.1, k _ _ (by omega) HY.out.2.1, k _ _ (by omega) HY.out.2.2, k _ _ (by omega) HD.out.1, k _ _ (by omega) HD.out.2⟩)
      have HG1 : Hid (W1.heap[w.heap.size + 4]? = W.heap[w.heap.size + 4]?) := hid0 (HO1.out.block _ (by have := HBs.out; omega) (by omega))
      have HW1s : Hid (w'.heap.size + 2 ≤ W1.heap.size) := hid0 (Nat.le_trans hWsz HO1.out.size)
      have HStep : Hid (parF 0 [] ((pre ++ [x]).map bareN) = stepP pre.length C (bareN x)) := hid0 (by
        rw [List.map_append, List.map_singleton, parF_snoc, HPar.out, List.length_map]
        simp)
      obtain ⟨hbW, hR⟩ := H0.out
      have HbW := hid0 hbW
      have HR := hid0 hR
      obtain ⟨_, z1, _, _, _, _⟩ := hR.boxc
      clear H0 hbW hR c3 HBr
      have hlo : w'.heap.size + 2 ≤ w0.heap.size := Nat.le_trans HW1s.out HbW.out.size
      -- what stays of the beginning, in each later world
      have HAt : Hid (∀ V', Below w0.heap.size w0 V' → Below W1.heap.size W1 V') := hid0 (fun V' h => HbW.out.trans (h.mono HbW.out.size))
      by_cases hb0 : bareN x = []
      · have hE2 : (rd (bareN x)).toList.isEmpty = true := by rw [ByteArray.toList_eq, hb0]; rfl
        have hokv : v = true := by
          rw [← HV.out]
          unfold okL
          rw [HStep.out, hb0, stepP_nil]
        have HJ2 : Hid (RfJ w A (w'.heap.size + 2) (pre ++ [x]) V) := hid0 (by
          have hB := HAt.out V HR.out.bel
          have k : ∀ i o, W1.heap[i]? = some o → V.heap[i]? = some o := fun i o ho => (hB.block i (Array.getElem?_eq_some_iff.1 ho).1).trans ho
          refine ⟨HBW1.out.trans (hB.mono HBW1.out.size), fun _ => ⟨vL, VS, C, k _ _ HY1.out.1, k _ _ HY1.out.2.1, k _ _ HY1.out.2.2.1, ?_, HPC1.out.past hB, by rw [HStep.out, hb0, stepP_nil]⟩, fun h => by rw [HV.out, hokv] at h; cases h⟩
          have := k _ _ HY3.out
          rw [List.length_append, List.length_singleton]
          exact this)
        have HFr : Hid (V.heap[w'.heap.size]? = W.heap[w'.heap.size]? ∧ V.heap[w'.heap.size + 1]? = W.heap[w'.heap.size + 1]? ∧ V.heap[w.heap.size + 4]? = W.heap[w.heap.size + 4]?) := hid0 (by
          have hB := HAt.out V HR.out.bel
          have hs := HBs.out
          have h1 := HW1s.out
          refine ⟨(hB.block _ (by omega)).trans ?_, (hB.block _ (by omega)).trans ?_, (hB.block _ (by omega)).trans HG1.out⟩
          · rw [HY1.out.2.2.2.1, HD.out.1]
          · rw [HY1.out.2.2.2.2, HD.out.2])
        subst hokv
        generalize rd (bareN x) = RB at *
        clear hb0
        gi_wp2
        exact ⟨HJ2.out, HFr.out⟩
      · have hE2 : (rd (bareN x)).toList.isEmpty = false := by
          rw [ByteArray.toList_eq]
          cases hbx : bareN x with
          | nil => exact absurd hbx hb0
          | cons c r => rfl
        have hBw0 : Below w.heap.size w w0 := HBW1.out.trans (HbW.out.mono HBW1.out.size)
        have hA0 := HAe.out.below hBw0
        have HRd := hid0 (read_any w0 V ((pre.length : Int) + 1) (bareN x) .nilFunc (.slice none 0 0) (.slice none 0 0) (A 0) (A 1) HR.out (by have := bareN_len x; omega) hA0.c1 hA0.c0 (Syn.below HSy.out hBw0))
        have HStep2 : Hid (stepP pre.length C (bareN x) = match lnS (bareN x) with | none => .bad (pre.length + 1) 1 | some y => if y.1.all scalarP = true then (if C.length = 20000 then .bad (pre.length + 1) 2 else .ok (C ++ [y])) else .bad (pre.length + 1) 0) := hid0 (by unfold stepP; rw [if_neg hb0]; rcases lnS (bareN x) with _ | y <;> rfl)
        -- a line that is refused
        have HBad : Hid (∀ (i : Nat) V2, stepP pre.length C (bareN x) = .bad (pre.length + 1) i → Below w0.heap.size w0 V2 → v = false ∧
            (V2.cell? ⟨w.heap.size, 0, none⟩ = some (.slice none 0 0) ∧ V2.frozen? ⟨w.heap.size, 0, none⟩ = false ∧ V2.cell? ⟨w.heap.size + 1, 0, none⟩ = some .nilIface ∧ V2.frozen? ⟨w.heap.size + 1, 0, none⟩ = false) ∧
            (RfJ w A (w'.heap.size + 2) (pre ++ [x]) ((V2.setCell ⟨w.heap.size, 0, none⟩ (.slice none 0 0)).setCell ⟨w.heap.size + 1, 0, none⟩ (flt ((pre.length : Int) + 1) (A i))) ∧
              ((V2.setCell ⟨w.heap.size, 0, none⟩ (.slice none 0 0)).setCell ⟨w.heap.size + 1, 0, none⟩ (flt ((pre.length : Int) + 1) (A i))).heap[w'.heap.size]? = W.heap[w'.heap.size]? ∧ ((V2.setCell ⟨w.heap.size, 0, none⟩ (.slice none 0 0)).setCell ⟨w.heap.size + 1, 0, none⟩ (flt ((pre.length : Int) + 1) (A i))).heap[w'.heap.size + 1]? = W.heap[w'.heap.size + 1]? ∧ ((V2.setCell ⟨w.heap.size, 0, none⟩ (.slice none 0 0)).setCell ⟨w.heap.size + 1, 0, none⟩ (flt ((pre.length : Int) + 1) (A i))).heap[w.heap.size + 4]? = W.heap[w.heap.size + 4]?)) := hid0 (fun i V2 hs hb => by
          have hB := HAt.out V2 hb
          have k : ∀ j o, W1.heap[j]? = some o → V2.heap[j]? = some o := fun j o ho => (hB.block j (Array.getElem?_eq_some_iff.1 ho).1).trans ho
          have k0 := k _ _ HY1.out.1
          have k1 := k _ _ HY1.out.2.1
          have hvf : v = false := by
            rw [← HV.out]
            unfold okL
            rw [HStep.out, hs]
          have ho : ∀ j, ¬ j = w.heap.size → ¬ j = w.heap.size + 1 → ((V2.setCell ⟨w.heap.size, 0, none⟩ (.slice none 0 0)).setCell ⟨w.heap.size + 1, 0, none⟩ (flt ((pre.length : Int) + 1) (A i))).heap[j]? = V2.heap[j]? := fun j h1 h2 => (Below.heap_setCell _ _ _ j h2).trans (Below.heap_setCell _ _ _ j h1)
          have r0 : ((V2.setCell ⟨w.heap.size, 0, none⟩ (.slice none 0 0)).setCell ⟨w.heap.size + 1, 0, none⟩ (flt ((pre.length : Int) + 1) (A i))).heap[w.heap.size]? = some (.cells #[.slice none 0 0] 22 (0, 0)) := (Below.heap_setCell _ _ _ _ (by simp)).trans (heap_setCell_same V2 _ 0 _ _ _ k0)
          have r1 : ((V2.setCell ⟨w.heap.size, 0, none⟩ (.slice none 0 0)).setCell ⟨w.heap.size + 1, 0, none⟩ (flt ((pre.length : Int) + 1) (A i))).heap[w.heap.size + 1]? = some (.cells #[flt ((pre.length : Int) + 1) (A i)] 24 (0, 0)) := heap_setCell_same _ _ 0 _ _ _ ((Below.heap_setCell V2 _ _ _ (by simp)).trans k1)
          have hs5 := HBs.out
          have hs1 := HW1s.out
          refine ⟨hvf, ⟨by rw [cell_of_row _ _ _ _ _ _ k0]; rfl, frozen_of_row _ _ _ _ _ k0, by rw [cell_of_row _ _ _ _ _ _ k1]; rfl, frozen_of_row _ _ _ _ _ k1⟩, ⟨?_, (fun h => by rw [HV.out, hvf] at h; cases h), fun _ => ⟨pre.length + 1, i, r0, r1, by rw [HStep.out, hs]⟩⟩, ?_, ?_, ?_⟩
          · exact ((HBW1.out.trans (hB.mono HBW1.out.size)).setCell (p := ⟨w.heap.size, 0, none⟩) (Nat.le_refl _) _).setCell (p := ⟨w.heap.size + 1, 0, none⟩) (by simp) _
          · rw [ho _ (by omega) (by omega), (hB.block _ (by omega)), HY1.out.2.2.2.1, HD.out.1]
          · rw [ho _ (by omega) (by omega), (hB.block _ (by omega)), HY1.out.2.2.2.2, HD.out.2]
          · rw [ho _ (by omega) (by omega), (hB.block _ (by omega)), HG1.out])
        have hfl : ∀ i, flt ((pre.length : Int) + 1) (A i) = .iface 42 (.agg #[.int .i64 ((pre.length : Int) + 1), .iface 189 (.pointer (some (A i)))]) := fun i => rfl
        have hLn : lnS (bareN x) = rdS ((bareN x).length + 2) true (bareN x) [] [] := rfl
        rw [← hLn] at HRd
        cases hl : lnS (bareN x) with
        | none =>
          have hs : stepP pre.length C (bareN x) = .bad (pre.length + 1) 1 := by rw [HStep2.out, hl]
          rw [hl] at HRd
          have HC : Hid (Calls Tryz.prog 27 #[.pointer (some ⟨w0.heap.size, 0, none⟩)] V fun e w' => e = .returned (flt ((pre.length : Int) + 1) (A 1)) ∧ Hid (Below w0.heap.size w0 w')) := hid0 (HRd.out.mono (fun e w' h => ⟨h.out.1, hid0 (by obtain ⟨_, _, _, _, _, _, h2⟩ := h.out.2; exact h2.bel)⟩))
          have HBd := hid0 (fun V2 => HBad.out 1 V2 hs)
          rw [hfl] at HC
          simp only [hfl] at HBd
          generalize rd (bareN x) = RB at *
          clear HRd HBad hl hs HStep2 hb0 hA0 hBw0 hfl hLn
          gi_wp2_with (first
            | (refine ⟨trivial, ?_⟩; gi_at_call 27; refine (CallsIn.inRound lp (callsIn_wide.2 HC.out)).mono ?_; rintro e V2 ⟨rfl, h2⟩; obtain ⟨hvf, ⟨e0, e1, e2, e3⟩, hfin⟩ := HBd.out V2 h2.out; subst hvf; have HFin := hid0 hfin; clear hfin)
            | fail)
          exact HFin.out
        | some y =>
          obtain ⟨LP, LB⟩ := y
          rw [hl] at HRd
          cases hall : LP.all scalarP with
          | false =>
            have hs : stepP pre.length C (bareN x) = .bad (pre.length + 1) 0 := by rw [HStep2.out, hl]; simp [hall]
            have HC : Hid (Calls Tryz.prog 27 #[.pointer (some ⟨w0.heap.size, 0, none⟩)] V fun e w' => e = .returned (flt ((pre.length : Int) + 1) (A 0)) ∧ Hid (Below w0.heap.size w0 w')) := hid0 (HRd.out.mono (fun e w' h => by
              have h1 := h.out
              unfold ReadO at h1
              simp only [hall, Bool.false_eq_true, if_false] at h1
              exact ⟨h1.1, hid0 (by obtain ⟨_, _, _, _, _, _, h2⟩ := h1.2; exact h2.bel)⟩))
            have HBd := hid0 (fun V2 => HBad.out 0 V2 hs)
            rw [hfl] at HC
            simp only [hfl] at HBd
            generalize rd (bareN x) = RB at *
            clear HRd HBad hl hs HStep2 hb0 hA0 hBw0 hfl hLn hall
            gi_wp2_with (first
              | (refine ⟨trivial, ?_⟩; gi_at_call 27; refine (CallsIn.inRound lp (callsIn_wide.2 HC.out)).mono ?_; rintro e V2 ⟨rfl, h2⟩; obtain ⟨hvf, ⟨e0, e1, e2, e3⟩, hfin⟩ := HBd.out V2 h2.out; subst hvf; have HFin := hid0 hfin; clear hfin)
              | fail)
            exact HFin.out
          | true =>
            obtain ⟨aL, cL, rfl⟩ := own_slC HPC1.out.own
            have hCl : C.length ≤ 20000 := parF_len _ _ _ _ HPar.out (Nat.zero_le _)
            have HC : Hid (Calls Tryz.prog 27 #[.pointer (some ⟨w0.heap.size, 0, none⟩)] V fun e w' => e = .returned .nilIface ∧ Hid (∃ s nx vP vB, RSt w0 w' ((pre.length : Int) + 1) s nx LP LB vP vB)) := hid0 (HRd.out.mono (fun e w' h => by
              have h1 := h.out
              unfold ReadO at h1
              simp only [hall, if_true] at h1
              exact ⟨h1.1, hid0 h1.2⟩))
            by_cases h20 : C.length = 20000
            · have hs : stepP pre.length C (bareN x) = .bad (pre.length + 1) 2 := by rw [HStep2.out, hl]; simp [hall, h20]
              have HBd := hid0 (fun V2 => HBad.out 2 V2 hs)
              have HF : Hid (∀ V2 s nx vP vB, RSt w0 V2 ((pre.length : Int) + 1) s nx LP LB vP vB → (V2.cell? ⟨0, 0, none⟩ = some (.iface 189 (.pointer (some (A 2)))) ∧ V2.cell? ⟨w.heap.size + 1 + 1, 0, none⟩ = some (.slice aL C.length cL)) ∧ Calls Tryz.prog 28 #[.pointer (some ⟨w0.heap.size, 0, none⟩), .iface 189 (.pointer (some (A 2)))] V2 fun e w' => e = .returned (flt ((pre.length : Int) + 1) (A 2)) ∧ w' = V2) := hid0 (fun V2 s nx vP vB h => by
                have hB := HAt.out V2 h.bel
                refine ⟨⟨(hA0.below h.bel).c2, ?_⟩, fault_any w0.heap.size ((pre.length : Int) + 1) s nx vP vB (A 2) V2 h.at'⟩
                have h2 := (hB.block _ (Array.getElem?_eq_some_iff.1 HY1.out.2.2.1).1).trans HY1.out.2.2.1
                rw [cell_of_row _ _ _ _ _ _ h2]; rfl)
              have h20I : (C.length : Int) = 20000 := by omega
              simp only [hfl] at HBd HF
              generalize rd (bareN x) = RB at *
              clear HRd HBad hl hs HStep2 hb0 hA0 hBw0 hfl hLn hall h20 hCl
              gi_wp2_with (first
                | (refine ⟨trivial, ?_⟩; gi_at_call 27; refine (CallsIn.inRound lp (callsIn_wide.2 HC.out)).mono ?_; rintro e V2 ⟨rfl, h2⟩; obtain ⟨s2, nx2, vP, vB, hR2⟩ := h2.out; obtain ⟨⟨j0, j1⟩, j2⟩ := HF.out V2 _ _ _ _ hR2; have HF2 := hid0 j2; obtain ⟨hvf, ⟨e0, e1, e2, e3⟩, hfin⟩ := HBd.out V2 hR2.bel; subst hvf; have HFin := hid0 hfin; clear hfin j2 hR2)
                | (refine ⟨trivial, ?_⟩; gi_at_call 28; refine (CallsIn.inRound lp (callsIn_wide.2 HF2.out)).mono ?_; rintro e V3 ⟨rfl, rfl⟩)
                | fail)
              exact HFin.out
            · have hs : stepP pre.length C (bareN x) = .ok (C ++ [(LP, LB)]) := by rw [HStep2.out, hl]; simp [hall, h20]
              have hvt : v = true := by
                rw [← HV.out]
                unfold okL
                rw [HStep.out, hs]
              subst hvt
              have HApp : Hid (∀ V2 s2 nx2 vP vB, RSt w0 V2 ((pre.length : Int) + 1) s2 nx2 LP LB vP vB →
                  (V2.cell? ⟨w.heap.size + 1 + 1, 0, none⟩ = some (.slice aL C.length cL) ∧ V2.cell? ⟨w0.heap.size, 3, none⟩ = some vP ∧ V2.cell? ⟨w0.heap.size, 4, none⟩ = some vB) ∧
                  ∃ a9 c9 w9, (Builtin.append_ #[22, 22] 22 #[.slice aL C.length cL, .slice (some ⟨V2.heap.size, 0, none⟩) 1 1]).run Tryz.prog (V2.alloc (.cells #[vP, vB] 50)) = .ok (.slice a9 (C.length + 1) c9) w9 ∧
                    w9.cell? ⟨w.heap.size + 1 + 1, 0, none⟩ = some (.slice aL C.length cL) ∧ w9.frozen? ⟨w.heap.size + 1 + 1, 0, none⟩ = false ∧
                    Hid (RfJ w A (w'.heap.size + 2) (pre ++ [x]) (w9.setCell ⟨w.heap.size + 1 + 1, 0, none⟩ (.slice a9 (C.length + 1) c9)) ∧
                      (w9.setCell ⟨w.heap.size + 1 + 1, 0, none⟩ (.slice a9 (C.length + 1) c9)).heap[w'.heap.size]? = W.heap[w'.heap.size]? ∧ (w9.setCell ⟨w.heap.size + 1 + 1, 0, none⟩ (.slice a9 (C.length + 1) c9)).heap[w'.heap.size + 1]? = W.heap[w'.heap.size + 1]? ∧ (w9.setCell ⟨w.heap.size + 1 + 1, 0, none⟩ (.slice a9 (C.length + 1) c9)).heap[w.heap.size + 4]? = W.heap[w.heap.size + 4]?)) := hid0 (fun V2 s2 nx2 vP vB h => by
                have hB := HAt.out V2 h.bel
                have hs5 := HBs.out
                have hs1 := HW1s.out
                have hbs := HbW.out.size
                obtain ⟨_, _, _, b3, b4, _⟩ := h.boxc
                have k : ∀ j o, W1.heap[j]? = some o → V2.heap[j]? = some o := fun j o ho => (hB.block j (Array.getElem?_eq_some_iff.1 ho).1).trans ho
                obtain ⟨VA, hVA⟩ : ∃ VA, VA = V2.alloc (.cells #[vP, vB] 50) := ⟨_, rfl⟩
                have hba : Below V2.heap.size V2 VA := by rw [hVA]; exact (Below.refl _ _).alloc (Nat.le_refl _) _
                have hra : VA.heap[V2.heap.size]? = some (.cells #[vP, vB] 50 (0, 0)) := by rw [hVA]; exact heap_alloc_new V2 _
                have hbA : Below W1.heap.size W1 VA := hB.trans (hba.mono hB.size)
                obtain ⟨v9, w9, hr9, ho9, hg9, hat9⟩ := run_app_case (W := VA) (w'.heap.size + 2) _ C.length VS (own_blk HPC1.out.own (fun q hq => hbA.block q (World.ownsRow.lt HPC1.out.own q hq).2)) V2.heap.size vP vB (by rw [cell_of_row _ _ _ _ _ _ hra]; rfl) (by rw [cell_of_row _ _ _ _ _ _ hra]; rfl) (own_one h.rp) (own_one h.rb) (by omega) (Nat.le_trans hs1 hbA.size)
                obtain ⟨a9, c9, rfl⟩ := own_slC ho9
                rw [hVA] at hr9
                have hkeep : ∀ j o, j < w'.heap.size + 2 → W1.heap[j]? = some o → w9.heap[j]? = some o := fun j o hj ho => (hg9.block j (Nat.lt_of_lt_of_le (Array.getElem?_eq_some_iff.1 ho).1 hbA.size) (fun e => by have := (World.ownsRow.lt HPC1.out.own j e.symm).1; omega)).trans ((hbA.block j (Array.getElem?_eq_some_iff.1 ho).1).trans ho)
                have hPC9 : PC w9 (w'.heap.size + 2) (.slice a9 (C.length + 1) c9) (VS ++ [vP, vB]) (C ++ [(LP, LB)]) := PC.snoc (x := (LP, LB)) HPC1.out hB hba (owns_lower h.rp hbs) (owns_lower h.rb hbs) h.ne hs1 ho9 hg9
                have y2 := hkeep _ _ (by omega) HY1.out.2.2.1
                have ho : ∀ j, ¬ j = w.heap.size + 1 + 1 → (w9.setCell ⟨w.heap.size + 1 + 1, 0, none⟩ (.slice a9 (C.length + 1) c9)).heap[j]? = w9.heap[j]? := fun j h1 => Below.heap_setCell _ _ _ j h1
                have hbel : Below w.heap.size w w9 := (HBW1.out.trans (hbA.mono HBW1.out.size)).grown hg9 (Nat.le_trans HBW1.out.size hbA.size) (fun q hq => by have := (World.ownsRow.lt HPC1.out.own q hq).1; omega)
                have y2' : V2.heap[w.heap.size + 1 + 1]? = some (.cells #[.slice aL C.length cL] 22 (0, 0)) := k _ _ HY1.out.2.2.1
                have y2'' : w9.heap[w.heap.size + 1 + 1]? = some (.cells #[.slice aL C.length cL] 22 (0, 0)) := y2
                refine ⟨⟨by rw [cell_of_row _ _ _ _ _ _ y2']; rfl, b3, b4⟩, a9, c9, w9, hr9, by rw [cell_of_row _ _ _ _ _ _ y2'']; rfl, frozen_of_row _ _ _ _ _ y2'', hid0 ⟨⟨hbel.setCell (p := ⟨w.heap.size + 1 + 1, 0, none⟩) (by show w.heap.size ≤ w.heap.size + 1 + 1; omega) _, fun _ => ⟨.slice a9 (C.length + 1) c9, VS ++ [vP, vB], C ++ [(LP, LB)], ?_, ?_, ?_, ?_, ?_, by rw [HStep.out, hs]⟩, fun h => by rw [HV.out] at h; cases h⟩, ?_, ?_, ?_⟩⟩
                · exact (ho _ (by omega)).trans (hkeep _ _ (by omega) HY1.out.1)
                · exact (ho _ (by omega)).trans (hkeep _ _ (by omega) HY1.out.2.1)
                · exact heap_setCell_same w9 _ 0 _ _ _ y2''
                · have := (ho (w.heap.size + 1 + 1 + 1) (by omega)).trans (hkeep _ _ (by omega) HY3.out)
                  rw [List.length_append, List.length_singleton]
                  exact this
                · exact hPC9.agree ⟨by simp, fun j h1 _ => ho j (by omega)⟩
                · rw [ho _ (by omega), HD.out.1]; exact hkeep _ _ (by omega) HY1.out.2.2.2.1
                · rw [ho _ (by omega), HD.out.2]; exact hkeep _ _ (by omega) HY1.out.2.2.2.2
                · have hlt : w.heap.size + 4 < W1.heap.size := by omega
                  rw [ho _ (by omega), ← HG1.out]
                  exact hkeep _ _ (by omega) (Array.getElem?_eq_getElem hlt) |>.trans (Array.getElem?_eq_getElem hlt).symm)
              have h20I : ¬ (C.length : Int) = 20000 := by omega
              generalize rd (bareN x) = RB at *
              clear HRd HBad hl hs HStep2 hb0 hA0 hBw0 hfl hLn hall h20 hCl
              gi_wp2_with (first
                | (refine ⟨trivial, ?_⟩; gi_at_call 27; refine (CallsIn.inRound lp (callsIn_wide.2 HC.out)).mono ?_; rintro e V2 ⟨rfl, h2⟩; obtain ⟨s2, nx2, vP, vB, hR2⟩ := h2.out; obtain ⟨⟨j0, j1, j2⟩, a9, c9, w9, hr9, j3, j4, HFin⟩ := HApp.out V2 _ _ _ _ hR2; clear hR2)
                | (gi_at_builtin; refine wpListIn_run rfl _ _ 22 rfl _ _ rfl rfl hr9 ?_; clear hr9)
                | fail)
              exact HFin.out
  case done =>
    intro W hj hq hd
    obtain ⟨vL, VS, C, y0, y1, y2, y3, hPC, hpar⟩ := hj.yes hq
    obtain ⟨aL, cL, rfl⟩ := own_slC hPC.own
    have z0 : W.cell? ⟨w.heap.size, 0, none⟩ = some (.slice none 0 0) := by rw [cell_of_row _ _ _ _ _ _ y0]; rfl
    have z1 : W.cell? ⟨w.heap.size + 1, 0, none⟩ = some .nilIface := by rw [cell_of_row _ _ _ _ _ _ y1]; rfl
    have z2 : W.cell? ⟨w.heap.size + 1 + 1, 0, none⟩ = some (.slice aL C.length cL) := by rw [cell_of_row _ _ _ _ _ _ y2]; rfl
    have f0 : W.frozen? ⟨w.heap.size, 0, none⟩ = false := frozen_of_row _ _ _ _ _ y0
    have f1 : W.frozen? ⟨w.heap.size + 1, 0, none⟩ = false := frozen_of_row _ _ _ _ _ y1
    have HK := hid0 (And.intro y0 (And.intro y1 hd))
    have HB := hid0 hj.bel
    have HPC := hid0 hPC
    have HPar := hid0 hpar
    clear hj hq hd hPC hpar y0 y1 y2 y3
    gi_wp2
    have hs := HBs.out
    have hV2 : ((W.setCell ⟨w.heap.size, 0, none⟩ (.slice aL C.length cL)).setCell ⟨w.heap.size + 1, 0, none⟩ .nilIface).heap[w.heap.size]? = some (.cells #[.slice aL C.length cL] 22 (0, 0)) := (Below.heap_setCell _ _ _ _ (by simp)).trans (heap_setCell_same W _ 0 _ _ _ HK.out.1)
    have hV3 : ((W.setCell ⟨w.heap.size, 0, none⟩ (.slice aL C.length cL)).setCell ⟨w.heap.size + 1, 0, none⟩ .nilIface).heap[w.heap.size + 1]? = some (.cells #[.nilIface] 24 (0, 0)) := heap_setCell_same _ _ 0 _ _ _ ((Below.heap_setCell W _ _ _ (by simp)).trans HK.out.2.1)
    have ho : ∀ j, ¬ j = w.heap.size → ¬ j = w.heap.size + 1 → ((W.setCell ⟨w.heap.size, 0, none⟩ (.slice aL C.length cL)).setCell ⟨w.heap.size + 1, 0, none⟩ .nilIface).heap[j]? = W.heap[j]? := fun j h1 h2 => (Below.heap_setCell _ _ _ j h2).trans (Below.heap_setCell _ _ _ j h1)
    have hVd : ((W.setCell ⟨w.heap.size, 0, none⟩ (.slice aL C.length cL)).setCell ⟨w.heap.size + 1, 0, none⟩ .nilIface).heap[w'.heap.size]? = some (.deferred (some [])) := (ho _ (by omega) (by omega)).trans HK.out.2.2
    have hVb : Below w.heap.size w ((W.setCell ⟨w.heap.size, 0, none⟩ (.slice aL C.length cL)).setCell ⟨w.heap.size + 1, 0, none⟩ .nilIface) := (HB.out.setCell (p := ⟨w.heap.size, 0, none⟩) (Nat.le_refl _) _).setCell (p := ⟨w.heap.size + 1, 0, none⟩) (by simp) _
    have hPV : PC ((W.setCell ⟨w.heap.size, 0, none⟩ (.slice aL C.length cL)).setCell ⟨w.heap.size + 1, 0, none⟩ .nilIface) (w'.heap.size + 2) (.slice aL C.length cL) VS C := HPC.out.agree ⟨by simp, fun j h1 _ => ho j (by omega) (by omega)⟩
    refine leaves_marks w.heap.size [w'.heap.size] _ (fun d hd => by rw [List.mem_singleton] at hd; rw [hd]; exact ⟨by omega, hVd⟩) (by simp) (fun Wf hW => ?_)
    have g2 := (hW.block _ (Array.getElem?_eq_some_iff.1 hV2).1 (by simp; omega)).trans hV2
    have g3 := (hW.block _ (Array.getElem?_eq_some_iff.1 hV3).1 (by simp; omega)).trans hV3
    have c0 : Wf.cell? ⟨w.heap.size, 0, none⟩ = some (.slice aL C.length cL) := by rw [cell_of_row _ _ _ _ _ _ g2]; rfl
    have c1 : Wf.cell? ⟨w.heap.size + 1, 0, none⟩ = some .nilIface := by rw [cell_of_row _ _ _ _ _ _ g3]; rfl
    refine ⟨_, (by simp [results, Tryz.results15, go_sem, c0, c1]; try rfl), ?_⟩
    refine hid0 ?_
    unfold RfO
    rw [HPar.out]
    exact ⟨_, VS, rfl, (hPV.agree ⟨hW.size, fun k h1 h2 => hW.block k h2 (by simp; omega)⟩).lower (by omega), hVb.trans (hW.below hVb.size (fun k hk => by rw [List.mem_singleton] at hk; omega))⟩
  case ret =>
    intro pre W hj hq hpre hd
    obtain ⟨kk, ii, y0, y1, hpar⟩ := hj.no hq
    have hpar2 : parF 0 [] ((rawL s).map bareN) = .bad kk ii := by
      obtain ⟨r, hr⟩ := hpre
      rw [← hr, List.map_append]
      exact parF_app_bad _ _ _ _ _ _ hpar
    have HPar := hid0 hpar2
    have HK := hid0 (And.intro y0 (And.intro y1 hd))
    have HB := hid0 hj.bel
    clear hj hq hpre hd y0 y1 hpar hpar2
    gi_wp2
    have hs := HBs.out
    have hV2 : W.heap[w.heap.size]? = some (.cells #[.slice none 0 0] 22 (0, 0)) := HK.out.1
    have hV3 : W.heap[w.heap.size + 1]? = some (.cells #[flt (kk : Int) (A ii)] 24 (0, 0)) := HK.out.2.1
    have hVd : W.heap[w'.heap.size]? = some (.deferred (some [])) := HK.out.2.2
    have hVb : Below w.heap.size w W := HB.out
    refine leaves_marks w.heap.size [w'.heap.size] _ (fun d hd => by rw [List.mem_singleton] at hd; rw [hd]; exact ⟨by omega, hVd⟩) (by simp) (fun Wf hW => ?_)
    have g2 := (hW.block _ (Array.getElem?_eq_some_iff.1 hV2).1 (by simp; omega)).trans hV2
    have g3 := (hW.block _ (Array.getElem?_eq_some_iff.1 hV3).1 (by simp; omega)).trans hV3
    have c0 : Wf.cell? ⟨w.heap.size, 0, none⟩ = some (.slice none 0 0) := by rw [cell_of_row _ _ _ _ _ _ g2]; rfl
    have c1 : Wf.cell? ⟨w.heap.size + 1, 0, none⟩ = some (flt (kk : Int) (A ii)) := by rw [cell_of_row _ _ _ _ _ _ g3]; rfl
    refine ⟨_, (by simp [results, Tryz.results15, go_sem, c0, c1]; try rfl), ?_⟩
    refine hid0 ?_
    unfold RfO
    rw [HPar.out]
    exact ⟨rfl, hVb.trans (hW.below hVb.size (fun k hk => by rw [List.mem_singleton] at hk; omega))⟩
end Go.Proofs.YtcbepmjojppokaaGreatDoor
