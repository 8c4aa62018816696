/-
  Door, SentP, MkOP, MnwP.
-/
import Derived.Test.YtjmmckkiicefhaaDoorCards
import Derived.Test.YtjmmckkiicefhaaDoorTie
import Derived.WalkKit
import Derived.ProofKit
import Derived.OpenShut
import Derived.Deep.DeepHandedRow
import Derived.Lib.LaidTab
import Derived.Lib.SmallJoins
import Derived.Test.YtjmmckkiicefhaaDoorMga
import Derived.Stop.LaidErr
import Derived.Test.YtjmmckkiicefhaaDoorMgg
import Derived.Test.YtjmmckkiicefhaaDoorMgf
import Derived.Deep.Matrix
import Derived.Lib.LaidU8
import Derived.Shelf.Vars
import Derived.Lay
import Derived.LaidMore
import Derived.ChangeSlices
import Derived.Deep.Slices
import Derived.Test.YtjmmckkiicefhaaDoorMgi
namespace Go.Proofs.YtjmmckkiicefhaaDoor
open Go.ChangeShapes Go.WideShapes Go.ChangeAt Go.RowKit
theorem own : ownKnob Tryd.prog.godebug = none := by kernel_rfl
/-- The settled world, the listed variables holding what their initialisers lay. -/
def laidWorld (hold : World) : World := { hold with heap := ((hold.heap.modify 0 fun | .cells _ t frozen => .cells #[.iface 112 (.pointer (some ⟨hold.heap.size + 0, 0, none⟩))] t frozen | o => o).push (.cells #[.string ⟨#[97, 32, 110, 117, 109, 98, 101, 114, 32, 111, 114, 32, 97, 110, 32, 97, 114, 103, 117, 109, 101, 110, 116, 32, 105, 115, 32, 111, 117, 116, 32, 111, 102, 32, 105, 116, 115, 32, 112, 108, 97, 99, 101]⟩] 128)) }
set_option maxRecDepth 100000 in
theorem door_shaped (os : Os) (args : Array Value) : ((laidWorld (World.holding Tryd.prog os ⟨#[], #[], []⟩)).forCall (fun _ _ => 0) ⟨#[], args, []⟩).Shaped Tryd.prog :=
  World.shaped_of_RefB (by kernel_rfl) (by kernel_rfl)
/-- An input that fits, at a world that is written out. -/
theorem witness_row_shaped {H : Type} {enc : TypeId × Value → H} {C : Checked} {os : Os} {f : FuncId} {fn : Func} {s : OpenSpec} {conds : List PathCond} {apart : Bool} {laid : List (String × DataW Unit)} (w0 : World) (args : Array Value) (hos : w0.os = os)
    (hsh : (w0.forCall (fun _ _ => 0) ⟨#[], args, []⟩).Shaped C.prog)
    (hok : Input.okWideB C.prog (w0.forCall (fun _ _ => 0) ⟨#[], args, []⟩) f ⟨#[], args, []⟩ = true)
    (hrow : s.preRow enc C.prog fn conds apart laid (w0.forCall (fun _ _ => 0) ⟨#[], args, []⟩).memory args) :
    ∃ (w : World) (tape : Tape) (i : Input), w.os = os ∧ (w.forCall tape i).Shaped C.prog ∧ i.vars = [] ∧ Input.okWide C.prog (w.forCall tape i) .any w.heap.size f i ∧
      s.preRow enc C.prog fn conds apart laid (w.forCall tape i).memory i.args ∧ ({} : Assume).holds C.prog (lone (Frame.enter C.prog f i.args .normal) [] (w.forCall tape i)) :=
  ⟨w0, fun _ _ => 0, ⟨#[], args, []⟩, hos, hsh, (Input.okWide_of_okWideB (base := 0) hok).1, (Input.okWide_of_okWideB hok).2, hrow, by
    simp only [Assume.holds]
    exact ⟨by simp, by simp, by simp, by simp, by simp⟩⟩
theorem laidOut : laidOutB Tryd.prog = true := by kernel_rfl
set_option maxRecDepth 10000 in
/-- The frame of a law of one parameter that answers true, writes nothing that was there, and lists no variable among its readings. -/
theorem law_contract {H : Type} {enc : TypeId × Value → H} {f : FuncId} {fn : Func} {s : ChangeSpec} {t : TypeId} (hp : fn.params = #[t]) (hrt : fn.resultTypes = #[4]) (hvars : s.vars = [])
    (hfn : ∀ (K : Type) (d : DataW K), s.fn K [d] = { results := [.lit (.bool true)], args := [d] }) (hread : Tryd.prog.readableRec t = true) (hrow : t < Tryd.prog.types.size)
    (W : World) (base : Nat) (args : Array Value) (ds gs : List (DataW H)) (before : List MemPlace)
    (hval : ∀ (j : Nat) t v, fn.params[j]? = some t → args[j]? = some v → Value.okWide Tryd.prog W .any base t v)
    (hW : DataW.Whole enc Tryd.prog fn.params.toList s.vars false W args.toList ds gs before)
    (hsz : (DataW.weightsEach Tryd.prog (fn.params.toList ++ s.plain.varTypes Tryd.prog) (ds ++ gs)).all (· ≤ reachBytes) = true)
    (walk : ∀ (v : Value) (d : DataW H) (p : List MemPlace), Value.okWide Tryd.prog W .any base t v → DataW.Trod enc Tryd.prog W 0 (fun _ => true) true t v d p → (∀ x ∈ p, x.block < W.heap.size) → (∀ x ∈ d.weights Tryd.prog t, x ≤ reachBytes) → ds = [d] → gs = [] →
      Calls Tryd.prog f #[v] W fun e W' => e = .returned (.bool true) ∧ Below W.heap.size W W') :
    Calls Tryd.prog f args W fun e W' => ∃ v, e = .returned v ∧ s.post enc Tryd.prog fn false true false false W args v W' := by
  have hW' := hW
  obtain ⟨p, q, hA0, hV, rfl, hfz, hnd⟩ := hW
  have hA : DataW.TrodAll enc Tryd.prog W 0 (fun _ => true) true fn.params.toList args.toList ds p := hA0
  rw [hp] at hA hval hsz
  obtain ⟨v0, vs0, d0, ds0, p0, q0, hargs, rfl, rfl, h0, r0⟩ := trodAll_cons hA
  obtain ⟨rfl, rfl, rfl⟩ := trodAll_nil r0
  obtain rfl : args = #[v0] := by cases args; simp_all
  rw [hvars] at hV
  obtain ⟨rfl, rfl⟩ := trodVars_none hV
  have hlt : ∀ x ∈ p0, x.block < W.heap.size := fun x hx => by have := hW'.lt x (by simpa using hx); simpa using this
  have hw : ∀ x ∈ d0.weights Tryd.prog t, x ≤ reachBytes := fun x hx => by
    have := List.all_eq_true.1 hsz x (DataW.weights_mem_each (j := 0) (by simp) (by simp) x hx)
    simpa using this
  refine (walk v0 d0 p0 (hval 0 t v0 rfl rfl) h0 hlt hw rfl rfl).mono fun e W' ⟨he, hb⟩ => ?_
  subst he
  refine ⟨_, rfl, [d0], [], _, [], p0 ++ [], [], hW', ?_, ?_, ?_, hb.frame _, fun h => by cases h⟩
  · rw [hrt, show ([d0] ++ ([] : List (DataW H))) = [d0] from rfl, hfn]
    exact trodAll_cons_mk (shut_bool Tryd.underlying4 true) trodAll_mk0
  · rw [hp, show ([d0] ++ ([] : List (DataW H))) = [d0] from rfl, hfn]
    exact trodAll_cons_mk (Below.trod laidOut hread hrow h0 hb hlt) trodAll_mk0
  · rw [hvars, show ([d0] ++ ([] : List (DataW H))) = [d0] from rfl, hfn]
    rfl
set_option maxRecDepth 10000 in
/-- The same frame for a law without parameters. -/
theorem law_contract0 {H : Type} {enc : TypeId × Value → H} {f : FuncId} {fn : Func} {s : ChangeSpec} (hp : fn.params = #[]) (hrt : fn.resultTypes = #[4]) (hvars : s.vars = [])
    (hfn : ∀ (K : Type), s.fn K [] = { results := [.lit (.bool true)], args := [] })
    (W : World) (args : Array Value) (ds gs : List (DataW H)) (before : List MemPlace)
    (hW : DataW.Whole enc Tryd.prog fn.params.toList s.vars false W args.toList ds gs before)
    (walk : Calls Tryd.prog f #[] W fun e W' => e = .returned (.bool true) ∧ Below W.heap.size W W') :
    Calls Tryd.prog f args W fun e W' => ∃ v, e = .returned v ∧ s.post enc Tryd.prog fn false true false false W args v W' := by
  have hW' := hW
  obtain ⟨p, q, hA0, hV, rfl, hfz, hnd⟩ := hW
  have hA : DataW.TrodAll enc Tryd.prog W 0 (fun _ => true) true fn.params.toList args.toList ds p := hA0
  rw [hp] at hA
  obtain ⟨hargs, rfl, rfl⟩ := trodAll_nil hA
  obtain rfl : args = #[] := by cases args; simp_all
  rw [hvars] at hV
  obtain ⟨rfl, rfl⟩ := trodVars_none hV
  refine walk.mono fun e W' ⟨he, hb⟩ => ?_
  subst he
  refine ⟨_, rfl, [], [], _, [], [], [], hW', ?_, ?_, ?_, hb.frame _, fun h => by cases h⟩
  · rw [hrt, show (([] : List (DataW H)) ++ []) = [] from rfl, hfn]
    exact trodAll_cons_mk (shut_bool Tryd.underlying4 true) trodAll_mk0
  · rw [hp, show (([] : List (DataW H)) ++ []) = [] from rfl, hfn]
    exact trodAll_mk0
  · rw [hvars, show (([] : List (DataW H)) ++ []) = [] from rfl, hfn]
    rfl
end Go.Proofs.YtjmmckkiicefhaaDoor
namespace Go.Proofs.YtjmmckkiicefhaaDoor
open Go.ChangeShapes Go.WideShapes Go.ChangeAt Go.RowKit
theorem star : ("*" ++ "errors.errorString" : String) = "*errors.errorString" := by decide
theorem errRow (u : TypeId) (h : Tryd.prog.typeName? 3 u = some "*errors.errorString") : u = 112 :=
  typeName_ptr_named (nm := "errors.errorString") (by rw [star]; kernel_rfl) (by kernel_rfl) (by decide) u (by rw [star]; exact h)
theorem cellsErr : Tryd.prog.cellsOf 128 = 1 := by kernel_rfl
theorem cellsStr : Tryd.prog.cellsOf 9 = 1 := by kernel_rfl
/-- A listed refusal. -/
def sentRow (x : String × List UInt8) : String × DataW Unit := (x.1, .iface "*errors.errorString" (.ptr (.agg [.lit (.string x.2)])))
set_option maxRecDepth 10000 in
theorem sents_list {W : World} (rest : List (String × DataW Unit)) : ∀ (L : List (String × List UInt8)) (ps : List MemPlace),
    DataW.LaidVars Tryd.prog W (L.map sentRow ++ rest) ps → ps.Nodup →
    (∀ b off, MemPlace.cell b off ∈ ps → (∃ c t, W.heap[b]? = some (.cells c t (0, 0))) ∧ ∀ u v, W.cell? ⟨b, off, none⟩ = some (.iface u v) → Value.okWide Tryd.prog W .any 0 u v) →
    (∀ x ∈ L, ∀ g t, Tryd.prog.globalNamed x.1 = some g → (Tryd.prog.globals[g]?).map (·.type) = some t → t = 33) →
    ∃ xs : List Addr, xs.length = L.length ∧ xs.Nodup ∧ (∀ a ∈ xs, MemPlace.cell a.block a.off ∈ ps ∧ ∃ c t, W.heap[a.block]? = some (.cells c t (0, 0))) ∧
      ∀ i (h : i < L.length) g, Tryd.prog.globalNamed (L[i]).1 = some g → W.cell? ⟨g, 0, none⟩ = some (.iface 112 (.pointer (some (xs.getD i ⟨0, 0, none⟩)))) := by
  intro L
  induction L with
  | nil => intro ps _ _ _ _; exact ⟨[], rfl, List.nodup_nil, (fun a h => by cases h), fun i h => absurd h (Nat.not_lt_zero _)⟩
  | cons x L ih =>
    intro ps hl hnd hrows hty
    obtain ⟨g0, t0, cs0, f0, p0, q0, hg0, ht0, hv0, hd0, hl', rfl⟩ := hl
    obtain rfl := hty x List.mem_cons_self g0 t0 hg0 ht0
    obtain ⟨l0⟩ := cs0
    have ok0 : ∀ u v, l0 = [.iface u v] → Value.okWide Tryd.prog W .any 0 u v := fun u v e => by
      subst e
      exact (hrows g0 0 (by simp [MemPlace.row])).2 u v (by simpa using World.var?_cell hg0 hv0 0)
    obtain ⟨a, s, rfl, _, _, _, rfl⟩ := errorString_of_trod Tryd.underlying33 errRow Tryd.underlying112 Tryd.underlying128 rfl rfl Tryd.underlying9 cellsErr cellsStr hd0 ok0
    have hnd1 := List.nodup_append.1 hnd
    obtain ⟨xs, h1, h2, h3, h4⟩ := ih q0 hl' hnd1.2.1 (fun b off hb => hrows b off (List.mem_append_right _ hb)) (fun y hy => hty y (List.mem_cons_of_mem _ hy))
    have hmem : MemPlace.cell a.block a.off ∈ MemPlace.row ⟨g0, 0, none⟩ (#[Value.iface 112 (.pointer (some a))] : Array Value).size ++ MemPlace.row a 1 := by simp [MemPlace.row]
    refine ⟨a :: xs, by simp [h1], List.nodup_cons.2 ⟨fun hin => ?_, h2⟩, fun b hb => ?_, fun i hi g hg => ?_⟩
    · exact (hnd1.2.2 _ hmem _ (h3 a hin).1) rfl
    · rcases List.mem_cons.1 hb with rfl | hb
      · exact ⟨List.mem_append_left _ hmem, (hrows _ _ (List.mem_append_left _ hmem)).1⟩
      · exact ⟨List.mem_append_right _ (h3 b hb).1, (h3 b hb).2⟩
    · cases i with
      | zero =>
        have e : g = g0 := Option.some.inj (hg.symm.trans hg0)
        subst e
        simpa using World.var?_cell hg0 hv0 0
      | succ i => exact h4 i (by simpa using hi) g hg
/-- The text of a listed refusal. -/
def sentText : DataW Unit → List UInt8
  | .iface _ (.ptr (.agg [.lit (.string s)])) => s
  | _ => []
def sentList : List (String × List UInt8) := [("caesura/api.ErrArg", sentText Rows.laid_caesura_api_ErrArg)]
theorem sentTypes : ∀ x ∈ sentList, ∀ g t, Tryd.prog.globalNamed x.1 = some g → (Tryd.prog.globals[g]?).map (·.type) = some t → t = 33 := by
  have h : (sentList.all fun x => match Tryd.prog.globalNamed x.1 with | some g => (Tryd.prog.globals[g]?).map (·.type) == some 33 | none => true) = true := by kernel_rfl
  intro x hx g t hg ht
  have := List.all_eq_true.1 h x hx
  rw [hg] at this
  simp only [ht] at this
  simpa using this
theorem g_ErrArg : Tryd.prog.globalNamed "caesura/api.ErrArg" = some 0 := by kernel_rfl
end Go.Proofs.YtjmmckkiicefhaaDoor
namespace Go.Proofs.YtjmmckkiicefhaaDoor
open Go.ChangeShapes Go.WideShapes Go.ChangeAt Go.RowKit Go.Joins
theorem cellsInt : Tryd.prog.cellsOf 3 = 1 := by kernel_rfl
theorem cellsInts : Tryd.prog.cellsOf 25 = 1 := by kernel_rfl
theorem cellsRows : Tryd.prog.cellsOf 22 = 1 := by kernel_rfl
theorem cellsMach : Tryd.prog.cellsOf 24 = 3 := by kernel_rfl
theorem cellsCase : Tryd.prog.cellsOf 27 = 8 := by kernel_rfl
theorem bulk_lits {H : Type} (zs : List Int) : zs.length ≤ Rows.uptoBulkAll (H := H) (lits .i64 zs) := by
  induction zs with
  | nil => simp [lits]
  | cons z zs ih =>
    have e : (lits (H := H) .i64 (z :: zs)) = .lit (.int .i64 z) :: lits .i64 zs := rfl
    rw [e, Rows.uptoBulkAll, List.length_cons]
    have h1 : 1 ≤ Rows.uptoBulk (H := H) (.lit (.int .i64 z)) := by simp [Rows.uptoBulk]
    omega
theorem lt_of_cell {W : World} {b o : Nat} {u : Value} (h : W.cell? ⟨b, o, none⟩ = some u) : b < W.heap.size := World.block_lt_of_cell? W _ h
theorem bulk_map {H : Type} (D : Nat → DataW H) (l : List Nat) (h : ∀ i ∈ l, 1 ≤ Rows.uptoBulk (D i)) : l.length ≤ Rows.uptoBulkAll (l.map D) ∧ ∀ i ∈ l, Rows.uptoBulk (D i) ≤ Rows.uptoBulkAll (l.map D) := by
  induction l with
  | nil => simp
  | cons x r ih =>
    rw [List.map_cons, Rows.uptoBulkAll, List.length_cons]
    have h1 := h x (.head _)
    have h2 := ih (fun i hi => h i (.tail _ hi))
    refine ⟨by omega, fun i hi => ?_⟩
    rcases List.mem_cons.1 hi with rfl | hi
    · omega
    · have := h2.2 i hi; omega
theorem no_spot {W : World} {a : Addr} {u : Value} (h : W.cell? (a.add 0) = some u) : a.spot = none := by
  obtain ⟨b, off, spot⟩ := a
  cases spot with
  | none => rfl
  | some sp =>
    exfalso
    rw [show (⟨b, off, some sp⟩ : Addr).add 0 = ⟨b, off, some sp⟩ from rfl] at h
    unfold World.cell? at h
    split at h <;> simp at h
/-- Numbers that are read. -/
theorem open_points {H : Type} {enc : TypeId × Value → H} {W : World} {n : Nat} {c : Value} {x : DataW H × List MemPlace} (hf : DataW.trod enc Tryd.prog W 0 (fun _ => true) true n 25 [c] = some x) :
    ∃ (a : Option Addr) (ps : List Int) (cap : Nat), c = .slice a ps.length cap ∧ IA W a ps ∧ ps.length ≤ Rows.uptoBulk x.1 ∧ (a = none → cap = 0) := by
  rcases open_ints Tryd.underlying25 Tryd.underlying3 cellsInt hf with ⟨h1, h2⟩ | ⟨a, len, cap, zs, h1, h2, h3, h4, h5, h6, h7, h8⟩
  · simp only [List.cons.injEq, and_true] at h1
    exact ⟨none, [], 0, h1, ⟨fun k h => absurd h (Nat.not_lt_zero _)⟩, by simp, fun _ => rfl⟩
  · simp only [List.cons.injEq, and_true] at h1
    simp only [if_true] at h5
    have hl : (zs.take len).length = len := by rw [List.length_take]; omega
    have hb := bulk_lits (H := H) (zs.take len)
    refine ⟨some a, zs.take len, cap, by rw [hl]; exact h1, ⟨fun k hk' => ?_⟩, ?_, fun e => by cases e⟩
    · rw [hl] at hk'
      have h9 := h7 k (by omega)
      have hs := no_spot (h7 0 (by omega))
      obtain ⟨b, off, spot⟩ := a
      simp only at hs
      subst hs
      rw [Addr.add_lit] at h9
      refine ⟨b, off, rfl, lt_of_cell h9, ?_⟩
      rw [h9]
      congr 2
      rw [List.getElem_take, List.getD_eq_getElem?_getD, List.getElem?_eq_getElem (by omega)]
      rfl
    · rw [h6]
      simp only [Rows.uptoBulk]
      omega
/-- The bulk of rows is above all their lengths together. -/
theorem bulk_sum {H : Type} (D : Nat → DataW H) (Ln : Nat → Nat) (l : List Nat) (h : ∀ i ∈ l, Ln i + 1 ≤ Rows.uptoBulk (D i)) : (l.map Ln).sum + l.length ≤ Rows.uptoBulkAll (l.map D) := by
  induction l with
  | nil => simp
  | cons x r ih =>
    simp only [List.map_cons, Rows.uptoBulkAll, List.length_cons, List.sum_cons]
    have h1 := h x (.head _)
    have h2 := ih (fun i hi => h i (.tail _ hi))
    omega
/-- Lists of numbers that are read. -/
theorem open_rowsI {H : Type} {enc : TypeId × Value → H} {W : World} {n : Nat} {c : Value} {x : DataW H × List MemPlace} (hf : DataW.trod enc Tryd.prog W 0 (fun _ => true) true n 22 [c] = some x) :
    ∃ (a : Option Addr) (L : List (List Int)) (cap : Nat), c = .slice a L.length cap ∧ RwN W a L ∧ (L.map List.length).sum + L.length ≤ Rows.uptoBulk x.1 ∧ ∀ r ∈ L, ∀ z ∈ r, z < 9223372036854775808 := by
  rcases Deep.open_int_rows Tryd.underlying22 Tryd.underlying25 Tryd.underlying3 cellsInts cellsInt hf with ⟨h1, h2⟩ | ⟨a, len, cap, A, Ln, C, Z, h1, _, h3, _, h5, h6⟩
  · simp only [List.cons.injEq, and_true] at h1
    exact ⟨none, [], 0, h1, ⟨fun k h => absurd h (Nat.not_lt_zero _)⟩, by simp, fun r hr => by cases hr⟩
  · simp only [List.cons.injEq, and_true] at h1
    have hrl : ∀ r, r < len → ((Z r).take (Ln r)).length = Ln r := fun r hr => by
      obtain ⟨_, q1, _, q2, _⟩ := h6 r (by omega)
      rw [List.length_take]
      omega
    have hbk : ∀ r, r < len → Ln r + 1 ≤ Rows.uptoBulk (Deep.intRow (H := H) .i64 (A r) (Ln r) (Z r)) := fun r hr => by
      obtain ⟨_, q1, _, q2, _, q3, _⟩ := h6 r (by omega)
      have hz := hrl r hr
      cases e : A r with
      | none =>
        have := q3 e
        simp only [Deep.intRow, Rows.uptoBulk]
        omega
      | some a' =>
        have hb := bulk_lits (H := H) ((Z r).take (Ln r))
        simp only [Deep.intRow, Rows.uptoBulk]
        omega
    have k1 := bulk_sum (H := H) (fun r => Deep.intRow .i64 (A r) (Ln r) (Z r)) Ln (List.range len) (fun i hi => hbk i (List.mem_range.1 hi))
    rw [List.length_range] at k1
    refine ⟨some a, (List.range len).map fun r => (Z r).take (Ln r), cap, by simpa using h1, ⟨fun k hk => ?_⟩, ?_, fun r hr => ?_⟩
    · have hk' : k < len := by simpa using hk
      have hs := no_spot (h6 0 (by omega)).1
      obtain ⟨q0, q1, q2, q3, q4, q5, q6⟩ := h6 k (by omega)
      have hz := hrl k hk'
      obtain ⟨b, off, spot⟩ := a
      simp only at hs
      subst hs
      rw [Addr.add_lit] at q0
      have eg : ((List.range len).map fun r => (Z r).take (Ln r))[k] = (Z k).take (Ln k) := by simp
      refine ⟨b, off, rfl, lt_of_cell q0, A k, C k, ?_, ⟨fun j hj => ?_⟩, q5⟩
      · rw [eg, hz]; exact q0
      · have hj' : j < Ln k := by rw [eg, hz] at hj; exact hj
        cases e : A k with
        | none => have := q5 e; omega
        | some a' =>
          obtain ⟨_, q7⟩ := q6 a' e
          have hs := no_spot (q7 0 (by omega))
          have h9 := q7 j (by omega)
          obtain ⟨b', off', spot'⟩ := a'
          simp only at hs
          subst hs
          rw [Addr.add_lit] at h9
          refine ⟨b', off', rfl, lt_of_cell h9, ?_⟩
          rw [h9]
          congr 2
          simp only [eg]
          rw [List.getElem_take, List.getD_eq_getElem?_getD, List.getElem?_eq_getElem (by omega)]
          rfl
    · have e : ((List.range len).map fun r => (Z r).take (Ln r)).map List.length = (List.range len).map Ln := by
        rw [List.map_map]
        exact List.map_congr_left (fun r hr => hrl r (List.mem_range.1 hr))
      rw [e, List.length_map, List.length_range, h5]
      simp only [Rows.uptoBulk]
      omega
    · obtain ⟨i, hi, rfl⟩ := List.mem_map.1 hr
      have hi' := List.mem_range.1 hi
      obtain ⟨_, _, _, _, q4, _⟩ := h6 i (by omega)
      intro z hz
      have := bounds_i64 (q4 z (List.mem_of_mem_take hz))
      omega
theorem le_sum {l : List Nat} {x : Nat} (h : x ∈ l) : x ≤ l.sum := by
  induction l with
  | nil => cases h
  | cons y r ih =>
    rw [List.sum_cons]
    rcases List.mem_cons.1 h with rfl | h
    · omega
    · have := ih h; omega
theorem sum_all {L : List (List Int)} {m : Nat} (h : ∀ r ∈ L, r.length = m) : (L.map List.length).sum = L.length * m := by
  induction L with
  | nil => simp
  | cons y r ih =>
    rw [List.map_cons, List.sum_cons, ih (fun r hr => h r (List.mem_cons_of_mem _ hr)), h y List.mem_cons_self, List.length_cons, Nat.succ_mul]
    omega
/-- A machine that is read. -/
theorem open_mach {H : Type} {enc : TypeId × Value → H} {W : World} {n : Nat} {c0 c1 c2 : Value} {x : DataW H × List MemPlace} (g0 : DataW.trod enc Tryd.prog W 0 (fun _ => true) true n 24 [c0, c1, c2] = some x) (hk : Rows.uptoBulk x.1 ≤ 1048576) :
    ∃ (st : Int) (N O : List (List Int)) (aN aO : Option Addr) (cN cO : Nat), c0 = .int .i64 st ∧ c1 = .slice aN N.length cN ∧ c2 = .slice aO O.length cO ∧ RwN W aN N ∧ RwN W aO O ∧ (N.map List.length).sum + N.length ≤ 1048576 ∧ (O.map List.length).sum + O.length ≤ 1048576 ∧ (∀ r ∈ N, ∀ z ∈ r, z < 9223372036854775808) ∧ ∀ r ∈ O, ∀ z ∈ r, z < 9223372036854775808 := by
  obtain ⟨zs, n2, _, hx2, _, hzl, hgs⟩ := DataW.trod_struct Tryd.underlying24 g0
  obtain ⟨z0, z1, z2, rfl⟩ : ∃ z0 z1 z2, zs = [z0, z1, z2] := by
    match zs, hzl with
    | [z0, z1, z2], _ => exact ⟨z0, z1, z2, rfl⟩
  have e0 := hgs 0 _ rfl
  have e1 := hgs 1 _ rfl
  have e2 := hgs 2 _ rfl
  have k0 : DataW.trod enc Tryd.prog W 0 (fun _ => true) true n2 3 [c0] = some z0 := by simpa [cellsInt] using e0
  have k1 : DataW.trod enc Tryd.prog W 0 (fun _ => true) true n2 22 [c1] = some z1 := by simpa [cellsInt, cellsRows] using e1
  have k2 : DataW.trod enc Tryd.prog W 0 (fun _ => true) true n2 22 [c2] = some z2 := by simpa [cellsInt, cellsRows] using e2
  obtain ⟨st, q0, _, _⟩ := DataW.trod_int Tryd.underlying3 k0
  simp only [List.cons.injEq, and_true] at q0
  obtain ⟨aN, N, cN, r1, rN, bN, zN⟩ := open_rowsI k1
  obtain ⟨aO, O, cO, r2, rO, bO, zO⟩ := open_rowsI k2
  have hd0 : Rows.uptoBulk x.1 = Rows.uptoBulk z0.1 + Rows.uptoBulk z1.1 + Rows.uptoBulk z2.1 + 1 := by
    have := congrArg Prod.fst hx2
    simp only at this
    rw [this]
    simp [Rows.uptoBulk, Rows.uptoBulkAll]
    omega
  exact ⟨st, N, O, aN, aO, cN, cO, q0, r1, r2, rN, rO, by omega, by omega, zN, zO⟩
theorem sml_of {N O : List (List Int)} (h1 : (N.map List.length).sum + N.length ≤ 1048576) (h2 : (O.map List.length).sum + O.length ≤ 1048576) (h3 : ∀ r ∈ O, ∀ z ∈ r, z < 9223372036854775808) : SmlO N O ∧ O.length ≤ 1048576 ∧ (∀ r ∈ N, r.length ≤ 1048576) ∧ (∀ r ∈ O, r.length ≤ 1048576) ∧ N.length ≤ 1048576 := by
  have k1 : ∀ r ∈ N, r.length ≤ 1048576 := fun r hr => by
    have := le_sum (List.mem_map_of_mem (f := List.length) hr)
    omega
  have k2 : ∀ r ∈ O, r.length ≤ 1048576 := fun r hr => by
    have := le_sum (List.mem_map_of_mem (f := List.length) hr)
    omega
  exact ⟨⟨by omega, fun r hr => by have := k1 r hr; omega, fun r hr => by have := k2 r hr; omega, h3, fun m hm => by rw [← sum_all hm]; omega⟩, by omega, k1, k2, by omega⟩
set_option maxRecDepth 100000 in
/-- What is asked, read. -/
theorem open_case {H : Type} {enc : TypeId × Value → H} {W : World} {base : Nat} {v : Value} {d : DataW H} {p : List MemPlace} (hv : Value.okWide Tryd.prog W .any base 27 v)
    (h0 : DataW.Trod enc Tryd.prog W 0 (fun _ => true) true 27 v d p) (hk : Rows.uptoBulk d ≤ 1048576) :
    ∃ (sa sb sy : Int) (N O N' O' : List (List Int)) (L : List Int) (aN aO aM aP aW : Option Addr) (cN cO cM cP cW : Nat), v = .agg #[.int .i64 sa, .slice aN N.length cN, .slice aO O.length cO, .int .i64 sb, .slice aM N'.length cM, .slice aP O'.length cP, .int .i64 sy, .slice aW L.length cW] ∧ RwN W aN N ∧ RwN W aO O ∧ IA W aW L ∧ L.length ≤ 1048576 ∧ (N.map List.length).sum + N.length ≤ 1048576 ∧ (O.map List.length).sum + O.length ≤ 1048576 ∧ ∀ r ∈ O, ∀ z ∈ r, z < 9223372036854775808 := by
  obtain ⟨fuel, hf⟩ := h0
  have hcs : ∃ cs, v = .agg cs := by
    simp only [Value.okWide, Tryd.underlying27] at hv
    obtain ⟨cs, h1, _⟩ := hv
    exact ⟨cs, h1⟩
  obtain ⟨cs, rfl⟩ := hcs
  obtain ⟨xs, n, _, hx, hlen, hxl, hfs⟩ := DataW.trod_struct Tryd.underlying27 hf
  rw [cellsCase] at hlen
  obtain ⟨l⟩ := cs
  match l, hlen with
  | [c0, c1, c2, c3, c4, c5, c6, c7], _ =>
    obtain ⟨y0, y1, y2, y3, rfl⟩ : ∃ y0 y1 y2 y3, xs = [y0, y1, y2, y3] := by
      match xs, hxl with
      | [y0, y1, y2, y3], _ => exact ⟨y0, y1, y2, y3, rfl⟩
    have f0 := hfs 0 _ rfl
    have f1 := hfs 1 _ rfl
    have f2 := hfs 2 _ rfl
    have f3 := hfs 3 _ rfl
    have g0 : DataW.trod enc Tryd.prog W 0 (fun _ => true) true n 24 [c0, c1, c2] = some y0 := by simpa [Value.cells, cellsMach] using f0
    have g1 : DataW.trod enc Tryd.prog W 0 (fun _ => true) true n 24 [c3, c4, c5] = some y1 := by simpa [Value.cells, cellsMach] using f1
    have g2 : DataW.trod enc Tryd.prog W 0 (fun _ => true) true n 3 [c6] = some y2 := by simpa [Value.cells, cellsMach, cellsInt] using f2
    have g3 : DataW.trod enc Tryd.prog W 0 (fun _ => true) true n 25 [c7] = some y3 := by simpa [Value.cells, cellsMach, cellsInt, cellsInts] using f3
    have hd : Rows.uptoBulk d = Rows.uptoBulk y0.1 + Rows.uptoBulk y1.1 + Rows.uptoBulk y2.1 + Rows.uptoBulk y3.1 + 1 := by
      have := congrArg Prod.fst hx
      simp only at this
      rw [this]
      simp [Rows.uptoBulk, Rows.uptoBulkAll]
      omega
    obtain ⟨sa, N, O, aN, aO, cN, cO, rfl, rfl, rfl, rN, rO, b1, b2, _, b3⟩ := open_mach g0 (by omega)
    obtain ⟨sb, N', O', aM, aP, cM, cP, rfl, rfl, rfl, _⟩ := open_mach g1 (by omega)
    obtain ⟨sy, q1, _, _⟩ := DataW.trod_int Tryd.underlying3 g2
    simp only [List.cons.injEq, and_true] at q1
    subst q1
    obtain ⟨aW, L, cW, rfl, iW, bW, _⟩ := open_points g3
    exact ⟨sa, sb, sy, N, O, N', O', L, aN, aO, aM, aP, aW, cN, cO, cM, cP, cW, rfl, rN, rO, iW, by omega, b1, b2, b3⟩
theorem e1_of {W : World} (h : laidMet Tryd.prog ([("caesura/api.ErrArg", sentText Rows.laid_caesura_api_ErrArg)].map sentRow ++ []) W) : ∃ x, E1 W x := by
  obtain ⟨ps, hl, hnd, hrows⟩ := h
  obtain ⟨xs, _, _, _, h4⟩ := sents_list [] [("caesura/api.ErrArg", sentText Rows.laid_caesura_api_ErrArg)] ps hl hnd hrows (fun x hx => sentTypes x (by
    rw [List.mem_singleton] at hx
    rw [hx]
    exact List.mem_cons_self))
  exact ⟨_, ⟨h4 0 (by decide) _ g_ErrArg⟩⟩
end Go.Proofs.YtjmmckkiicefhaaDoor
namespace Go.Proofs.YtjmmckkiicefhaaDoor
open Go.ChangeShapes Go.WideShapes Go.ChangeAt Go.RowKit Go.Joins
theorem len_sum (N : List (List Int)) (h : (N.map List.length).sum + N.length ≤ 1048576) : N.length ≤ 1048576 := by omega
theorem minimalNew_any (x : Addr) (sa sb sy : Int) (N O : List (List Int)) (aN aO : Option Addr) (vM vP vW : Value) (cN cO : Nat) (w : World) (hs : SmlO N O) (hnl : N.length ≤ 1048576) (hol : O.length ≤ 2200000) (rN : RwN w aN N) (rO : RwN w aO O) (he : E1 w x) :
    Calls Tryd.prog 3 #[.agg #[.int .i64 sa, .slice aN N.length cN, .slice aO O.length cO, .int .i64 sb, vM, vP, .int .i64 sy, vW]] w fun e w' => e = .returned (.bool true) ∧ Below w.heap.size w w' := by
  cases hmay : mayF sa N O sy with
  | false => exact minimalNew_no x sa sb sy N O aN aO vM vP vW cN cO w hmay hs hol rN rO he
  | true =>
    obtain ⟨m, hm, hmy⟩ := mayF_may hmay
    subst hm
    obtain ⟨s0, rfl⟩ : ∃ s0 : Nat, sa = (s0 : Int) := ⟨sa.toNat, by have := hmy.start; omega⟩
    exact minimalNew_yes x s0 m sb N O aN aO vM vP vW cN cO w hmay hs hnl hol rN rO he
set_option maxRecDepth 100000 in
theorem minimalNew_walk {H : Type} (enc : TypeId × Value → H) (W : World) (base : Nat) (hL : laidMetH Tryd.prog Rows.minimalNewUptoRow.laid W) (v : Value) (d : DataW H) (p : List MemPlace) (hv : Value.okWide Tryd.prog W .any base 27 v)
    (h0 : DataW.Trod enc Tryd.prog W 0 (fun _ => true) true 27 v d p) (_hlt : ∀ x ∈ p, x.block < W.heap.size) (_hw : ∀ x ∈ d.weights Tryd.prog 27, x ≤ reachBytes) (hk : Rows.uptoSmall H ([d] ++ []) = true) :
    Calls Tryd.prog 3 #[v] W fun e W' => e = .returned (.bool true) ∧ Below W.heap.size W W' := by
  have hs := of_decide_eq_true hk
  simp only [List.append_nil, Rows.uptoBulkAll] at hs
  obtain ⟨sa, sb, sy, N, O, N', O', L, aN, aO, aM, aP, aW, cN, cO, cM, cP, cW, rfl, rN, rO, rW, b1, b2, b3, b4⟩ := open_case hv h0 (by omega)
  obtain ⟨x, hA⟩ := e1_of hL
  exact minimalNew_any x sa sb sy N O aN aO _ _ _ cN cO W (sml_of b2 b3 b4).1 (len_sum N b2) (by have := (sml_of b2 b3 b4).2.1; omega) rN rO hA
set_option maxRecDepth 100000 in
theorem minimalNew_lifted (os : Os) (started : os.Started) (H : Type) (enc : TypeId × Value → H) (F : Stop.Interp) :
    ReturnsInHanded {} Tryd.checked os 3 .any ((Rows.OpenSpec.upto Rows.minimalNewSpec).preRow enc Tryd.prog Tryd.f3 Rows.minimalNewUptoRow.domain false Rows.minimalNewUptoRow.laid) (((Rows.OpenSpec.upto Rows.minimalNewSpec).at F).post enc Tryd.prog Tryd.f3 false true false false) := by
  refine returnsInHanded_of_row (C := Tryd.checked) (s := Rows.OpenSpec.upto Rows.minimalNewSpec) own started (by kernel_rfl) Tryd.func3
    (witness_row_shaped (enc := enc) (C := Tryd.checked) (World.laidAll Tryd.prog os Rows.minimalNewUptoRow.laid) #[.agg #[.int .i64 0, .slice none 0 0, .slice none 0 0, .int .i64 0, .slice none 0 0, .slice none 0 0, .int .i64 0, .slice none 0 0]] (World.laidAll_os _ _ _) (World.shaped_of_ZipB (by kernel_rfl) (by kernel_rfl)) (by kernel_rfl)
      (OpenSpec.preRow_of_cond 8 (x := ([.agg [.agg [.lit (.int .i64 0), .nil, .nil], .agg [.lit (.int .i64 0), .nil, .nil], .lit (.int .i64 0), .nil]], [], [])) (by kernel_rfl) (by kernel_rfl) (fun k hk => by cases hk; kernel_rfl) (by kernel_rfl) (laidMet_laidAll _ (by kernel_rfl) (by kernel_rfl)))) ?_
  intro W base args ds gs before hval hW _ hcond hsz hL _ _
  exact law_contract rfl rfl rfl (fun _ _ => rfl) (by kernel_rfl) (of_decide_eq_true (by kernel_rfl)) W base args ds gs before hval hW hsz (fun v d p hv h0 hlt hw e1 e2 => minimalNew_walk enc W base hL v d p hv h0 hlt hw (by have := hcond _ rfl; rw [e1, e2] at this; exact this))
theorem minimalNew_said : Rows.MinimalNewUptoSaid :=
  OpenClaim.holds_of_cond 3 Tryd.f3 rfl rfl rfl rfl rfl rfl rfl ⟨rfl, rfl, rfl, rfl, rfl⟩ rfl rfl rfl rfl rfl (by kernel_rfl) Tryd.func3 (by kernel_rfl)
    (of_decide_eq_true (by kernel_rfl)) (by unfold Func.isWrapper; first | (rw [if_pos (by decide +kernel)]; kernel_rfl) | (rw [if_neg (by decide +kernel)]; exact ⟨rfl, rfl⟩))
    (fun os started H enc _ F => by rw [OpenClaim.pre_eq_preRow]; exact minimalNew_lifted os started H enc F)
theorem minimalNew_plain (f : FuncId) (fn : Func) (hf : Tryd.pinned.checked.prog.funcNamed "caesura/caesuralaw13.MinimalNew" = some f) (hfn : Tryd.pinned.checked.prog.funcs[f]? = some fn) :
    false = Tryd.pinned.checked.prog.looks [] ∧ ∀ (j : Nat) t, fn.params[j]? = some t → Tryd.pinned.checked.prog.wantsStandIn t = false := by
  obtain rfl : f = 3 := Option.some.inj ((show Tryd.prog.funcNamed "caesura/caesuralaw13.MinimalNew" = some 3 by kernel_rfl).symm.trans hf) |>.symm
  obtain rfl : fn = Tryd.f3 := (Option.some.inj (Tryd.func3.symm.trans hfn)).symm
  refine ⟨by kernel_rfl, fun j t ht => ?_⟩
  rw [Tryd.params3] at ht
  obtain rfl : t = 27 := by simpa using Array.mem_of_getElem? ht
  exact (show Tryd.prog.wantsStandIn 27 = false by kernel_rfl)
theorem minimalNew_card : Rows.MinimalNewUptoCardSaid :=
  Claim7.holds_tied_plain_at .later [] _ _ _ _ minimalNew_said (fun _ h => by cases h) (by kernel_rfl) (fun _ h => by cases h) minimalNewUpto_row_tie rfl ⟨rfl, rfl⟩ (by kernel_rfl) rfl minimalNew_plain (by kernel_rfl)
end Go.Proofs.YtjmmckkiicefhaaDoor
