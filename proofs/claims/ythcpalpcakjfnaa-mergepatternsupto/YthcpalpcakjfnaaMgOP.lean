/-
  Rules and entries that are read, where what is read is of the bulk that the second form tells; the row's statement of MergePatterns.
-/
import Derived.Test.YthcpalpcakjfnaaMgPfW
import Derived.Test.YthcpalpcakjfnaaDoorN
import Derived.ChangeSlices
import Derived.Deep.Slices
import Derived.Lay
namespace Go.Proofs.Ythcpalpcakjfnaa
open Go.ChangeShapes Go.WideShapes Go.ChangeAt Go.RowKit Go.Joins
theorem cellsStrX : Try.prog.cellsOf 9 = 1 := by kernel_rfl
theorem cellsIntX : Try.prog.cellsOf 3 = 1 := by kernel_rfl
theorem cellsBoolX : Try.prog.cellsOf 4 = 1 := by kernel_rfl
theorem cellsSetX : Try.prog.cellsOf 29 = 3 := by kernel_rfl
theorem cellsExprX : Try.prog.cellsOf 48 = 5 := by kernel_rfl
theorem cellsRangeX : Try.prog.cellsOf 62 = 2 := by kernel_rfl
theorem cellsRuleX : Try.prog.cellsOf 50 = 14 := by kernel_rfl
theorem cellsRulesX : Try.prog.cellsOf 31 = 6 := by kernel_rfl
theorem cellsStrsX : Try.prog.cellsOf 22 = 1 := by kernel_rfl
theorem cellsRangesX : Try.prog.cellsOf 27 = 1 := by kernel_rfl
theorem cellsExprsX : Try.prog.cellsOf 46 = 1 := by kernel_rfl
theorem cellsRulesLX : Try.prog.cellsOf 26 = 1 := by kernel_rfl
theorem cellsIntsX : Try.prog.cellsOf 33 = 1 := by kernel_rfl
theorem cellsRowsX : Try.prog.cellsOf 32 = 1 := by kernel_rfl
theorem cellsPropX : Try.prog.cellsOf 25 = 2 := by kernel_rfl
theorem cellsGivenX : Try.prog.cellsOf 35 = 11 := by kernel_rfl
theorem bulk_one {H : Type} (d : DataW H) : 1 ≤ Rows.uptoBulk d := by
  cases d with
  | lit l => cases l <;> simp [Rows.uptoBulk]
  | nil => simp [Rows.uptoBulk]
  | ptr d => simp [Rows.uptoBulk]
  | slice elems spare => simp [Rows.uptoBulk]
  | agg parts => simp [Rows.uptoBulk]
  | iface t d => simp [Rows.uptoBulk]
  | map entries => simp [Rows.uptoBulk]
  | held h => simp [Rows.uptoBulk]
theorem bulk_part {H : Type} {d : DataW H} {l : List (DataW H)} (h : d ∈ l) : Rows.uptoBulk d ≤ Rows.uptoBulkAll l := by
  induction l with
  | nil => cases h
  | cons x r ih =>
    simp only [Rows.uptoBulkAll]
    cases List.mem_cons.1 h with
    | inl e => subst e; omega
    | inr e => have := ih e; omega
theorem bulk_len {H : Type} (l : List (DataW H)) : l.length ≤ Rows.uptoBulkAll l := by
  induction l with
  | nil => simp [Rows.uptoBulkAll]
  | cons x r ih => have := bulk_one x; simp only [Rows.uptoBulkAll, List.length_cons]; omega
/-- A part of a struct is of no greater bulk. -/
theorem bulk_field {H : Type} {x y : DataW H × List MemPlace} {xs : List (DataW H × List MemPlace)} (hx : x = (.agg (xs.map (·.1)), xs.flatMap (·.2))) (hy : y ∈ xs) : Rows.uptoBulk y.1 ≤ Rows.uptoBulk x.1 := by
  have h := bulk_part (d := y.1) (l := xs.map (·.1)) (List.mem_map.2 ⟨y, hy, rfl⟩)
  rw [hx]
  simp only [Rows.uptoBulk]
  omega
/-- A slice that is read: the cells of each of its elements; how many there are. -/
theorem open_rows {H : Type} {enc : TypeId × Value → H} {W : World} {t e : TypeId} {m : Nat} {n : Nat} {c : Value} {x : DataW H × List MemPlace} (ht : Try.prog.underlying t = some (.slice e)) (hm : Try.prog.cellsOf e = m) (hm0 : 0 < m)
    (h : DataW.trod enc Try.prog W 0 (fun _ => true) true n t [c] = some x) :
    c = .slice none 0 0 ∨ ∃ (a : Addr) (len cap k : Nat), n = k + 1 ∧ c = .slice (some a) len cap ∧ len ≤ Rows.uptoBulk x.1 ∧ ∀ i, i < len → ∃ (cs : List Value) (y : DataW H × List MemPlace), cs.length = m ∧ a = ⟨a.block, a.off, none⟩ ∧ (∀ j, j < m → W.cell? ⟨a.block, a.off + i * m + j, none⟩ = cs[j]?) ∧ DataW.trod enc Try.prog W 0 (fun _ => true) true k e cs = some y ∧ Rows.uptoBulk y.1 ≤ Rows.uptoBulk x.1 := by
  rcases DataW.trod_slice ht h with ⟨h0, _⟩ | ⟨a, len, cap, elems, rest, k, hk, hc, hx, hb, hl, hmx, hlen, hel, _, _⟩
  · simp only [List.cons.injEq, and_true] at h0
    exact .inl h0
  · simp only [List.cons.injEq, and_true] at hc
    rw [hm] at hel
    have hbk : ∀ y ∈ elems, Rows.uptoBulk y.1 ≤ Rows.uptoBulk x.1 := fun y hy => by
      have h1 := bulk_part (d := y.1) (l := elems.map (·.1)) (List.mem_map.2 ⟨y, hy, rfl⟩)
      rw [hx]
      simp only [Rows.uptoBulk]
      omega
    have key : ∀ i, i < len → ∃ cs y, W.cells? 0 (a.add (i * m)) m = some cs ∧ DataW.trod enc Try.prog W 0 (fun _ => true) true k e cs = some y ∧ Rows.uptoBulk y.1 ≤ Rows.uptoBulk x.1 := fun i hi => by
      have h1 := hel i hi
      rw [List.getElem?_eq_getElem (by omega), Option.bind_eq_some_iff] at h1
      obtain ⟨cs, h2, h3⟩ := h1
      exact ⟨cs, _, h2, h3, hbk _ (List.getElem_mem _)⟩
    refine .inr ⟨a, len, cap, k, hk, hc, ?_, fun i hi => ?_⟩
    · have h1 := bulk_len (elems.map (·.1))
      rw [List.length_map] at h1
      rw [hx]
      simp only [Rows.uptoBulk]
      omega
    obtain ⟨cs, y, h1, h2, h3⟩ := key i hi
    obtain ⟨cs0, y0, g1, _⟩ := key 0 (by omega)
    obtain ⟨_, hl0, hc0⟩ := World.cells?_some g1
    have hsp : a.spot = none := by
      have q := hc0 0 (by omega)
      rw [Deep.add_add, List.getElem?_eq_getElem (by omega)] at q
      exact World.cell?_spot (a := a.add 0) (by simpa using q)
    obtain ⟨_, hlc, hcc⟩ := World.cells?_some h1
    obtain ⟨ab, ao, asp⟩ := a
    simp only at hsp
    subst hsp
    refine ⟨cs, y, hlc, rfl, fun j hj => ?_, h2, h3⟩
    have q := hcc j hj
    rw [Deep.add_add, WideShapes.add_plain] at q
    rw [Nat.add_assoc]
    exact q
theorem lt_of_cellX {W : World} {b o : Nat} {u : Value} (h : W.cell? ⟨b, o, none⟩ = some u) : b < W.heap.size := World.block_lt_of_cell? W _ h
/-- Names that are read. -/
theorem open_namesX {H : Type} {enc : TypeId × Value → H} {W : World} {n : Nat} {c : Value} {x : DataW H × List MemPlace} (h : DataW.trod enc Try.prog W 0 (fun _ => true) true n 22 [c] = some x) :
    ∃ (a : Option Addr) (N : List ByteArray) (cap : Nat), c = .slice a N.length cap ∧ SQ W (fun g => g < W.heap.size) a N ∧ N.length ≤ Rows.uptoBulk x.1 ∧ (a = none → cap = 0) := by
  rcases open_rows Try.underlying22 cellsStrX (by omega) h with rfl | ⟨a, len, cap, k, _, rfl, hb, hx⟩
  · exact ⟨none, [], 0, rfl, ⟨fun k h => absurd h (Nat.not_lt_zero _)⟩, Nat.zero_le _, fun _ => rfl⟩
  · obtain ⟨T, hT⟩ := Deep.choose_lt (n := len) (p := fun i s => a = ⟨a.block, a.off, none⟩ ∧ W.cell? ⟨a.block, a.off + i, none⟩ = some (.string s)) (fun i hi => by
      obtain ⟨cs, y, h1, h2, h3, h4, _⟩ := hx i hi
      obtain ⟨s, e, _⟩ := DataW.trod_string Try.underlying9 h4
      have q := h3 0 (by omega)
      rw [e] at q
      exact ⟨s, h2, by simpa using q⟩)
    have hlen : ((List.range len).map T).length = len := by simp
    refine ⟨some a, (List.range len).map T, cap, by rw [hlen], ⟨fun k hk => ?_⟩, by rw [hlen]; exact hb, fun e => by cases e⟩
    rw [hlen] at hk
    have et : ((List.range len).map T)[k]'(by rw [hlen]; exact hk) = T k := by simp
    obtain ⟨p1, p2⟩ := hT k hk
    rw [et]
    exact ⟨a.block, a.off, by rw [← p1], lt_of_cellX p2, lt_of_cellX p2, p2⟩
set_option maxRecDepth 100000 in
/-- Ranges that are read. -/
theorem open_rangesX {H : Type} {enc : TypeId × Value → H} {W : World} {n : Nat} {c : Value} {x : DataW H × List MemPlace} (h : DataW.trod enc Try.prog W 0 (fun _ => true) true n 27 [c] = some x) :
    ∃ (a : Option Addr) (P : List (Int × Int)) (cap : Nat), c = .slice a P.length cap ∧ RQ W (fun g => g < W.heap.size) a P ∧ P.length ≤ Rows.uptoBulk x.1 ∧ (a = none → cap = 0) := by
  rcases open_rows Try.underlying27 cellsRangeX (by omega) h with rfl | ⟨a, len, cap, k, _, rfl, hb, hx⟩
  · exact ⟨none, [], 0, rfl, ⟨fun k h => absurd h (Nat.not_lt_zero _)⟩, Nat.zero_le _, fun _ => rfl⟩
  · obtain ⟨T, hT⟩ := Deep.choose_lt (n := len) (p := fun i (s : Int × Int) => a = ⟨a.block, a.off, none⟩ ∧ W.cell? ⟨a.block, a.off + i * 2, none⟩ = some (.int .i64 s.1) ∧ W.cell? ⟨a.block, a.off + i * 2 + 1, none⟩ = some (.int .i64 s.2)) (fun i hi => by
      obtain ⟨cs, y, h1, h2, h3, h4, _⟩ := hx i hi
      obtain ⟨xs, k2, _, _, _, hxl, hfs⟩ := DataW.trod_struct Try.underlying62 h4
      match cs, h1 with
      | [v0, v1], _ =>
        obtain ⟨y0, y1, rfl⟩ : ∃ y0 y1, xs = [y0, y1] := by
          match xs, hxl with
          | [y0, y1], _ => exact ⟨y0, y1, rfl⟩
        have f0 := hfs 0 _ rfl
        have f1 := hfs 1 _ rfl
        simp [cellsIntX] at f0 f1
        obtain ⟨m0, e0, _⟩ := DataW.trod_int Try.underlying3 f0
        obtain ⟨m1, e1, _⟩ := DataW.trod_int Try.underlying3 f1
        simp only [List.cons.injEq, and_true] at e0 e1
        subst e0 e1
        exact ⟨(m0, m1), h2, h3 0 (by omega), h3 1 (by omega)⟩)
    have hlen : ((List.range len).map T).length = len := by simp
    refine ⟨some a, (List.range len).map T, cap, by rw [hlen], ⟨fun k hk => ?_⟩, by rw [hlen]; exact hb, fun e => by cases e⟩
    rw [hlen] at hk
    have et : ((List.range len).map T)[k]'(by rw [hlen]; exact hk) = T k := by simp
    obtain ⟨p1, p2, p3⟩ := hT k hk
    rw [et]
    exact ⟨a.block, a.off, by rw [← p1], lt_of_cellX p2, p2, p3⟩
/-- A set that is read. -/
theorem open_setX {H : Type} {enc : TypeId × Value → H} {W : World} {n : Nat} {c0 c1 c2 : Value} {x : DataW H × List MemPlace} (h : DataW.trod enc Try.prog W 0 (fun _ => true) true n 29 [c0, c1, c2] = some x) :
    ∃ (nt : Bool) (a : Option Addr) (N : List ByteArray) (ca : Nat) (b : Option Addr) (P : List (Int × Int)) (cb : Nat), c0 = .bool nt ∧ c1 = .slice a N.length ca ∧ c2 = .slice b P.length cb ∧ SQ W (fun g => g < W.heap.size) a N ∧ RQ W (fun g => g < W.heap.size) b P ∧ N.length ≤ Rows.uptoBulk x.1 ∧ P.length ≤ Rows.uptoBulk x.1 ∧ (a = none → ca = 0) ∧ (b = none → cb = 0) := by
  obtain ⟨zs, k1, _, hx, _, hzl, hgs⟩ := DataW.trod_struct Try.underlying29 h
  obtain ⟨z0, z1, z2, rfl⟩ : ∃ z0 z1 z2, zs = [z0, z1, z2] := by
    match zs, hzl with
    | [z0, z1, z2], _ => exact ⟨z0, z1, z2, rfl⟩
  have g0 := hgs 0 _ rfl
  have g1 := hgs 1 _ rfl
  have g2 := hgs 2 _ rfl
  simp [cellsBoolX] at g0
  simp [cellsStrsX] at g1
  simp [cellsRangesX] at g2
  obtain ⟨nt, e1, _⟩ := DataW.trod_bool Try.underlying4 g0
  simp only [List.cons.injEq, and_true] at e1
  obtain ⟨a, N, ca, rfl, hN, lN, nN⟩ := open_namesX g1
  obtain ⟨b, P, cb, rfl, hP, lP, nP⟩ := open_rangesX g2
  have b1 := bulk_field hx (show z1 ∈ [z0, z1, z2] by simp)
  have b2 := bulk_field hx (show z2 ∈ [z0, z1, z2] by simp)
  exact ⟨nt, a, N, ca, b, P, cb, e1, rfl, rfl, hN, hP, by omega, by omega, nN, nP⟩
instance : Inhabited (Ex × EV) := ⟨(.mk 0 false [] [] [], ⟨.nilIface, .nilIface, .nilIface, .nilIface, .nilIface⟩)⟩
set_option maxRecDepth 100000 in
/-- An expression that is read. -/
theorem open_exprX {H : Type} {enc : TypeId × Value → H} {W : World} : ∀ (n : Nat) (cs : List Value) (x : DataW H × List MemPlace), DataW.trod enc Try.prog W 0 (fun _ => true) true n 48 cs = some x → Rows.uptoBulk x.1 ≤ 1048576 → ∃ t : Ex × EV, cs = evC t.2 ∧ ExH W (fun g => g < W.heap.size) t.1 t.2 := by
  intro n
  induction n using Nat.strongRecOn with
  | _ n ih =>
    intro cs x h hbk
    obtain ⟨xs, k, hk, hx, hlen, hxl, hfs⟩ := DataW.trod_struct Try.underlying48 h
    rw [cellsExprX] at hlen
    match cs, hlen with
    | [v0, v1, v2, v3, v4], _ =>
      obtain ⟨y0, y1, y2, rfl⟩ : ∃ y0 y1 y2, xs = [y0, y1, y2] := by
        match xs, hxl with
        | [y0, y1, y2], _ => exact ⟨y0, y1, y2, rfl⟩
      have f0 := hfs 0 _ rfl
      have f1 := hfs 1 _ rfl
      have f2 := hfs 2 _ rfl
      simp [cellsIntX] at f0
      simp [cellsSetX] at f1
      simp [cellsExprsX] at f2
      obtain ⟨m0, e0, _⟩ := DataW.trod_int Try.underlying3 f0
      simp only [List.cons.injEq, and_true] at e0
      obtain ⟨nt, a, N, ca, b, P, cb, rfl, rfl, rfl, hN, hP, lN, lP, nN, nP⟩ := open_setX f1
      have b1 := bulk_field hx (show y1 ∈ [y0, y1, y2] by simp)
      have b2 := bulk_field hx (show y2 ∈ [y0, y1, y2] by simp)
      subst e0
      rcases open_rows Try.underlying46 cellsExprX (by omega) f2 with rfl | ⟨c, len, cap, k2, hk2, rfl, hb2, hx2⟩
      · exact ⟨(.mk m0 nt N P [], ⟨.int .i64 m0, .bool nt, .slice a N.length ca, .slice b P.length cb, .slice none 0 0⟩), rfl, .mk m0 nt N P [] a ca b cb none 0 (fun _ => ⟨.nilIface, .nilIface, .nilIface, .nilIface, .nilIface⟩) hN hP (by omega) (by omega) (by simp) nN nP (fun i hi => absurd hi (Nat.not_lt_zero _)) (fun i hi => absurd hi (Nat.not_lt_zero _))⟩
      · obtain ⟨T, hT⟩ := Deep.choose_lt (n := len) (p := fun i (t : Ex × EV) => c = ⟨c.block, c.off, none⟩ ∧ Five W c.block (c.off + i * 5) t.2 ∧ ExH W (fun g => g < W.heap.size) t.1 t.2) (fun i hi => by
          obtain ⟨cs, y, h1, h2, h3, h4, h5⟩ := hx2 i hi
          obtain ⟨t, e, ht⟩ := ih k2 (by omega) cs y h4 (by omega)
          rw [e] at h3
          exact ⟨t, h2, ⟨h3 0 (by omega), h3 1 (by omega), h3 2 (by omega), h3 3 (by omega), h3 4 (by omega)⟩, ht⟩)
        have hlen2 : ((List.range len).map fun i => (T i).1).length = len := by simp
        refine ⟨(.mk m0 nt N P ((List.range len).map fun i => (T i).1), ⟨.int .i64 m0, .bool nt, .slice a N.length ca, .slice b P.length cb, .slice (some c) ((List.range len).map fun i => (T i).1).length cap⟩), by rw [hlen2]; rfl, .mk m0 nt N P _ a ca b cb (some c) cap (fun i => (T i).2) hN hP (by omega) (by omega) (by rw [hlen2]; omega) nN nP (fun i hi => ?_) (fun i hi => ?_)⟩
        · rw [hlen2] at hi
          obtain ⟨p1, p2, _⟩ := hT i hi
          exact ⟨c.block, c.off, by rw [← p1], lt_of_cellX p2.k, p2⟩
        · have hi' : i < len := by rw [hlen2] at hi; exact hi
          have et : ((List.range len).map fun i => (T i).1)[i]'hi = (T i).1 := by simp
          rw [et]
          exact (hT i hi').2.2
instance : Inhabited Rm := ⟨⟨⟨ByteArray.empty, .mk 0 false [] [] [], .mk 0 false [] [] [], false, false, false⟩, ⟨.nilIface, .nilIface, .nilIface, .nilIface, .nilIface⟩, ⟨.nilIface, .nilIface, .nilIface, .nilIface, .nilIface⟩⟩⟩
set_option maxRecDepth 100000 in
/-- Rules that are read. -/
theorem open_rulesX {H : Type} {enc : TypeId × Value → H} {W : World} {n : Nat} {c : Value} {x : DataW H × List MemPlace} (h : DataW.trod enc Try.prog W 0 (fun _ => true) true n 26 [c] = some x) (hbk : Rows.uptoBulk x.1 ≤ 1048576) :
    ∃ (a : Option Addr) (R : List Ru) (cap : Nat) (xs ys : Nat → EV), c = .slice a R.length cap ∧ RuH W W.heap.size a R xs ys ∧ R.length ≤ Rows.uptoBulk x.1 := by
  rcases open_rows Try.underlying26 cellsRuleX (by omega) h with rfl | ⟨a, len, cap, k, _, rfl, hb, hx⟩
  · exact ⟨none, [], 0, fun _ => ⟨.nilIface, .nilIface, .nilIface, .nilIface, .nilIface⟩, fun _ => ⟨.nilIface, .nilIface, .nilIface, .nilIface, .nilIface⟩, rfl, ⟨fun k h => absurd h (Nat.not_lt_zero _), fun k h => absurd h (Nat.not_lt_zero _), fun k h => absurd h (Nat.not_lt_zero _)⟩, Nat.zero_le _⟩
  · obtain ⟨T, hT⟩ := Deep.choose_lt (n := len) (p := fun i (z : Rm) => a = ⟨a.block, a.off, none⟩ ∧ Ft W a.block (a.off + i * 14) z.u z.x z.y ∧ ExH W (fun g => g < W.heap.size) z.u.l z.x ∧ ExH W (fun g => g < W.heap.size) z.u.r z.y) (fun i hi => by
      obtain ⟨cs, y, h1, h2, h3, h4, h5⟩ := hx i hi
      obtain ⟨ss, k2, _, hxs, _, hxl, hfs⟩ := DataW.trod_struct Try.underlying50 h4
      match cs, h1 with
      | [v0, v1, v2, v3, v4, v5, v6, v7, v8, v9, v10, v11, v12, v13], _ =>
        obtain ⟨y0, y1, y2, y3, y4, y5, rfl⟩ : ∃ y0 y1 y2 y3 y4 y5, ss = [y0, y1, y2, y3, y4, y5] := by
          match ss, hxl with
          | [y0, y1, y2, y3, y4, y5], _ => exact ⟨y0, y1, y2, y3, y4, y5, rfl⟩
        have f0 := hfs 0 _ rfl
        have f1 := hfs 1 _ rfl
        have f2 := hfs 2 _ rfl
        have f3 := hfs 3 _ rfl
        have f4 := hfs 4 _ rfl
        have f5 := hfs 5 _ rfl
        simp [cellsStrX] at f0
        simp [cellsExprX] at f1 f2
        simp [cellsBoolX] at f3 f4 f5
        obtain ⟨nm, e0, _⟩ := DataW.trod_string Try.underlying9 f0
        have b1 := bulk_field hxs (show y1 ∈ [y0, y1, y2, y3, y4, y5] by simp)
        have b2 := bulk_field hxs (show y2 ∈ [y0, y1, y2, y3, y4, y5] by simp)
        obtain ⟨⟨l, xl⟩, e1, hl⟩ := open_exprX k2 _ y1 f1 (by omega)
        obtain ⟨⟨r, xr⟩, e2, hr⟩ := open_exprX k2 _ y2 f2 (by omega)
        obtain ⟨bs, e3, _⟩ := DataW.trod_bool Try.underlying4 f3
        obtain ⟨bt, e4, _⟩ := DataW.trod_bool Try.underlying4 f4
        obtain ⟨bb, e5, _⟩ := DataW.trod_bool Try.underlying4 f5
        simp only [List.cons.injEq, and_true, evC] at e0 e1 e2 e3 e4 e5
        obtain ⟨rfl, rfl, rfl, rfl, rfl⟩ := e1
        obtain ⟨rfl, rfl, rfl, rfl, rfl⟩ := e2
        subst e0 e3 e4 e5
        exact ⟨⟨⟨nm, l, r, bs, bt, bb⟩, xl, xr⟩, h2, Ft.of (fun j hj => h3 j hj), hl, hr⟩)
    have hlen : ((List.range len).map fun i => (T i).u).length = len := by simp
    refine ⟨some a, (List.range len).map fun i => (T i).u, cap, fun i => (T i).x, fun i => (T i).y, by rw [hlen], ⟨fun i hi => ?_, fun i hi => ?_, fun i hi => ?_⟩, by rw [hlen]; exact hb⟩
    · have hi' : i < len := by rw [hlen] at hi; exact hi
      have et : ((List.range len).map fun i => (T i).u)[i]'hi = (T i).u := by simp
      rw [et]
      exact ⟨a.block, a.off, by rw [← (hT i hi').1], (hT i hi').2.1⟩
    · have hi' : i < len := by rw [hlen] at hi; exact hi
      have et : ((List.range len).map fun i => (T i).u)[i]'hi = (T i).u := by simp
      rw [et]
      exact (hT i hi').2.2.1
    · have hi' : i < len := by rw [hlen] at hi; exact hi
      have et : ((List.range len).map fun i => (T i).u)[i]'hi = (T i).u := by simp
      rw [et]
      exact (hT i hi').2.2.2
/-- Numbers that are read. -/
theorem open_intsX {H : Type} {enc : TypeId × Value → H} {W : World} {n : Nat} {c : Value} {x : DataW H × List MemPlace} (h : DataW.trod enc Try.prog W 0 (fun _ => true) true n 33 [c] = some x) :
    ∃ (a : Option Addr) (L : List Int) (cap : Nat), c = .slice a L.length cap ∧ IA W a L ∧ L.length ≤ Rows.uptoBulk x.1 := by
  rcases open_rows Try.underlying33 cellsIntX (by omega) h with rfl | ⟨a, len, cap, k, _, rfl, hb, hx⟩
  · exact ⟨none, [], 0, rfl, ⟨fun k h => absurd h (Nat.not_lt_zero _)⟩, Nat.zero_le _⟩
  · obtain ⟨T, hT⟩ := Deep.choose_lt (n := len) (p := fun i (s : Int) => a = ⟨a.block, a.off, none⟩ ∧ W.cell? ⟨a.block, a.off + i, none⟩ = some (.int .i64 s)) (fun i hi => by
      obtain ⟨cs, y, h1, h2, h3, h4, _⟩ := hx i hi
      obtain ⟨s, e, _⟩ := DataW.trod_int Try.underlying3 h4
      have q := h3 0 (by omega)
      rw [e] at q
      exact ⟨s, h2, by simpa using q⟩)
    have hlen : ((List.range len).map T).length = len := by simp
    refine ⟨some a, (List.range len).map T, cap, by rw [hlen], ⟨fun k hk => ?_⟩, by rw [hlen]; exact hb⟩
    rw [hlen] at hk
    have et : ((List.range len).map T)[k]'(by rw [hlen]; exact hk) = T k := by simp
    obtain ⟨p1, p2⟩ := hT k hk
    rw [et]
    exact ⟨a.block, a.off, by rw [← p1], lt_of_cellX p2, p2⟩
/-- Lists of numbers that are read. -/
theorem open_rowsX {H : Type} {enc : TypeId × Value → H} {W : World} {n : Nat} {c : Value} {x : DataW H × List MemPlace} (h : DataW.trod enc Try.prog W 0 (fun _ => true) true n 32 [c] = some x) :
    ∃ (a : Option Addr) (E : List (List Int)) (cap : Nat), c = .slice a E.length cap ∧ RwA W a E ∧ E.length ≤ Rows.uptoBulk x.1 ∧ ∀ r ∈ E, r.length ≤ Rows.uptoBulk x.1 := by
  rcases open_rows Try.underlying32 cellsIntsX (by omega) h with rfl | ⟨a, len, cap, k, _, rfl, hb, hx⟩
  · exact ⟨none, [], 0, rfl, ⟨fun k h => absurd h (Nat.not_lt_zero _)⟩, Nat.zero_le _, fun _ h => by cases h⟩
  · obtain ⟨T, hT⟩ := Deep.choose_lt (n := len) (p := fun i (s : List Int) => a = ⟨a.block, a.off, none⟩ ∧ (∃ a1 c1, W.cell? ⟨a.block, a.off + i, none⟩ = some (.slice a1 s.length c1) ∧ IA W a1 s) ∧ s.length ≤ Rows.uptoBulk x.1) (fun i hi => by
      obtain ⟨cs, y, h1, h2, h3, h4, h5⟩ := hx i hi
      match cs, h1 with
      | [v0], _ =>
        obtain ⟨a1, L, c1, rfl, hI, hl⟩ := open_intsX h4
        have q := h3 0 (by omega)
        exact ⟨L, h2, ⟨a1, c1, by simpa using q, hI⟩, by omega⟩)
    have hlen : ((List.range len).map T).length = len := by simp
    refine ⟨some a, (List.range len).map T, cap, by rw [hlen], ⟨fun k hk => ?_⟩, by rw [hlen]; exact hb, fun r hr => ?_⟩
    · rw [hlen] at hk
      have et : ((List.range len).map T)[k]'(by rw [hlen]; exact hk) = T k := by simp
      obtain ⟨p1, ⟨a1, c1, p2, p3⟩, _⟩ := hT k hk
      rw [et]
      exact ⟨a.block, a.off, by rw [← p1], lt_of_cellX p2, a1, c1, p2, p3⟩
    · obtain ⟨i, hi, rfl⟩ := List.mem_map.1 hr
      exact (hT i (List.mem_range.1 hi)).2.2
set_option maxRecDepth 100000 in
theorem mergePatterns_walk {H : Type} (enc : TypeId × Value → H) (W : World) (base : Nat) (v : Value) (d : DataW H) (p : List MemPlace) (hv : Value.okWide Try.prog W .any base 35 v)
    (h0 : DataW.Trod enc Try.prog W 0 (fun _ => true) true 35 v d p) (hk : Rows.uptoSmall H ([d] ++ []) = true) :
    Calls Try.prog 3 #[v] W fun e W' => e = .returned (.bool true) ∧ Below W.heap.size W W' := by
  have hs := of_decide_eq_true hk
  simp only [List.append_nil, Rows.uptoBulkAll] at hs
  obtain ⟨fuel, hf⟩ := h0
  have hcs : ∃ cs, v = .agg cs := by
    simp only [Value.okWide, Try.underlying35] at hv
    obtain ⟨cs, h1, _⟩ := hv
    exact ⟨cs, h1⟩
  obtain ⟨cs, rfl⟩ := hcs
  obtain ⟨xs, n, _, hx, hlen, hxl, hfs⟩ := DataW.trod_struct Try.underlying35 hf
  rw [cellsGivenX] at hlen
  obtain ⟨l⟩ := cs
  match l, hlen with
  | [c0, c1, c2, c3, c4, c5, c6, c7, c8, c9, c10], _ =>
    obtain ⟨y0, y1, y2, y3, y4, rfl⟩ : ∃ y0 y1 y2 y3 y4, xs = [y0, y1, y2, y3, y4] := by
      match xs, hxl with
      | [y0, y1, y2, y3, y4], _ => exact ⟨y0, y1, y2, y3, y4, rfl⟩
    have f1 := hfs 1 _ rfl
    have f2 := hfs 2 _ rfl
    have m1 : DataW.trod enc Try.prog W 0 (fun _ => true) true n 31 [c2, c3, c4, c5, c6, c7] = some y1 := by simpa [Value.cells, cellsPropX, cellsRulesX] using f1
    have m2 : DataW.trod enc Try.prog W 0 (fun _ => true) true n 32 [c8] = some y2 := by simpa [Value.cells, cellsPropX, cellsRulesX, cellsRowsX] using f2
    have b1 : Rows.uptoBulk y1.1 ≤ Rows.uptoBulk d := bulk_field (x := (d, p)) hx (show y1 ∈ [y0, y1, y2, y3, y4] by simp)
    have b2 : Rows.uptoBulk y2.1 ≤ Rows.uptoBulk d := bulk_field (x := (d, p)) hx (show y2 ∈ [y0, y1, y2, y3, y4] by simp)
    clear f1 f2 hfs
    obtain ⟨aE, E, cE, rfl, hE, lE, rE⟩ := open_rowsX m2
    obtain ⟨zs, n1, _, hx1, _, hzl, hgs⟩ := DataW.trod_struct Try.underlying31 m1
    obtain ⟨z0, z1, z2, z3, rfl⟩ : ∃ z0 z1 z2 z3, zs = [z0, z1, z2, z3] := by
      match zs, hzl with
      | [z0, z1, z2, z3], _ => exact ⟨z0, z1, z2, z3, rfl⟩
    have e0 := hgs 0 _ rfl
    have e1 := hgs 1 _ rfl
    have e2 := hgs 2 _ rfl
    have e3 := hgs 3 _ rfl
    have g0 : DataW.trod enc Try.prog W 0 (fun _ => true) true n1 26 [c2] = some z0 := by simpa [cellsRulesLX, cellsIntX, cellsSetX, cellsBoolX] using e0
    have g1 : DataW.trod enc Try.prog W 0 (fun _ => true) true n1 3 [c3] = some z1 := by simpa [cellsRulesLX, cellsIntX, cellsSetX, cellsBoolX] using e1
    have g2 : DataW.trod enc Try.prog W 0 (fun _ => true) true n1 29 [c4, c5, c6] = some z2 := by simpa [cellsRulesLX, cellsIntX, cellsSetX, cellsBoolX] using e2
    have g3 : DataW.trod enc Try.prog W 0 (fun _ => true) true n1 4 [c7] = some z3 := by simpa [cellsRulesLX, cellsIntX, cellsSetX, cellsBoolX] using e3
    have bz0 := bulk_field hx1 (show z0 ∈ [z0, z1, z2, z3] by simp)
    have bz2 := bulk_field hx1 (show z2 ∈ [z0, z1, z2, z3] by simp)
    obtain ⟨c, R, cc, xs', ys', rfl, hR, lR⟩ := open_rulesX g0 (by omega)
    obtain ⟨s, q1, _, _⟩ := DataW.trod_int Try.underlying3 g1
    simp only [List.cons.injEq, and_true] at q1
    subst q1
    obtain ⟨nt, a, N, ca, b, P, cb, rfl, rfl, rfl, hN, hP, lN, lP, nN, nP⟩ := open_setX g2
    obtain ⟨el, q3, _⟩ := DataW.trod_bool Try.underlying4 g3
    simp only [List.cons.injEq, and_true] at q3
    subst q3
    exact mergePatterns_any s nt el N P R E a b c aE ca cb cc cE xs' ys' c0 c1 c9 c10 W (by omega) (by omega) (by omega) (by omega) (fun r hr => by have := rE r hr; omega) nN nP hN.sa hP.ra hR hE
set_option maxRecDepth 100000 in
theorem mergePatterns_lifted (os : Os) (started : os.Started) (H : Type) (enc : TypeId × Value → H) (F : Stop.Interp) :
    ReturnsInHanded {} Try.checked os 3 .any ((Rows.OpenSpec.upto Rows.mergePatternsSpec).preRow enc Try.prog Try.f3 Rows.mergePatternsUptoRow.domain false Rows.mergePatternsUptoRow.laid) (((Rows.OpenSpec.upto Rows.mergePatternsSpec).at F).post enc Try.prog Try.f3 false true false false) := by
  refine returnsInHanded_of_row (C := Try.checked) (s := Rows.OpenSpec.upto Rows.mergePatternsSpec) own started (by kernel_rfl) Try.func3
    (witness_row_shaped (enc := enc) (C := Try.checked) (World.laidAll Try.prog os Rows.mergePatternsUptoRow.laid) #[.agg #[.slice none 0 0, .slice none 0 0, .slice none 0 0, .int .i64 0, .bool false, .slice none 0 0, .slice none 0 0, .bool false, .slice none 0 0, .slice none 0 0, .int .i64 0]] (World.laidAll_os _ _ _) (World.shaped_of_ZipB (by kernel_rfl) (by kernel_rfl)) (by kernel_rfl)
      (OpenSpec.preRow_of_cond 8 (x := ([.agg [.agg [.nil, .nil], .agg [.nil, .lit (.int .i64 0), .agg [.lit (.bool false), .nil, .nil], .lit (.bool false)], .nil, .nil, .lit (.int .i64 0)]], [], [])) (by kernel_rfl) (by kernel_rfl) (fun k hk => by cases hk; kernel_rfl) (by kernel_rfl) (laidMet_laidAll _ (by kernel_rfl) (by kernel_rfl)))) ?_
  intro W base args ds gs before hval hW _ hcond hsz _ _ _
  exact law_contract rfl rfl rfl (fun _ _ => rfl) (by kernel_rfl) (of_decide_eq_true (by kernel_rfl)) W base args ds gs before hval hW hsz (fun v d p hv h0 _ _ e1 e2 => mergePatterns_walk enc W base v d p hv h0 (by have := hcond _ rfl; rw [e1, e2] at this; exact this))
theorem mergePatterns_said : Rows.MergePatternsUptoSaid :=
  OpenClaim.holds_of_cond 3 Try.f3 rfl rfl rfl rfl rfl rfl rfl ⟨rfl, rfl, rfl, rfl, rfl⟩ rfl rfl rfl rfl rfl (by kernel_rfl) Try.func3 (by kernel_rfl)
    (of_decide_eq_true (by kernel_rfl)) (by unfold Func.isWrapper; first | (rw [if_pos (by decide +kernel)]; kernel_rfl) | (rw [if_neg (by decide +kernel)]; exact ⟨rfl, rfl⟩))
    (fun os started H enc _ F => by rw [OpenClaim.pre_eq_preRow]; exact mergePatterns_lifted os started H enc F)
end Go.Proofs.Ythcpalpcakjfnaa
