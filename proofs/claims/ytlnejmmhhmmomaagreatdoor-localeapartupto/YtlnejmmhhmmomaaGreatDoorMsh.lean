/-
  LqP.
-/
import Derived.Test.YtlnejmmhhmmomaaGreatDoorMsg
import Derived.Lib.LaidU8
import Derived.Shelf.Vars
import Derived.Lay
import Derived.LaidMore
import Derived.ChangeSlices
import Derived.Deep.Slices
namespace Go.Proofs.YtlnejmmhhmmomaaGreatDoor
open Go.ChangeShapes Go.WideShapes Go.ChangeAt Go.RowKit Go.Joins
theorem laid_tail {P : Program} {w : World} {x : String × DataW Unit} {l : List (String × DataW Unit)} (h : laidMet P (x :: l) w) : laidMet P l w := by
  obtain ⟨ps, hl, hnd, hrows⟩ := h
  obtain ⟨g0, t0, cs0, f0, p0, q0, hg0, ht0, hv0, hd0, hl', rfl⟩ := hl
  exact ⟨q0, hl', (List.nodup_append.1 hnd).2.1, fun b off hb => hrows b off (List.mem_append_right _ hb)⟩
theorem first_data : (Rows.laid_unicode_utf8_first : DataW Unit) = Lib.firstData := by kernel_rfl
theorem accept_data : (Rows.laid_unicode_utf8_acceptRanges : DataW Unit) = Lib.acceptData := by kernel_rfl
theorem tb_of {W : World} (h3 : Lib.VarReads Tryz.prog W "unicode/utf8.first" Lib.firstData) (h4 : Lib.VarReads Tryz.prog W "unicode/utf8.acceptRanges" Lib.acceptData) : Tb W :=
  utf8Tabs_of_reads (ρ := Tryz.lays230_ren) { Tryz.lays230 with } ⟨by kernel_rfl, by kernel_rfl, by kernel_rfl, by kernel_rfl, by kernel_rfl, by kernel_rfl, by kernel_rfl⟩ h3 h4
theorem mx_of {W : World} (h : W.ShapedOpen Tryz.prog) : Mx W :=
  cell_of_shapedOpen_int (g := 11) (t := 3) (zero := #[.int .i64 0]) (k := .i64) h (of_decide_eq_true (by kernel_rfl)) (by kernel_rfl) rfl (by kernel_rfl) (by kernel_rfl) Tryz.underlying3
theorem cellsBool : Tryz.prog.cellsOf 4 = 1 := by kernel_rfl
theorem cellsEdit : Tryz.prog.cellsOf 42 = 2 := by kernel_rfl
theorem cellsEdits : Tryz.prog.cellsOf 38 = 1 := by kernel_rfl
theorem cellsSec : Tryz.prog.cellsOf 40 = 3 := by kernel_rfl
theorem cellsSecs : Tryz.prog.cellsOf 22 = 1 := by kernel_rfl
theorem cellsBundle : Tryz.prog.cellsOf 24 = 1 := by kernel_rfl
theorem cellsAsked : Tryz.prog.cellsOf 26 = 2 := by kernel_rfl
theorem lt_of_cell {W : World} {b o : Nat} {u : Value} (h : W.cell? ⟨b, o, none⟩ = some u) : b < W.heap.size := World.block_lt_of_cell? W _ h
theorem bulk_one {H : Type} (D : Nat → DataW H) (l : List Nat) (h : ∀ i ∈ l, 1 ≤ Rows.uptoBulk (D i)) : l.length ≤ Rows.uptoBulkAll (l.map D) := by
  induction l with
  | nil => simp
  | cons x r ih => rw [List.map_cons, Rows.uptoBulkAll, List.length_cons]; have h1 := h x (.head _); have := ih (fun i hi => h i (.tail _ hi)); omega
theorem bulk_mem {H : Type} (D : Nat → DataW H) (l : List Nat) (i : Nat) (h : i ∈ l) : Rows.uptoBulk (D i) ≤ Rows.uptoBulkAll (l.map D) := by
  induction l with
  | nil => cases h
  | cons x r ih =>
    rw [List.map_cons, Rows.uptoBulkAll]
    rcases List.mem_cons.1 h with rfl | h
    · omega
    · have := ih h; omega
theorem bulk_pos {H : Type} (d : DataW H) : 1 ≤ Rows.uptoBulk d := by
  cases d with
  | lit l => cases l <;> simp [Rows.uptoBulk]
  | _ => simp [Rows.uptoBulk]
theorem bulk_four {H : Type} (D : Nat → DataW H) (l : List Nat) (h : ∀ i ∈ l, 4 ≤ Rows.uptoBulk (D i)) : l.length * 4 ≤ Rows.uptoBulkAll (l.map D) := by
  induction l with
  | nil => simp
  | cons x r ih => rw [List.map_cons, Rows.uptoBulkAll, List.length_cons]; have h1 := h x (.head _); have := ih (fun i hi => h i (.tail _ hi)); omega
set_option maxRecDepth 100000 in
theorem open_edit {H : Type} {enc : TypeId × Value → H} {w : World} {base : Nat} {spare : Nat → Bool} {held : Bool} {n : Nat} {a : Addr} {i : Nat} {cs : List Value} {x : DataW H × List MemPlace}
    (h1 : w.cells? base (a.add (i * 2)) 2 = some cs) (h2 : DataW.trod enc Tryz.prog w base spare held n 42 cs = some x) :
    ∃ t : Bool × ByteArray, (i = 0 → a.spot = none) ∧ (a.spot = none → w.cell? ⟨a.block, a.off + i * 2, none⟩ = some (.bool t.1) ∧ w.cell? ⟨a.block, a.off + i * 2 + 1, none⟩ = some (.string t.2)) ∧ 1 ≤ Rows.uptoBulk x.1 ∧ t.2.size ≤ Rows.uptoBulk x.1 := by
  obtain ⟨_, hlen, hcell⟩ := World.cells?_some h1
  obtain ⟨xs, k, _, hx, _, hxl, hfs⟩ := DataW.trod_struct Tryz.underlying42 h2
  match cs, hlen with
  | [v0, v1], _ =>
    obtain ⟨y0, y1, rfl⟩ : ∃ y0 y1, xs = [y0, y1] := by
      match xs, hxl with
      | [y0, y1], _ => exact ⟨y0, y1, rfl⟩
    have f0 := hfs 0 _ rfl
    have f1 := hfs 1 _ rfl
    simp [cellsBool] at f0
    simp [cellsStr] at f1
    obtain ⟨m0, e0, _⟩ := DataW.trod_bool Tryz.underlying4 f0
    obtain ⟨m1, e1, rfl, _⟩ := DataW.trod_string Tryz.underlying9 f1
    simp only [List.cons.injEq, and_true] at e0 e1
    subst e0 e1
    have q0 := hcell 0 (by omega)
    have q1 := hcell 1 (by omega)
    rw [Deep.add_add] at q0 q1
    refine ⟨(m0, m1), fun hi => ?_, fun hsp => ?_, ?_, ?_⟩
    · subst hi
      exact World.cell?_spot q0
    · obtain ⟨ab, ao, asp⟩ := a
      simp only at hsp
      subst hsp
      rw [WideShapes.add_plain] at q0 q1
      exact ⟨by simpa using q0, by simpa [Nat.add_assoc] using q1⟩
    · rw [hx]; simp [Rows.uptoBulk]
    · rw [hx]; simp [Rows.uptoBulk, Rows.uptoBulkAll]; omega
/-- Edits that are read. -/
theorem open_edits {H : Type} {enc : TypeId × Value → H} {W : World} {n : Nat} {c : Value} {x : DataW H × List MemPlace} (h : DataW.trod enc Tryz.prog W 0 (fun _ => true) true n 38 [c] = some x) :
    ∃ (a : Option Addr) (S : List (Bool × ByteArray)) (cap : Nat), c = .slice a S.length cap ∧ EA W a S ∧ (a = none → cap = 0) ∧ S.length ≤ Rows.uptoBulk x.1 ∧ ∀ e ∈ S, e.2.size ≤ Rows.uptoBulk x.1 := by
  rcases Deep.open_slice Tryz.underlying38 h with ⟨h0, rfl⟩ | ⟨a, len, cap, m, n', D, Pl, hc, hb, hl, hm, hmm, rfl, hx⟩
  · simp only [List.cons.injEq, and_true] at h0
    exact ⟨none, [], 0, h0, ⟨fun k h => absurd h (Nat.not_lt_zero _)⟩, fun _ => rfl, by simp, fun e he => by cases he⟩
  · simp only [List.cons.injEq, and_true] at hc
    have hlm : len ≤ m := by rw [hmm]; split <;> omega
    rw [cellsEdit] at hx
    obtain ⟨T, hT⟩ := Deep.choose_lt (n := len) (fun i hi => by obtain ⟨cs, q1, q2⟩ := hx i (by omega); exact open_edit q1 q2)
    have hlen : ((List.range len).map T).length = len := by simp
    refine ⟨some a, (List.range len).map T, cap, by rw [hlen]; exact hc, ⟨fun k hk => ?_⟩, (fun e => nomatch e), ?_, fun e he => ?_⟩
    · rw [hlen] at hk
      have et : ((List.range len).map T)[k]'(by rw [hlen]; exact hk) = T k := by simp
      obtain ⟨_, p2, _⟩ := hT k hk
      have hsp := (hT 0 (by omega)).1 rfl
      obtain ⟨ab, ao, asp⟩ := a
      simp only at hsp
      subst hsp
      have p3 := p2 rfl
      refine ⟨ab, ao, rfl, lt_of_cell p3.1, ?_⟩
      rw [et]
      exact p3
    · have := bulk_one D (List.range len) (fun i hi => (hT i (by simpa using hi)).2.2.1)
      rw [hlen]
      simp only [Rows.uptoBulk]
      simp only [List.length_range] at this
      omega
    · obtain ⟨i, hi, rfl⟩ := List.mem_map.1 he
      have h1 : (T i).2.size ≤ Rows.uptoBulk (D i) := (hT i (by simpa using hi)).2.2.2
      have h2 := bulk_mem D (List.range len) i hi
      simp only [Rows.uptoBulk]
      omega
/-- A section that is read. -/
structure SecR where
  s : Sec
  a : Option Addr
  c : Nat
instance : Inhabited SecR := ⟨⟨⟨⟨#[]⟩, ⟨#[]⟩, []⟩, none, 0⟩⟩
set_option maxRecDepth 100000 in
theorem open_sec {H : Type} {enc : TypeId × Value → H} {w : World} {n : Nat} {a : Addr} {i : Nat} {cs : List Value} {x : DataW H × List MemPlace}
    (h1 : w.cells? 0 (a.add (i * 3)) 3 = some cs) (h2 : DataW.trod enc Tryz.prog w 0 (fun _ => true) true n 40 cs = some x) :
    ∃ t : SecR, (i = 0 → a.spot = none) ∧ (a.spot = none → w.cell? ⟨a.block, a.off + i * 3, none⟩ = some (.string t.s.loc) ∧ w.cell? ⟨a.block, a.off + i * 3 + 1, none⟩ = some (.string t.s.par) ∧ w.cell? ⟨a.block, a.off + i * 3 + 2, none⟩ = some (.slice t.a t.s.ed.length t.c)) ∧
      EA w t.a t.s.ed ∧ (t.a = none → t.c = 0) ∧ 4 ≤ Rows.uptoBulk x.1 ∧ t.s.ed.length ≤ Rows.uptoBulk x.1 ∧ ∀ e ∈ t.s.ed, e.2.size ≤ Rows.uptoBulk x.1 := by
  obtain ⟨_, hlen, hcell⟩ := World.cells?_some h1
  obtain ⟨xs, k, _, hx, _, hxl, hfs⟩ := DataW.trod_struct Tryz.underlying40 h2
  match cs, hlen with
  | [v0, v1, v2], _ =>
    obtain ⟨y0, y1, y2, rfl⟩ : ∃ y0 y1 y2, xs = [y0, y1, y2] := by
      match xs, hxl with
      | [y0, y1, y2], _ => exact ⟨y0, y1, y2, rfl⟩
    have f0 := hfs 0 _ rfl
    have f1 := hfs 1 _ rfl
    have f2 := hfs 2 _ rfl
    simp [cellsStr] at f0 f1
    simp [cellsEdits] at f2
    obtain ⟨m0, e0, _⟩ := DataW.trod_string Tryz.underlying9 f0
    obtain ⟨m1, e1, _⟩ := DataW.trod_string Tryz.underlying9 f1
    obtain ⟨ae, ed, ce, e2, hea, hnil, hb1, hb2⟩ := open_edits f2
    simp only [List.cons.injEq, and_true] at e0 e1
    subst e0 e1 e2
    have q0 := hcell 0 (by omega)
    have q1 := hcell 1 (by omega)
    have q2 := hcell 2 (by omega)
    rw [Deep.add_add] at q0 q1 q2
    have hbx : Rows.uptoBulk y2.1 ≤ Rows.uptoBulk x.1 := by rw [hx]; simp [Rows.uptoBulk, Rows.uptoBulkAll]; omega
    refine ⟨⟨⟨m0, m1, ed⟩, ae, ce⟩, fun hi => ?_, fun hsp => ?_, hea, hnil, ?_, Nat.le_trans hb1 hbx, fun e he => Nat.le_trans (hb2 e he) hbx⟩
    · subst hi
      exact World.cell?_spot q0
    · obtain ⟨ab, ao, asp⟩ := a
      simp only at hsp
      subst hsp
      rw [WideShapes.add_plain] at q0 q1 q2
      exact ⟨by simpa using q0, by simpa [Nat.add_assoc] using q1, by simpa [Nat.add_assoc] using q2⟩
    · have b0 := bulk_pos y0.1
      have b1 := bulk_pos y1.1
      have b2 := bulk_pos y2.1
      rw [hx]; simp [Rows.uptoBulk, Rows.uptoBulkAll]; omega
/-- Sections that are read. -/
theorem open_secs {H : Type} {enc : TypeId × Value → H} {W : World} {n : Nat} {c : Value} {x : DataW H × List MemPlace} (h : DataW.trod enc Tryz.prog W 0 (fun _ => true) true n 22 [c] = some x) :
    ∃ (a : Option Addr) (S : List Sec) (cap : Nat), c = .slice a S.length cap ∧ S.length ≤ cap ∧ XB W a S ∧ S.length * 4 ≤ Rows.uptoBulk x.1 ∧ (∀ s ∈ S, s.ed.length ≤ Rows.uptoBulk x.1) ∧ ∀ s ∈ S, ∀ e ∈ s.ed, e.2.size ≤ Rows.uptoBulk x.1 := by
  rcases Deep.open_slice Tryz.underlying22 h with ⟨h0, rfl⟩ | ⟨a, len, cap, m, n', D, Pl, hc, hb, hl, hm, hmm, rfl, hx⟩
  · simp only [List.cons.injEq, and_true] at h0
    exact ⟨none, [], 0, h0, Nat.le_refl _, ⟨fun k h => absurd h (Nat.not_lt_zero _)⟩, by simp, (fun s hs => by cases hs), (fun s hs => by cases hs)⟩
  · simp only [List.cons.injEq, and_true] at hc
    have hlm : len ≤ m := by rw [hmm]; split <;> omega
    rw [cellsSec] at hx
    obtain ⟨T, hT⟩ := Deep.choose_lt (n := len) (fun i hi => by obtain ⟨cs, q1, q2⟩ := hx i (by omega); exact open_sec q1 q2)
    have hlen : ((List.range len).map fun i => (T i).s).length = len := by simp
    refine ⟨some a, (List.range len).map fun i => (T i).s, cap, by rw [hlen]; exact hc, by rw [hlen]; omega, ⟨fun k hk => ?_⟩, ?_, fun s hs => ?_, fun s hs e he => ?_⟩
    · rw [hlen] at hk
      have et : ((List.range len).map fun i => (T i).s)[k]'(by rw [hlen]; exact hk) = (T k).s := by simp
      obtain ⟨_, p2, p4, p5, _⟩ := hT k hk
      have hsp := (hT 0 (by omega)).1 rfl
      obtain ⟨ab, ao, asp⟩ := a
      simp only at hsp
      subst hsp
      have p3 := p2 rfl
      refine ⟨ab, ao, (T k).a, (T k).c, rfl, lt_of_cell p3.1, ?_⟩
      rw [et]
      exact ⟨p3.1, p3.2.1, p3.2.2, p4, p5⟩
    · have := bulk_four D (List.range len) (fun i hi => (hT i (by simpa using hi)).2.2.2.2.1)
      rw [hlen]
      simp only [Rows.uptoBulk]
      simp only [List.length_range] at this
      omega
    · obtain ⟨i, hi, rfl⟩ := List.mem_map.1 hs
      have h1 : (T i).s.ed.length ≤ Rows.uptoBulk (D i) := (hT i (by simpa using hi)).2.2.2.2.2.1
      have h2 := bulk_mem D (List.range len) i hi
      simp only [Rows.uptoBulk]
      omega
    · obtain ⟨i, hi, rfl⟩ := List.mem_map.1 hs
      have h1 : e.2.size ≤ Rows.uptoBulk (D i) := (hT i (by simpa using hi)).2.2.2.2.2.2 e he
      have h2 := bulk_mem D (List.range len) i hi
      simp only [Rows.uptoBulk]
      omega
set_option maxRecDepth 100000 in
theorem open_asked {H : Type} {enc : TypeId × Value → H} {W : World} {base : Nat} {v : Value} {d : DataW H} {p : List MemPlace} (hv : Value.okWide Tryz.prog W .any base 26 v)
    (h0 : DataW.Trod enc Tryz.prog W 0 (fun _ => true) true 26 v d p) (hk : Rows.uptoSmall H ([d] ++ []) = true) :
    ∃ (a : Option Addr) (S : List Sec) (cap : Nat) (t : ByteArray), v = .agg #[.slice a S.length cap, .string t] ∧ S.length ≤ cap ∧ XB W a S ∧ S.length ≤ 1000000 ∧ (∀ s ∈ S, s.ed.length ≤ 1048576) ∧ (∀ s ∈ S, ∀ e ∈ s.ed, e.2.size ≤ 1048576) := by
  obtain ⟨fuel, hf⟩ := h0
  have hcs : ∃ cs, v = .agg cs := by
    simp only [Value.okWide, Tryz.underlying26] at hv
    obtain ⟨cs, h1, _⟩ := hv
    exact ⟨cs, h1⟩
  obtain ⟨cs, rfl⟩ := hcs
  obtain ⟨xs, n, _, hx, hlen, hxl, hfs⟩ := DataW.trod_struct Tryz.underlying26 hf
  rw [cellsAsked] at hlen
  obtain ⟨l⟩ := cs
  match l, hlen with
  | [c0, c1], _ =>
    obtain ⟨y0, y1, rfl⟩ : ∃ y0 y1, xs = [y0, y1] := by
      match xs, hxl with
      | [y0, y1], _ => exact ⟨y0, y1, rfl⟩
    have f0 := hfs 0 _ rfl
    have f1 := hfs 1 _ rfl
    simp [Value.cells, cellsBundle] at f0
    simp [Value.cells, cellsStr] at f1
    obtain ⟨zs, k, _, hz, _, hzl, hgs⟩ := DataW.trod_struct Tryz.underlying24 f0
    obtain ⟨z0, rfl⟩ : ∃ z0, zs = [z0] := by
      match zs, hzl with
      | [z0], _ => exact ⟨z0, rfl⟩
    have g0 := hgs 0 _ rfl
    simp [cellsSecs] at g0
    obtain ⟨a, S, cap, e0, hcp, hxb, hb1, hb2, hb3⟩ := open_secs g0
    obtain ⟨t, e1, _⟩ := DataW.trod_string Tryz.underlying9 f1
    simp only [List.cons.injEq, and_true] at e1
    subst e0 e1
    have hd : d = .agg [y0.1, y1.1] := by have := congrArg Prod.fst hx; simpa using this
    have hy : y0.1 = .agg [z0.1] := by rw [hz]; rfl
    have hs := of_decide_eq_true hk
    rw [hd, hy] at hs
    simp only [List.append_nil, Rows.uptoBulkAll, Rows.uptoBulk] at hs
    exact ⟨a, S, cap, t, rfl, hcp, hxb, by omega, fun s h => by have := hb2 s h; omega, fun s h e he => by have := hb3 s h e he; omega⟩
def sentList5 : List (String × List UInt8) := [("caesura/api.ErrArg", sentText Rows.laid_caesura_api_ErrArg), ("caesura/api.ErrText", sentText Rows.laid_caesura_api_ErrText), ("caesura/api.ErrMany", sentText Rows.laid_caesura_api_ErrMany), ("caesura/api.ErrTwice", sentText Rows.laid_caesura_api_ErrTwice), ("caesura/api.ErrCycle", sentText Rows.laid_caesura_api_ErrCycle)]
theorem sentIn5 : ∀ x ∈ sentList5, x ∈ sentList := by
  intro x hx
  simp only [sentList5, List.mem_cons, List.not_mem_nil, or_false] at hx
  simp only [sentList, List.mem_cons, List.not_mem_nil, or_false]
  rcases hx with rfl | rfl | rfl | rfl | rfl <;> simp
theorem sents5_of {W : World} {rest : List (String × DataW Unit)} (h : laidMet Tryz.prog (sentList5.map sentRow ++ rest) W) : ∃ A, Sents5 W A := by
  obtain ⟨ps, hl, hnd, hrows⟩ := h
  obtain ⟨xs, h1, h2, h3, h4⟩ := sents_list rest sentList5 ps hl hnd hrows (fun x hx => sentTypes x (sentIn5 x hx))
  refine ⟨fun i => xs.getD ([0, 1, 2, 0, 3, 0, 0, 4].getD i 0) ⟨0, 0, none⟩, h4 0 (by decide) _ g_ErrArg, h4 1 (by decide) _ g_ErrText, h4 2 (by decide) _ g_ErrMany, h4 3 (by decide) _ g_ErrTwice, h4 4 (by decide) _ g_ErrCycle⟩
set_option maxRecDepth 100000 in
theorem localeApart_walk {H : Type} (enc : TypeId × Value → H) (W : World) (base : Nat) (hL : laidMetH Tryz.prog Rows.localeApartUptoRow.laid W) (hSh : W.ShapedOpen Tryz.prog) (v : Value) (d : DataW H) (p : List MemPlace) (hv : Value.okWide Tryz.prog W .any base 26 v)
    (h0 : DataW.Trod enc Tryz.prog W 0 (fun _ => true) true 26 v d p) (_hlt : ∀ x ∈ p, x.block < W.heap.size) (_hw : ∀ x ∈ d.weights Tryz.prog 26, x ≤ reachBytes) (hk : Rows.uptoSmall H ([d] ++ []) = true) :
    Calls Tryz.prog 4 #[v] W fun e W' => e = .returned (.bool true) ∧ Below W.heap.size W W' := by
  obtain ⟨a, S, cap, t, rfl, hcp, hxb, hb1, hb2, hb3⟩ := open_asked hv h0 hk
  have hL0 : laidMet Tryz.prog Rows.localeApartUptoRow.laid W := hL
  obtain ⟨A, hA⟩ := sents5_of (rest := [("caesura/units.sequences", Rows.laid_caesura_units_sequences), ("unicode.CaseRanges", Rows.laid_unicode_CaseRanges), ("unicode/utf8.first", Rows.laid_unicode_utf8_first)]) (laid_tail hL0)
  have hQ : SeqAt W := seqAt_of (laid_tail (laid_tail (laid_tail (laid_tail (laid_tail (laid_tail hL0))))))
  have h3 := Lib.laidMet.reads hL0 (n := "unicode/utf8.first") (d := Rows.laid_unicode_utf8_first) (by simp [Rows.localeApartUptoRow])
  have h4 := Lib.laidMet.reads hL0 (n := "unicode/utf8.acceptRanges") (d := Rows.laid_unicode_utf8_acceptRanges) (by simp [Rows.localeApartUptoRow])
  rw [first_data] at h3
  rw [accept_data] at h4
  exact localeApart_any A S a cap t W hb1 hcp (fun s h => Nat.le_trans (hb2 s h) (by decide)) (fun s h e he => Nat.le_trans (hb3 s h e he) (by decide)) ⟨mx_of hSh, tb_of h3 h4, hQ, hA⟩ hxb.xa
set_option maxRecDepth 100000 in
theorem localeApart_lifted (os : Os) (started : os.Started) (H : Type) (enc : TypeId × Value → H) (F : Stop.Interp) :
    ReturnsInHanded {} Tryz.checked os 4 .any ((Rows.OpenSpec.upto Rows.localeApartSpec).preRow enc Tryz.prog Tryz.f4 Rows.localeApartUptoRow.domain false Rows.localeApartUptoRow.laid) (((Rows.OpenSpec.upto Rows.localeApartSpec).at F).post enc Tryz.prog Tryz.f4 false true false false) := by
  refine returnsInHanded_of_row (C := Tryz.checked) (s := Rows.OpenSpec.upto Rows.localeApartSpec) own started (by kernel_rfl) Tryz.func4
    (witness_row_shaped (enc := enc) (C := Tryz.checked) (World.laidAll Tryz.prog os Rows.localeApartUptoRow.laid) #[.agg #[.slice none 0 0, .string ByteArray.empty]] (World.laidAll_os _ _ _) (World.shaped_of_ZipB (by kernel_rfl) (by kernel_rfl)) (by kernel_rfl)
      (OpenSpec.preRow_of_cond 8 (x := ([.agg [.agg [.nil], .lit (.string [])]], [], [])) (by kernel_rfl) (by kernel_rfl) (fun k hk => by cases hk; kernel_rfl) (by kernel_rfl) (laidMet_laidAll _ (by kernel_rfl) (by kernel_rfl)))) ?_
  intro W base args ds gs before hval hW _ hcond hsz hL hSh _
  exact law_contract rfl rfl rfl (fun _ _ => rfl) (by kernel_rfl) (of_decide_eq_true (by kernel_rfl)) W base args ds gs before hval hW hsz (fun v d p hv h0 hlt hw e1 e2 => localeApart_walk enc W base hL hSh v d p hv h0 hlt hw (by have := hcond _ rfl; rw [e1, e2] at this; exact this))
theorem localeApart_said : Rows.LocaleApartUptoSaid :=
  OpenClaim.holds_of_cond 4 Tryz.f4 rfl rfl rfl rfl rfl rfl rfl ⟨rfl, rfl, rfl, rfl, rfl⟩ rfl rfl rfl rfl rfl (by kernel_rfl) Tryz.func4 (by kernel_rfl)
    (of_decide_eq_true (by kernel_rfl)) (by unfold Func.isWrapper; first | (rw [if_pos (by decide +kernel)]; kernel_rfl) | (rw [if_neg (by decide +kernel)]; exact ⟨rfl, rfl⟩))
    (fun os started H enc _ F => by rw [OpenClaim.pre_eq_preRow]; exact localeApart_lifted os started H enc F)
theorem localeApart_plain (f : FuncId) (fn : Func) (hf : Tryz.pinned.checked.prog.funcNamed "caesura/caesuralaw7.LocaleApart" = some f) (hfn : Tryz.pinned.checked.prog.funcs[f]? = some fn) :
    true = Tryz.pinned.checked.prog.looks [] ∧ ∀ (j : Nat) t, fn.params[j]? = some t → Tryz.pinned.checked.prog.wantsStandIn t = false := by
  obtain rfl : f = 4 := Option.some.inj ((show Tryz.prog.funcNamed "caesura/caesuralaw7.LocaleApart" = some 4 by kernel_rfl).symm.trans hf) |>.symm
  obtain rfl : fn = Tryz.f4 := (Option.some.inj (Tryz.func4.symm.trans hfn)).symm
  refine ⟨by kernel_rfl, fun j t ht => ?_⟩
  rw [Tryz.params4] at ht
  obtain rfl : t = 26 := by simpa using Array.mem_of_getElem? ht
  exact (show Tryz.prog.wantsStandIn 26 = false by kernel_rfl)
theorem localeApart_card : Rows.LocaleApartUptoCardSaid :=
  Claim7.holds_tied_plain_at .later [] _ _ _ _ localeApart_said (fun _ h => by cases h) (by kernel_rfl) (fun _ h => by cases h) localeApartUpto_row_tie rfl ⟨rfl, rfl⟩ (by kernel_rfl) rfl localeApart_plain (by kernel_rfl)
end Go.Proofs.YtlnejmmhhmmomaaGreatDoor
