/-
  ThDW, ThEW, ThOP, TbkP.
-/
import Derived.Test.YtcbepmjojppokaaGreatDoorThCM
import Derived.Test.YtcbepmjojppokaaGreatDoorTpOW
import Derived.Test.YtcbepmjojppokaaGreatDoorTgZW
import Derived.LaidHandle
import Derived.Test.YtcbepmjojppokaaGreatDoorSentP
import Derived.Deep.Matrix
import Derived.Lib.LaidU8
import Derived.Shelf.Vars
import Derived.Lay
import Derived.LaidMore
import Derived.ChangeSlices
import Derived.Deep.Slices
namespace Go.Proofs.YtcbepmjojppokaaGreatDoor.Tp
open Go.RowKit Go.Shelf
/-- What the world holds. -/
structure EnvT (w : World) (A : Nat → Addr) : Prop where
  s : Sents w A
  y : Syn w
  t : ErrTy w
  d : TabAt 20 Lib.deBruijn64tab w
theorem EnvT.below {w w' : World} {A : Nat → Addr} (h : EnvT w A) (hb : Below w.heap.size w w') : EnvT w' A :=
  ⟨h.s.below hb, Syn.below h.y hb, h.t.below hb, fun i hi => (hb.cell (p := ⟨20, i, none⟩) (World.block_lt_of_cell? w _ (h.d i hi))).trans (h.d i hi)⟩
theorem pc_csa {W : World} {lo : Nat} {v : Value} {VS : List Value} {C : List Cx} (h : PC W lo v VS C) : ∃ a c, v = .slice a C.length c ∧ CsA W a C := by
  obtain ⟨a, c, rfl⟩ := own_slC h.own
  refine ⟨a, c, rfl, ⟨fun k hk => ?_⟩⟩
  rcases h.own.2 with ⟨e1, e2⟩ | ⟨g, cap, cur, e1, hg, hr, hc, _⟩
  · rw [e2] at hk; omega
  · injection e1 with e1 _ _
    subst e1
    obtain ⟨vP, vB, q1, q2, q3, q4⟩ := h.at' k hk
    obtain ⟨aP, cP, rfl, hP⟩ := OwnI.ia q3
    obtain ⟨aB, cB, rfl, hB⟩ := OwnI.ia q4
    have hl : VS.length = C.length * 2 := h.own.1
    have c0 := World.ownsRow.cellAt h.own (k * 2) (by omega)
    have c1 := World.ownsRow.cellAt h.own (k * 2 + 1) (by omega)
    refine ⟨g, 0, aP, aB, cP, cB, rfl, (World.ownsRow.lt h.own g rfl).2, ?_, ?_, hP, hB⟩
    · rw [Nat.zero_add, c0, q1]
    · rw [Nat.zero_add, c1, q2]
/-- The line that known reads. -/
def kT : By := [195, 183, 32, 48, 48, 52, 49, 32, 195, 151, 32, 32, 48, 51, 48, 56, 32, 195, 183, 32, 35, 32, 120]
def kC : List Cs := [([65, 776], [0, 2])]
theorem kT_read : parF 0 [] ((rawL kT).map bareN) = .ok kC := by kernel_rfl
theorem kC_say : sayN kC = 0 := by kernel_rfl
theorem kC_txt : sayT kC = [195, 183, 32, 48, 48, 52, 49, 32, 195, 151, 32, 48, 51, 48, 56, 32, 195, 183] := by kernel_rfl
set_option maxRecDepth 10000 in
set_option maxHeartbeats 1600000 in
theorem known_any (A : Nat → Addr) (w : World) (hE : EnvT w A) : Calls Tryz.prog 13 #[] w fun e w' => e = .returned (.bool true) ∧ Hid (Below w.heap.size w w') := by
  have HP : Hid (Calls Tryz.prog 6 #[.string ⟨#[195, 183, 32, 48, 48, 52, 49, 32, 195, 151, 32, 32, 48, 51, 48, 56, 32, 195, 183, 32, 35, 32, 120]⟩] w fun e w' => ∃ (g : Nat) (c cB : Nat) (aB : Option Addr), e = .returned (.tuple #[.slice (some ⟨g, 0, none⟩) 1 c, .int .i64 0, .nilIface]) ∧ w'.cell? ⟨g, 1, none⟩ = some (.slice aB 2 cB) ∧ Hid (CsA w' (some ⟨g, 0, none⟩) kC ∧ Below w.heap.size w w')) := hid0 ((parse_any kT A w hE.s hE.y hE.t).mono (fun e w' h => by
    have h1 := h.out
    unfold GoP at h1
    rw [if_neg (by decide), kT_read] at h1
    obtain ⟨v, VS, rfl, h2, h3⟩ := h1
    obtain ⟨a, c, rfl, h4⟩ := pc_csa h2
    obtain ⟨b, off, aP, aB, cP, cB, rfl, _, _, k1, _, _⟩ := h4.at' 0 (by decide)
    have hoff : off = 0 := by
      rcases h2.own.2 with ⟨e1, _⟩ | ⟨g, cap, cur, e1, _⟩
      · cases e1
      · injection e1 with e1
        injection e1 with e1
        injection e1
    subst hoff
    refine ⟨b, c, cB, aB, rfl, ?_, hid0 ⟨h4, h3⟩⟩
    have k2 : w'.cell? ⟨b, 0 + 0 * 2 + 1, none⟩ = some (.slice aB 2 cB) := k1
    exact k2))
  have HPr : Hid (∀ (g c : Nat) (V : World), Below w.heap.size w V → CsA V (some ⟨g, 0, none⟩) kC → Calls Tryz.prog 14 #[.slice (some ⟨g, 0, none⟩) 1 c] V fun e w' => e = .returned (.tuple #[.string ⟨#[195, 183, 32, 48, 48, 52, 49, 32, 195, 151, 32, 48, 51, 48, 56, 32, 195, 183]⟩, .nilIface]) ∧ Hid (Below V.heap.size V w')) := hid0 (fun g c V hV hC => by
    have hE2 := hE.below hV
    refine (print_any kC (some ⟨g, 0, none⟩) c A V (by decide) (by decide) hC hE2.d hE2.s).mono ?_
    rintro e w' ⟨rfl, h⟩
    refine ⟨?_, h⟩
    rw [kC_say, kC_txt]
    rfl)
  clear hE
  go_enter Tryz.func13, Tryz.ntmps13
  go_wp2_with (first
    | (go_at_call 6; refine HP.out.mono ?_; rintro e x1 ⟨g, c, cB, aB, rfl, k1, h1⟩)
    | (go_at_call 14; refine (HPr.out g c x1 h1.out.2 h1.out.1).mono ?_; rintro e x2 ⟨rfl, h2⟩; have k2 : x2.cell? ⟨g, 1, none⟩ = some (.slice aB 2 cB) := (h2.out.cell (p := ⟨g, 1, none⟩) (World.block_lt_of_cell? x1 _ k1)).trans k1)
    | fail)
  go_ret
  exact ⟨rfl, hid0 (h1.out.2.trans (h2.out.mono h1.out.2.size))⟩
end Go.Proofs.YtcbepmjojppokaaGreatDoor.Tp
namespace Go.Proofs.YtcbepmjojppokaaGreatDoor.Tp
open Go.RowKit Go.Shelf
theorem say_zero {C : List Cs} (h : sayN C = 0) : C.length ≤ 20000 ∧ okC C = true ∧ (jn C C.length).length ≤ 1048576 ∧ sayT C = jn C C.length := by
  have h1 : ¬ 20000 < C.length := fun e => by rw [(say_many e).1] at h; cases h
  have h2 : okC C = true := by
    cases hc : okC C with
    | true => rfl
    | false => rw [(say_arg h1 hc).1] at h; cases h
  have h3 : ¬ 1048576 < (jn C C.length).length := fun e => by rw [(say_long h1 h2 e).1] at h; cases h
  exact ⟨by omega, h2, by omega, (say_fine h1 h2 h3).2⟩
set_option maxRecDepth 10000 in
set_option maxHeartbeats 1600000 in
theorem testBack_any (C : List Cs) (a : Option Addr) (cap : Nat) (A : Nat → Addr) (w : World) (hl : C.length ≤ 1000000000) (hP : ∀ x ∈ C, x.1.length ≤ 20000000 ∧ x.2.length ≤ 1000000000) (hC : CsA w a C) (hE : EnvT w A) :
    Calls Tryz.prog 5 #[.slice a C.length cap] w fun e w' => e = .returned (.bool true) ∧ Hid (Below w.heap.size w w') := by
  have HK := hid0 (known_any A w hE)
  have HPr : Hid (∀ V, Below w.heap.size w V → Calls Tryz.prog 14 #[.slice a C.length cap] V fun e w' => e = .returned (.tuple #[.string ⟨(sayT C).toArray⟩, errV A (sayN C)]) ∧ Hid (Below V.heap.size V w')) := hid0 (fun V hV => print_any C a cap A V hl hP (hC.past hV) (hE.below hV).d (hE.below hV).s)
  have HNum : Hid (∀ V, Below w.heap.size w V → Calls Tryz.prog 9 #[errV A (sayN C)] V fun e w' => e = .returned (.int .i64 (sayN C : Int)) ∧ w' = V) := hid0 (fun V hV => num_say A C V (hE.below hV).s)
  by_cases h0 : sayN C = 0
  · obtain ⟨h20, hok, hlen, htx⟩ := say_zero h0
    have hP2 : ∀ x ∈ C, x.1.length ≤ 1000000000 ∧ x.2.length ≤ 1000000000 := fun x hx => ⟨by have := (hP x hx).1; omega, (hP x hx).2⟩
    have HPa : Hid (∀ V, Below w.heap.size w V → Calls Tryz.prog 6 #[.string ⟨(sayT C).toArray⟩] V fun e w' => ∃ (b : Option Addr) (c : Nat), e = .returned (.tuple #[.slice b C.length c, .int .i64 0, .nilIface]) ∧ Hid (CsA w' b C ∧ Below V.heap.size V w')) := hid0 (fun V hV => by
      have hEV := hE.below hV
      refine (parse_any (sayT C) A V hEV.s hEV.y hEV.t).mono (fun e w' h => ?_)
      have h1 := h.out
      unfold GoP at h1
      rw [htx, if_neg (by omega), read_back C h20 hok] at h1
      obtain ⟨v, VS, rfl, h2, h3⟩ := h1
      obtain ⟨b, c, rfl, h4⟩ := pc_csa h2
      exact ⟨b, c, rfl, hid0 ⟨h4, h3⟩⟩)
    have HSm : Hid (∀ (b : Option Addr) (c : Nat) V, Below w.heap.size w V → CsA V b C → Calls Tryz.prog 8 #[.slice b C.length c, .slice a C.length cap] V fun e w' => e = .returned (.bool true) ∧ Hid (Below V.heap.size V w')) := hid0 (fun b c V hV hb => sameCases_any C b a c cap V hl hP2 hb (hC.past hV))
    rw [h0] at HPr
    simp only [show errV A 0 = .nilIface from rfl] at HPr
    clear hl hP hC hE HNum h0 h20 hok hlen htx hP2
    generalize (⟨(sayT C).toArray⟩ : ByteArray) = TX at *
    generalize C.length = n at *
    go_enter Tryz.func5, Tryz.ntmps5
    go_wp2_with (first
      | (go_at_call 13; refine HK.out.mono ?_; rintro e x1 ⟨rfl, h1⟩)
      | (go_at_call 14; refine (HPr.out _ h1.out).mono ?_; rintro e x2 ⟨rfl, h2⟩; have HB2 := hid0 (h1.out.trans (h2.out.mono h1.out.size)))
      | (go_at_call 6; refine (HPa.out _ HB2.out).mono ?_; rintro e x3 ⟨b, c, rfl, h3⟩; have HB3 := hid0 (HB2.out.trans (h3.out.2.mono HB2.out.size)))
      | (go_at_call 8; refine (HSm.out _ _ _ HB3.out h3.out.1).mono ?_; rintro e x4 ⟨rfl, h4⟩)
      | fail)
    go_ret
    exact ⟨rfl, hid0 (HB3.out.trans (h4.out.mono HB3.out.size))⟩
  · have htx : sayT C = [] := by unfold sayT; rw [if_neg h0]
    rw [htx] at HPr
    obtain ⟨n, hn, hnn⟩ : ∃ n : Nat, sayN C = n ∧ (n = 1 ∨ n = 3) := ⟨_, rfl, by rcases sayN_cases C with h | h | h <;> omega⟩
    rw [hn] at HPr HNum
    obtain ⟨E, hEq⟩ : ∃ E : Addr, errV A n = .iface 189 (.pointer (some E)) := by
      rcases hnn with rfl | rfl
      · exact ⟨A 0, rfl⟩
      · exact ⟨A 2, rfl⟩
    rw [hEq] at HPr HNum
    have HPr2 : Hid (∀ V, Below w.heap.size w V → Calls Tryz.prog 14 #[.slice a C.length cap] V fun e w' => e = .returned (.tuple #[.string ⟨#[]⟩, .iface 189 (.pointer (some E))]) ∧ Hid (Below V.heap.size V w')) := HPr
    clear HPr hl hP hC hE h0 htx hn hEq
    generalize C.length = N at *
    rcases hnn with rfl | rfl
    · go_enter Tryz.func5, Tryz.ntmps5
      go_wp2_with (first
        | (go_at_call 13; refine HK.out.mono ?_; rintro e x1 ⟨rfl, h1⟩)
        | (go_at_call 14; refine (HPr2.out _ h1.out).mono ?_; rintro e x2 ⟨rfl, h2⟩; have HB2 := hid0 (h1.out.trans (h2.out.mono h1.out.size)))
        | (go_at_call 9; refine (HNum.out _ HB2.out).mono ?_; rintro e x3 ⟨rfl, rfl⟩)
        | fail)
      go_ret
      exact ⟨rfl, HB2⟩
    · go_enter Tryz.func5, Tryz.ntmps5
      go_wp2_with (first
        | (go_at_call 13; refine HK.out.mono ?_; rintro e x1 ⟨rfl, h1⟩)
        | (go_at_call 14; refine (HPr2.out _ h1.out).mono ?_; rintro e x2 ⟨rfl, h2⟩; have HB2 := hid0 (h1.out.trans (h2.out.mono h1.out.size)))
        | (go_at_call 9; refine (HNum.out _ HB2.out).mono ?_; rintro e x3 ⟨rfl, rfl⟩)
        | fail)
      go_ret
      exact ⟨rfl, HB2⟩
end Go.Proofs.YtcbepmjojppokaaGreatDoor.Tp
namespace Go.Proofs.YtcbepmjojppokaaGreatDoor.Tp
open Go.ChangeShapes Go.WideShapes Go.ChangeAt Go.RowKit Go.Joins
theorem cellsInt : Tryz.prog.cellsOf 3 = 1 := by kernel_rfl
theorem cellsInts : Tryz.prog.cellsOf 48 = 1 := by kernel_rfl
theorem cellsCase : Tryz.prog.cellsOf 50 = 2 := by kernel_rfl
theorem bulk_one {H : Type} (d : DataW H) : 1 ≤ Rows.uptoBulk d := by
  cases d with
  | lit l => cases l <;> simp [Rows.uptoBulk]
  | nil => simp [Rows.uptoBulk]
  | ptr d => simp [Rows.uptoBulk]
  | slice elems spare => simp [Rows.uptoBulk]
  | agg parts => simp [Rows.uptoBulk]
  | iface t d => simp [Rows.uptoBulk]
  | map entries => simp [Rows.uptoBulk]
  | held h => simp [Rows.uptoBulk]
theorem bulk_all {H : Type} (l : List (DataW H)) : Rows.uptoBulkAll l = (l.map Rows.uptoBulk).sum := by
  induction l with
  | nil => simp [Rows.uptoBulkAll]
  | cons x r ih => rw [Rows.uptoBulkAll, ih, List.map_cons, List.sum_cons]
theorem bulk_lits {H : Type} (zs : List Int) : zs.length ≤ Rows.uptoBulkAll (H := H) (lits .i64 zs) := by
  induction zs with
  | nil => simp [lits]
  | cons z zs ih =>
    have e : (lits (H := H) .i64 (z :: zs)) = .lit (.int .i64 z) :: lits .i64 zs := rfl
    rw [e, Rows.uptoBulkAll, List.length_cons]
    have h1 : 1 ≤ Rows.uptoBulk (H := H) (.lit (.int .i64 z)) := bulk_one _
    omega
theorem lt_of_cell {W : World} {b o : Nat} {u : Value} (h : W.cell? ⟨b, o, none⟩ = some u) : b < W.heap.size := World.block_lt_of_cell? W _ h
theorem no_spot {W : World} {a : Addr} {u : Value} (h : W.cell? (a.add 0) = some u) : a.spot = none := by
  obtain ⟨b, off, spot⟩ := a
  cases spot with
  | none => rfl
  | some sp =>
    exfalso
    rw [show (⟨b, off, some sp⟩ : Addr).add 0 = ⟨b, off, some sp⟩ from rfl] at h
    unfold World.cell? at h
    split at h <;> simp at h
/-- Numbers that are read. -/
theorem open_points {H : Type} {enc : TypeId × Value → H} {W : World} {n : Nat} {c : Value} {x : DataW H × List MemPlace} (hf : DataW.trod enc Tryz.prog W 0 (fun _ => true) true n 48 [c] = some x) :
    ∃ (a : Option Addr) (ps : List Int) (cap : Nat), c = .slice a ps.length cap ∧ IA W a ps ∧ ps.length ≤ Rows.uptoBulk x.1 ∧ (a = none → cap = 0) := by
  rcases open_ints Tryz.underlying48 Tryz.underlying3 cellsInt hf with ⟨h1, h2⟩ | ⟨a, len, cap, zs, h1, h2, h3, h4, h5, h6, h7, h8⟩
  · simp only [List.cons.injEq, and_true] at h1
    exact ⟨none, [], 0, h1, ⟨fun k h => absurd h (Nat.not_lt_zero _)⟩, by simp, fun _ => rfl⟩
  · simp only [List.cons.injEq, and_true] at h1
    simp only [if_true] at h5
    have hl : (zs.take len).length = len := by rw [List.length_take]; omega
    have hb := bulk_lits (H := H) (zs.take len)
    refine ⟨some a, zs.take len, cap, by rw [hl]; exact h1, ⟨fun k hk' => ?_⟩, ?_, fun e => by cases e⟩
    · rw [hl] at hk'
      have h9 := h7 k (by omega)
      have hs := no_spot (h7 0 (by omega))
      obtain ⟨b, off, spot⟩ := a
      simp only at hs
      subst hs
      rw [Addr.add_lit] at h9
      refine ⟨b, off, rfl, lt_of_cell h9, ?_⟩
      rw [h9]
      congr 2
      rw [List.getElem_take, List.getD_eq_getElem?_getD, List.getElem?_eq_getElem (by omega)]
      rfl
    · rw [h6]
      simp only [Rows.uptoBulk]
      omega
theorem range_getD : ∀ (l : List Nat), (List.range l.length).map (fun i => l.getD i 0) = l := fun l => by
  refine List.ext_getElem (by simp) (fun i h1 h2 => ?_)
  rw [List.getElem_map, List.getElem_range, List.getD_eq_getElem?_getD, List.getElem?_eq_getElem h2]
  rfl
/-- A slice that is read: the cells of each of its elements; their bulks together. -/
theorem open_rows {H : Type} {enc : TypeId × Value → H} {W : World} {t e : TypeId} {m : Nat} {n : Nat} {c : Value} {x : DataW H × List MemPlace} (ht : Tryz.prog.underlying t = some (.slice e)) (hm : Tryz.prog.cellsOf e = m) (hm0 : 0 < m)
    (h : DataW.trod enc Tryz.prog W 0 (fun _ => true) true n t [c] = some x) :
    c = .slice none 0 0 ∨ ∃ (a : Addr) (len cap k : Nat) (D : Nat → Nat), c = .slice (some a) len cap ∧ ((List.range len).map D).sum ≤ Rows.uptoBulk x.1 ∧ ∀ i, i < len → ∃ (cs : List Value) (y : DataW H × List MemPlace), cs.length = m ∧ a = ⟨a.block, a.off, none⟩ ∧ (∀ j, j < m → W.cell? ⟨a.block, a.off + i * m + j, none⟩ = cs[j]?) ∧ DataW.trod enc Tryz.prog W 0 (fun _ => true) true k e cs = some y ∧ Rows.uptoBulk y.1 = D i := by
  rcases DataW.trod_slice ht h with ⟨h0, _⟩ | ⟨a, len, cap, elems, rest, k, hk, hc, hx, hb, hl, hmx, hlen, hel, _, _⟩
  · simp only [List.cons.injEq, and_true] at h0
    exact .inl h0
  · simp only [List.cons.injEq, and_true] at hc
    rw [hm] at hel
    subst hlen
    have key : ∀ i (hi : i < elems.length), ∃ cs, W.cells? 0 (a.add (i * m)) m = some cs ∧ DataW.trod enc Tryz.prog W 0 (fun _ => true) true k e cs = some elems[i] := fun i hi => by
      have h1 := hel i hi
      rw [List.getElem?_eq_getElem (by omega), Option.bind_eq_some_iff] at h1
      exact h1
    refine .inr ⟨a, elems.length, cap, k, fun i => (elems.map fun y => Rows.uptoBulk y.1).getD i 0, hc, ?_, fun i hi => ?_⟩
    · have e1 := range_getD (elems.map fun y => Rows.uptoBulk y.1)
      rw [List.length_map] at e1
      rw [e1, hx]
      simp only [Rows.uptoBulk]
      rw [bulk_all, List.map_map]
      have e2 : (elems.map fun y => Rows.uptoBulk y.1) = elems.map (Rows.uptoBulk ∘ fun y => y.1) := rfl
      rw [e2]
      omega
    obtain ⟨cs, h1, h2⟩ := key i hi
    obtain ⟨cs0, g1, _⟩ := key 0 (by omega)
    obtain ⟨_, hl0, hc0⟩ := World.cells?_some g1
    have hsp : a.spot = none := by
      have q := hc0 0 (by omega)
      rw [Deep.add_add, List.getElem?_eq_getElem (by omega)] at q
      exact World.cell?_spot (a := a.add 0) (by simpa using q)
    obtain ⟨_, hlc, hcc⟩ := World.cells?_some h1
    obtain ⟨ab, ao, asp⟩ := a
    simp only at hsp
    subst hsp
    refine ⟨cs, elems[i], hlc, rfl, fun j hj => ?_, h2, ?_⟩
    · have q := hcc j hj
      rw [Deep.add_add, WideShapes.add_plain] at q
      rw [Nat.add_assoc]
      exact q
    · show _ = (elems.map fun y => Rows.uptoBulk y.1).getD i 0
      rw [List.getD_eq_getElem?_getD, List.getElem?_map, List.getElem?_eq_getElem hi]
      rfl
theorem le_sum {l : List Nat} {x : Nat} (h : x ∈ l) : x ≤ l.sum := by
  induction l with
  | nil => cases h
  | cons y r ih =>
    rw [List.sum_cons]
    rcases List.mem_cons.1 h with rfl | h
    · omega
    · have := ih h; omega
/-- One case that is read: its two cells. -/
def CaseAt (W : World) (b off : Nat) (x : Cs) : Prop := ∃ (aP aB : Option Addr) (cP cB : Nat), W.cell? ⟨b, off, none⟩ = some (.slice aP x.1.length cP) ∧ W.cell? ⟨b, off + 1, none⟩ = some (.slice aB x.2.length cB) ∧ IA W aP x.1 ∧ IA W aB x.2
set_option maxRecDepth 100000 in
/-- Cases that are read. -/
theorem open_cases {H : Type} {enc : TypeId × Value → H} {W : World} {n : Nat} {c : Value} {x : DataW H × List MemPlace} (h : DataW.trod enc Tryz.prog W 0 (fun _ => true) true n 22 [c] = some x) (hbk : Rows.uptoBulk x.1 ≤ 1048576) :
    ∃ (a : Option Addr) (C : List Cs) (cap : Nat), c = .slice a C.length cap ∧ CsA W a C ∧ C.length ≤ 1048576 ∧ ∀ y ∈ C, y.1.length ≤ 1048576 ∧ y.2.length ≤ 1048576 := by
  rcases open_rows Tryz.underlying22 cellsCase (by omega) h with rfl | ⟨a, len, cap, k, D, rfl, hb, hx⟩
  · exact ⟨none, [], 0, rfl, ⟨fun k h => absurd h (Nat.not_lt_zero _)⟩, by simp, by simp⟩
  · have hD : ∀ i, i < len → D i ≤ 1048576 := fun i hi => by
      have := le_sum (List.mem_map_of_mem (f := D) (List.mem_range.2 hi))
      omega
    obtain ⟨T, hT⟩ := Deep.choose_lt (n := len) (p := fun i (z : Cs) => a = ⟨a.block, a.off, none⟩ ∧ CaseAt W a.block (a.off + i * 2) z ∧ z.1.length ≤ 1048576 ∧ z.2.length ≤ 1048576 ∧ 1 ≤ D i) (fun i hi => by
      obtain ⟨cs, y, h1, h2, h3, h4, h5⟩ := hx i hi
      have hDi := hD i hi
      obtain ⟨ss, k2, _, hxs, _, hxl, hfs⟩ := DataW.trod_struct Tryz.underlying50 h4
      match cs, h1 with
      | [v0, v1], _ =>
        obtain ⟨y0, y1, rfl⟩ : ∃ y0 y1, ss = [y0, y1] := by
          match ss, hxl with
          | [y0, y1], _ => exact ⟨y0, y1, rfl⟩
        have f0 := hfs 0 _ rfl
        have f1 := hfs 1 _ rfl
        have g0 : DataW.trod enc Tryz.prog W 0 (fun _ => true) true k2 48 [v0] = some y0 := by simpa [cellsInts] using f0
        have g1 : DataW.trod enc Tryz.prog W 0 (fun _ => true) true k2 48 [v1] = some y1 := by simpa [cellsInts] using f1
        obtain ⟨aP, P, cP, rfl, iP, bP, _⟩ := open_points g0
        obtain ⟨aB, B, cB, rfl, iB, bB, _⟩ := open_points g1
        have hd : Rows.uptoBulk y.1 = Rows.uptoBulk y0.1 + Rows.uptoBulk y1.1 + 1 := by
          have := congrArg Prod.fst hxs
          simp only at this
          rw [this]
          simp only [Rows.uptoBulk, Rows.uptoBulkAll, List.map_cons, List.map_nil]
          omega
        refine ⟨(P, B), h2, ⟨aP, aB, cP, cB, h3 0 (by omega), h3 1 (by omega), iP, iB⟩, ?_, ?_, by omega⟩
        · show P.length ≤ 1048576
          omega
        · show B.length ≤ 1048576
          omega)
    have hlen : ((List.range len).map T).length = len := by simp
    refine ⟨some a, (List.range len).map T, cap, by rw [hlen], ⟨fun k hk => ?_⟩, ?_, fun y hy => ?_⟩
    · rw [hlen] at hk
      have et : ((List.range len).map T)[k]'(by rw [hlen]; exact hk) = T k := by simp
      obtain ⟨p1, p2, _⟩ := hT k hk
      obtain ⟨aP, aB, cP, cB, y0, y1, y2, y3⟩ := p2
      rw [et]
      exact ⟨a.block, a.off, aP, aB, cP, cB, congrArg some p1, lt_of_cell y0, y0, y1, y2, y3⟩
    · rw [hlen]
      have e : ∀ (l : List Nat), (∀ i ∈ l, i < len) → l.length ≤ (l.map D).sum := by
        intro l
        induction l with
        | nil => intro _; simp
        | cons x r ih =>
          intro hl
          rw [List.map_cons, List.sum_cons, List.length_cons]
          have h1 := (hT x (hl x List.mem_cons_self)).2.2.2.2
          have h2 := ih (fun i hi => hl i (List.mem_cons_of_mem _ hi))
          omega
      have := e (List.range len) (fun i hi => List.mem_range.1 hi)
      rw [List.length_range] at this
      omega
    · obtain ⟨i, hi, rfl⟩ := List.mem_map.1 hy
      obtain ⟨_, _, h3, h4, _⟩ := hT i (List.mem_range.1 hi)
      exact ⟨h3, h4⟩
theorem laid_tail {W : World} {x : String × DataW Unit} {rest : List (String × DataW Unit)} (h : laidMet Tryz.prog (x :: rest) W) : laidMet Tryz.prog rest W := by
  obtain ⟨ps, ⟨g, t, cs, fuel, p, q, _, _, _, _, hl, rfl⟩, hnd, hrows⟩ := h
  exact ⟨q, hl, (List.nodup_append.1 hnd).2.1, fun b off hb => hrows b off (List.mem_append_right _ hb)⟩
theorem g64 : Tryz.prog.globalNamed "math/bits.deBruijn64tab" = some 20 := by kernel_rfl
theorem g64Type : (Tryz.prog.globals[20]?).map (·.type) = some 197 := by kernel_rfl
theorem cells64 : Tryz.prog.cellsOf 197 = 64 := by kernel_rfl
theorem cellsU8 : Tryz.prog.cellsOf 5 = 1 := by kernel_rfl
def tab64 : List Int := [0, 1, 56, 2, 57, 49, 28, 3, 61, 58, 42, 50, 38, 29, 17, 4, 62, 47, 59, 36, 45, 43, 51, 22, 53, 39, 33, 30, 24, 18, 12, 5, 63, 55, 48, 27, 60, 41, 37, 16, 46, 35, 44, 21, 52, 32, 23, 11, 54, 26, 40, 15, 34, 20, 31, 10, 25, 14, 19, 9, 13, 8, 7, 6]
theorem tab64_at : ∀ j, j < Lib.deBruijn64tab.length → tab64.getD j 0 = ((Lib.deBruijn64tab.getD j 0 : Nat) : Int) := by decide
/-- What the row's list gives: the table's cells. -/
theorem tab_of {W : World} {rest : List (String × DataW Unit)} (h : laidMet Tryz.prog (("math/bits.deBruijn64tab", Rows.laid_math_bits_deBruijn64tab) :: rest) W) : TabAt 20 Lib.deBruijn64tab W := by
  have ht : Lib.TabIs Tryz.prog W "math/bits.deBruijn64tab" .u8 tab64 :=
    Lib.tabIs_of_head (rest := rest) g64 g64Type Tryz.underlying197 Tryz.underlying5 cellsU8 cells64 h
  intro j hj
  have hc := ht.cell g64 j (by have e : tab64.length = Lib.deBruijn64tab.length := rfl; omega)
  rw [hc, tab64_at j hj]
theorem g_Syn : Tryz.prog.globalNamed "strconv.ErrSyntax" = some 17 := by kernel_rfl
theorem synTypes : ∀ x ∈ [("strconv.ErrSyntax", sentText Rows.laid_strconv_ErrSyntax)], ∀ g t, Tryz.prog.globalNamed x.1 = some g → (Tryz.prog.globals[g]?).map (·.type) = some t → t = 24 := by
  have h : ((Tryz.prog.globals[17]?).map (·.type)) = some 24 := by kernel_rfl
  intro x hx g t hg ht
  rw [List.mem_singleton] at hx
  subst hx
  have e : g = 17 := Option.some.inj (hg.symm.trans g_Syn)
  subst e
  exact Option.some.inj (ht.symm.trans h)
theorem syn_of {W : World} {rest : List (String × DataW Unit)} (h : laidMet Tryz.prog (("strconv.ErrSyntax", Rows.laid_strconv_ErrSyntax) :: rest) W) : ∃ ev, W.cell? ⟨17, 0, none⟩ = some ev ∧ (ev = .nilIface ∨ ∃ te pe, ev = .iface te pe) := by
  obtain ⟨ps, hl, hnd, hrows⟩ := h
  obtain ⟨xs, _, _, _, h4⟩ := sents_list rest [("strconv.ErrSyntax", sentText Rows.laid_strconv_ErrSyntax)] ps hl hnd hrows synTypes
  exact ⟨_, h4 0 (by decide) _ g_Syn, .inr ⟨_, _, rfl⟩⟩
theorem ety : Tryz.prog.globalNamed "errors.errorType" = some 7 := by kernel_rfl
theorem rtt : (Tryz.prog.cutTypes.find? (·.1 == "internal/reflectlite.rtype")).map (·.2) = some 101 := by kernel_rfl
theorem typesN : Tryz.prog.types.size = 224 := by kernel_rfl
theorem oneRow : ((List.range 224).filter fun t => Tryz.prog.rowNamed t [101, 114, 114, 111, 114]) = [24] := by kernel_rfl
theorem hErr : typeHandle Tryz.prog 24 = .pointer (some ⟨21, 24, none⟩) := by kernel_rfl
/-- What the condition gives: the variable's one cell. -/
theorem errTy_of {W : World} {hs : List (String × DataW Unit)} (h : handlesMet Tryz.prog (("errors.errorType", Rows.laid_errors_errorType) :: hs) W) : ErrTy W := by
  obtain ⟨name, u, ty, e1, e2, e3, e4, e5⟩ := h _ (List.mem_cons_self)
  have en : name = [101, 114, 114, 111, 114] := (Option.some.inj e1).symm
  subst en
  obtain rfl := Option.some.inj (rtt.symm.trans e2)
  have hm : ty ∈ (List.range 224).filter fun t => Tryz.prog.rowNamed t [101, 114, 114, 111, 114] := List.mem_filter.2 ⟨List.mem_range.2 (by rw [← typesN]; exact e3), e4⟩
  rw [oneRow] at hm
  obtain rfl := List.mem_singleton.1 hm
  rw [hErr] at e5
  unfold ErrTy
  simpa using World.var?_cell ety e5 0
/-- A list without its handles. -/
def dataOf (l : List (String × DataW Unit)) : List (String × DataW Unit) := l.filter fun x => x.2.handleName?.isNone
theorem laid_drop {W : World} : ∀ (n : Nat) (l : List (String × DataW Unit)), laidMet Tryz.prog l W → laidMet Tryz.prog (l.drop n) W
  | 0, _, h => h
  | _ + 1, [], h => h
  | n + 1, _ :: l, h => laid_drop n l (laid_tail h)
/-- A world whose handle is laid. -/
noncomputable def hBase (os : Os) : World :=
  let w0 := World.holding Tryz.prog os ⟨#[], #[], []⟩
  { w0 with heap := w0.heap.modify 7 fun
      | .cells _ t frozen => .cells #[.iface 101 (.agg #[.pointer (some ⟨21, 24, none⟩)])] t frozen
      | o => o }
noncomputable def hWorld (os : Os) (dl : List (String × DataW Unit)) : World := (hBase os).layVars Tryz.prog dl
theorem hWorld_os (os : Os) (dl : List (String × DataW Unit)) : (hWorld os dl).os = os := World.layVars_os _ _ _
theorem hWorld_met {os : Os} {laid dl : List (String × DataW Unit)} (args : Array Value) (hdl : (laid.filter fun x => x.2.handleName?.isNone) = dl)
    (hf : (hBase os).layFits Tryz.prog dl [] = true) (hi : (hBase os).layIfaces Tryz.prog dl (hWorld os dl) = true)
    (hh : (laid.filter fun x => x.2.handleName?.isSome).all (handleAtB Tryz.prog ((hWorld os dl).forCall (fun _ _ => 0) ⟨#[], args, []⟩).memory) = true) :
    laidMetH Tryz.prog laid ((hWorld os dl).forCall (fun _ _ => 0) ⟨#[], args, []⟩).memory := by
  refine laidMetH_of_parts ?_ hh
  rw [hdl]
  have e1 : (dl.filter fun x => (dl.map (·.1)).contains x.1) = dl := List.filter_eq_self.2 fun x hx => List.contains_iff_mem.2 (List.mem_map.2 ⟨x, hx, rfl⟩)
  have e2 : (dl.filter fun x => !(dl.map (·.1)).contains x.1) = [] := List.filter_eq_nil_iff.2 fun x hx => by rw [List.contains_iff_mem.2 (List.mem_map.2 ⟨x, hx, rfl⟩)]; simp
  have h : laidMet Tryz.prog dl (hWorld os dl) := laidMet_layVars (w0 := hBase os) (dl.map (·.1)) [] (by rw [e1]; rfl) (by rw [e1]; exact hf) (by rw [e1]; exact hi) (by rw [e2]; exact LaidIn.none)
  exact h.of_heap (by simp [World.memory, World.forCall, Input.heap])
end Go.Proofs.YtcbepmjojppokaaGreatDoor.Tp
namespace Go.Proofs.YtcbepmjojppokaaGreatDoor
open Go.ChangeShapes Go.WideShapes Go.ChangeAt Go.RowKit Go.Joins
/-- The row's list without the handle. -/
def backList : List (String × DataW Unit) := [("math/bits.deBruijn32tab", Rows.laid_math_bits_deBruijn32tab), ("math/bits.deBruijn64tab", Rows.laid_math_bits_deBruijn64tab), ("internal/strconv.uint64pow10", Rows.laid_internal_strconv_uint64pow10), ("unicode/utf8.acceptRanges", Rows.laid_unicode_utf8_acceptRanges)] ++ (sentList.map sentRow ++ [("strconv.ErrRange", Rows.laid_strconv_ErrRange), ("strconv.ErrSyntax", Rows.laid_strconv_ErrSyntax), ("unicode.CaseRanges", Rows.laid_unicode_CaseRanges), ("unicode/utf8.first", Rows.laid_unicode_utf8_first)])
set_option maxRecDepth 100000 in
theorem env_of {W : World} (hL : laidMetH Tryz.prog Rows.testBackUptoRow.laid W) : ∃ A, Tp.EnvT W A := by
  have hL0 : laidMet Tryz.prog backList W ∧ handlesMet Tryz.prog [("errors.errorType", Rows.laid_errors_errorType)] W := hL
  obtain ⟨A, hA⟩ := sents_of (rest := [("strconv.ErrRange", Rows.laid_strconv_ErrRange), ("strconv.ErrSyntax", Rows.laid_strconv_ErrSyntax), ("unicode.CaseRanges", Rows.laid_unicode_CaseRanges), ("unicode/utf8.first", Rows.laid_unicode_utf8_first)]) (Tp.laid_drop 4 _ hL0.1)
  exact ⟨A, hA, Tp.syn_of (rest := [("unicode.CaseRanges", Rows.laid_unicode_CaseRanges), ("unicode/utf8.first", Rows.laid_unicode_utf8_first)]) (Tp.laid_drop 16 _ hL0.1), Tp.errTy_of hL0.2, Tp.tab_of (Tp.laid_drop 1 _ hL0.1)⟩
set_option maxRecDepth 100000 in
theorem testBack_walk {H : Type} (enc : TypeId × Value → H) (W : World) (base : Nat) (hL : laidMetH Tryz.prog Rows.testBackUptoRow.laid W) (v : Value) (d : DataW H) (p : List MemPlace) (hv : Value.okWide Tryz.prog W .any base 22 v)
    (h0 : DataW.Trod enc Tryz.prog W 0 (fun _ => true) true 22 v d p) (_hlt : ∀ x ∈ p, x.block < W.heap.size) (_hw : ∀ x ∈ d.weights Tryz.prog 22, x ≤ reachBytes) (hk : Rows.uptoSmall H ([d] ++ []) = true) :
    Calls Tryz.prog 5 #[v] W fun e W' => e = .returned (.bool true) ∧ Below W.heap.size W W' := by
  obtain ⟨a0, len0, cap0, rfl⟩ := okWide_slice Tryz.underlying22 hv
  obtain ⟨fuel, hf⟩ := h0
  have hs := of_decide_eq_true hk
  simp only [List.append_nil, Rows.uptoBulkAll] at hs
  rw [show (Value.slice a0 len0 cap0).cells.toList = [.slice a0 len0 cap0] from rfl] at hf
  obtain ⟨a, C, cap, e, hC, hl, hP⟩ := Tp.open_cases hf (by simp only; omega)
  rw [e]
  obtain ⟨A, hE⟩ := env_of hL
  exact (Tp.testBack_any C a cap A W (by omega) (fun x hx => by have := hP x hx; omega) hC hE).mono (fun e w' h => ⟨h.1, h.2.out⟩)
set_option maxRecDepth 100000 in
theorem testBack_lifted (os : Os) (started : os.Started) (H : Type) (enc : TypeId × Value → H) (F : Stop.Interp) :
    ReturnsInHanded {} Tryz.checked os 5 .any ((Rows.OpenSpec.upto Rows.testBackSpec).preRow enc Tryz.prog Tryz.f5 Rows.testBackUptoRow.domain false Rows.testBackUptoRow.laid) (((Rows.OpenSpec.upto Rows.testBackSpec).at F).post enc Tryz.prog Tryz.f5 false true false false) := by
  refine returnsInHanded_of_row (C := Tryz.checked) (s := Rows.OpenSpec.upto Rows.testBackSpec) own started (by kernel_rfl) Tryz.func5
    (witness_row_shaped (enc := enc) (C := Tryz.checked) (Tp.hWorld os (Tp.dataOf Rows.testBackUptoRow.laid)) #[.slice none 0 0] (Tp.hWorld_os _ _) (World.shaped_of_ZipB (by kernel_rfl) (by kernel_rfl)) (by kernel_rfl)
      (OpenSpec.preRow_of_cond 8 (x := ([.nil], [], [])) (by kernel_rfl) (by kernel_rfl) (fun k hk => by cases hk; kernel_rfl) (by kernel_rfl) (Tp.hWorld_met _ rfl (by kernel_rfl) (by kernel_rfl) (by kernel_rfl)))) ?_
  intro W base args ds gs before hval hW _ hcond hsz hL _ _
  exact law_contract rfl rfl rfl (fun _ _ => rfl) (by kernel_rfl) (of_decide_eq_true (by kernel_rfl)) W base args ds gs before hval hW hsz (fun v d p hv h0 hlt hw e1 e2 => testBack_walk enc W base hL v d p hv h0 hlt hw (by have := hcond _ rfl; rw [e1, e2] at this; exact this))
theorem testBack_said : Rows.TestBackUptoSaid :=
  OpenClaim.holds_of_cond 5 Tryz.f5 rfl rfl rfl rfl rfl rfl rfl ⟨rfl, rfl, rfl, rfl, rfl⟩ rfl rfl rfl rfl rfl (by kernel_rfl) Tryz.func5 (by kernel_rfl)
    (of_decide_eq_true (by kernel_rfl)) (by unfold Func.isWrapper; first | (rw [if_pos (by decide +kernel)]; kernel_rfl) | (rw [if_neg (by decide +kernel)]; exact ⟨rfl, rfl⟩))
    (fun os started H enc _ F => by rw [OpenClaim.pre_eq_preRow]; exact testBack_lifted os started H enc F)
theorem testBack_plain (f : FuncId) (fn : Func) (hf : Tryz.pinned.checked.prog.funcNamed "caesura/caesuralaw23.TestBack" = some f) (hfn : Tryz.pinned.checked.prog.funcs[f]? = some fn) :
    true = Tryz.pinned.checked.prog.looks [] ∧ ∀ (j : Nat) t, fn.params[j]? = some t → Tryz.pinned.checked.prog.wantsStandIn t = false := by
  obtain rfl : f = 5 := Option.some.inj ((show Tryz.prog.funcNamed "caesura/caesuralaw23.TestBack" = some 5 by kernel_rfl).symm.trans hf) |>.symm
  obtain rfl : fn = Tryz.f5 := (Option.some.inj (Tryz.func5.symm.trans hfn)).symm
  refine ⟨by kernel_rfl, fun j t ht => ?_⟩
  rw [Tryz.params5] at ht
  obtain rfl : t = 22 := by simpa using Array.mem_of_getElem? ht
  exact (show Tryz.prog.wantsStandIn 22 = false by kernel_rfl)
theorem testBack_card : Rows.TestBackUptoCardSaid :=
  Claim7.holds_tied_plain_at .later [] _ _ _ _ testBack_said (fun _ h => by cases h) (by kernel_rfl) (fun _ h => by cases h) testBackUpto_row_tie rfl ⟨rfl, rfl⟩ (by kernel_rfl) rfl testBack_plain (by kernel_rfl)
end Go.Proofs.YtcbepmjojppokaaGreatDoor
