/-
  caesuralaw1.CodecPlays, where what it reads is of the bulk that the second form tells: the row's statement and the card.
-/
import Derived.Test.YtnclpcnpaodjjaaDoorPlaysW
import Derived.Test.YtnclpcnpaodjjaaDoorSentP
import Derived.Deep.Slices
namespace Go.Proofs.YtnclpcnpaodjjaaDoor
open Go.ChangeShapes Go.WideShapes Go.ChangeAt Go.RowKit Go.Joins
theorem codecPlays_sents {W : World} (h : laidMetH Tryd.prog Rows.codecPlaysUptoRow.laid W) : ∃ A, Sents W A := sents_of (rest := [("bytes.ErrTooLarge", Rows.laid_bytes_ErrTooLarge)]) h
theorem cellsScript : Tryd.prog.cellsOf 24 = 3 := by kernel_rfl
theorem cellsStep : Tryd.prog.cellsOf 39 = 3 := by kernel_rfl
instance : Inhabited St := ⟨⟨false, 0, ⟨#[]⟩⟩⟩
theorem bulk_map {H : Type} (T : Nat → St) (D : Nat → DataW H) (l : List Nat) (h : ∀ i ∈ l, Rows.uptoBulk (D i) = (T i).s.size + 4) : stBulk (l.map T) = Rows.uptoBulkAll (l.map D) := by
  induction l with
  | nil => rfl
  | cons x r ih => rw [List.map_cons, List.map_cons, stBulk, Rows.uptoBulkAll, ih (fun i hi => h i (.tail _ hi)), h x (.head _)]
theorem open_cells3 {H : Type} {enc : TypeId × Value → H} {P : Program} {w : World} {base : Nat} {spare : Nat → Bool} {held : Bool} {n : Nat} {e : TypeId} {f0 f1 f2 : Field} {cs : List Value} {x : DataW H × List MemPlace} (hs : P.underlying e = some (.struct #[f0, f1, f2])) (hone : Deep.oneCellFields P #[f0, f1, f2] = true)
    (hlen : cs.length = 3) (h : DataW.trod enc P w base spare held n e cs = some x) :
    ∃ (v0 v1 v2 : Value) (y0 y1 y2 : DataW H × List MemPlace) (k : Nat), cs = [v0, v1, v2] ∧ x.1 = .agg [y0.1, y1.1, y2.1] ∧
      DataW.trod enc P w base spare held k f0.type [v0] = some y0 ∧ DataW.trod enc P w base spare held k f1.type [v1] = some y1 ∧ DataW.trod enc P w base spare held k f2.type [v2] = some y2 := by
  obtain ⟨y0, y1, y2, k, hx, _, h0, h1, h2⟩ := Deep.trod_struct3 hs h
  obtain ⟨o0, k0⟩ := Deep.hone_of hone 0 f0 rfl
  obtain ⟨o1, k1⟩ := Deep.hone_of hone 1 f1 rfl
  obtain ⟨o2, k2⟩ := Deep.hone_of hone 2 f2 rfl
  match cs, hlen with
  | [v0, v1, v2], _ => exact ⟨v0, v1, v2, y0, y1, y2, k, rfl, by rw [hx], by simpa [Value.cells, o0, k0] using h0, by simpa [Value.cells, o1, k1] using h1, by simpa [Value.cells, o2, k2] using h2⟩
theorem open_step {H : Type} {enc : TypeId × Value → H} {w : World} {base : Nat} {spare : Nat → Bool} {held : Bool} {n : Nat} {a : Addr} {i : Nat} {cs : List Value} {x : DataW H × List MemPlace}
    (h1 : w.cells? base (a.add (i * 3)) 3 = some cs) (h2 : DataW.trod enc Tryd.prog w base spare held n 39 cs = some x) :
    ∃ t : St, (i = 0 → a.spot = none) ∧ a.block < w.heap.size ∧ (a.spot = none → w.cell? ⟨a.block, a.off + i * 3, none⟩ = some (.bool t.wd) ∧ w.cell? ⟨a.block, a.off + i * 3 + 1, none⟩ = some (.int .i64 t.n) ∧ w.cell? ⟨a.block, a.off + i * 3 + 2, none⟩ = some (.string t.s))
      ∧ (-9223372036854775808 ≤ t.n ∧ t.n ≤ 9223372036854775807) ∧ Rows.uptoBulk x.1 = t.s.size + 4 := by
  obtain ⟨_, hlen, hcell⟩ := World.cells?_some h1
  obtain ⟨v0, v1, v2, y0, y1, y2, k, rfl, hx, g0, g1, g2⟩ := open_cells3 Tryd.underlying39 (by kernel_rfl) hlen h2
  obtain ⟨b, e0, rfl⟩ := DataW.trod_bool Tryd.underlying4 g0
  obtain ⟨m, e1, rfl, wm⟩ := DataW.trod_int Tryd.underlying3 g1
  obtain ⟨s, e2, rfl, _⟩ := DataW.trod_string Tryd.underlying9 g2
  simp only [List.cons.injEq, and_true] at e0 e1 e2
  subst e0 e1 e2
  have q0 := hcell 0 (by omega)
  have q1 := hcell 1 (by omega)
  have q2 := hcell 2 (by omega)
  rw [Deep.add_add] at q0 q1 q2
  have hb := World.block_lt_of_cell? w _ q1
  have hb' : (a.add (i * 3 + 1)).block = a.block := by unfold Addr.add; split <;> rfl
  rw [hb'] at hb
  refine ⟨⟨b, m, s⟩, fun hi => ?_, hb, fun hsp => ?_, bounds_i64 wm, ?_⟩
  · subst hi
    exact World.cell?_spot q0
  · obtain ⟨ab, ao, asp⟩ := a
    simp only at hsp
    subst hsp
    rw [WideShapes.add_plain] at q0 q1 q2
    exact ⟨by simpa using q0, by simpa [Nat.add_assoc] using q1, by simpa [Nat.add_assoc] using q2⟩
  · rw [hx]
    simp only [Rows.uptoBulk, Rows.uptoBulkAll, Array.length_toList]
    have : s.data.size = s.size := rfl
    omega
theorem open_steps {H : Type} {enc : TypeId × Value → H} {w : World} {base : Nat} {spare : Nat → Bool} {held : Bool} {n : Nat} {c : Value} {x : DataW H × List MemPlace} (h : DataW.trod enc Tryd.prog w base spare held n 22 [c] = some x) :
    ∃ (a : Option Addr) (cap : Nat) (S : List St), c = .slice a S.length cap ∧ StsAt w a S ∧ (∀ t ∈ S, -9223372036854775808 ≤ t.n ∧ t.n ≤ 9223372036854775807) ∧ stBulk S ≤ Rows.uptoBulk x.1 := by
  rcases Deep.open_slice Tryd.underlying22 h with ⟨h0, rfl⟩ | ⟨a, len, cap, m, n', D, Pl, hc, hb, hl, hm, hmm, rfl, hx⟩
  · simp only [List.cons.injEq, and_true] at h0
    exact ⟨none, 0, [], h0, ⟨fun k t ht => by simp at ht⟩, fun t ht => by simp at ht, by simp [stBulk]⟩
  · simp only [List.cons.injEq, and_true] at hc
    have hlm : len ≤ m := by rw [hmm]; split <;> omega
    rw [cellsStep] at hx
    obtain ⟨T, hT⟩ := Deep.choose_lt (n := len) (fun i hi => by obtain ⟨cs, q1, q2⟩ := hx i (by omega); exact open_step q1 q2)
    have hlen : ((List.range len).map T).length = len := by simp
    refine ⟨some a, cap, (List.range len).map T, by rw [hlen]; exact hc, ⟨fun k t ht => ?_⟩, fun t ht => ?_, ?_⟩
    · have hk : k < len := by have := (List.getElem?_eq_some_iff.1 ht).1; simpa using this
      have et : T k = t := by simpa [hk] using ht
      obtain ⟨_, p1, p2, _, _⟩ := hT k hk
      have hsp := (hT 0 (by omega)).1 rfl
      obtain ⟨ab, ao, asp⟩ := a
      simp only at hsp
      subst hsp
      rw [← et]
      obtain ⟨r0, r1, r2⟩ := p2 rfl
      exact ⟨ab, ao, rfl, p1, r0, r1, r2⟩
    · obtain ⟨i, hi, rfl⟩ := List.mem_map.1 ht
      exact (hT i (by simpa using hi)).2.2.2.1
    · rw [bulk_map T D (List.range len) (fun i hi => (hT i (by simpa using hi)).2.2.2.2)]
      simp only [Rows.uptoBulk]
      omega
set_option maxRecDepth 100000 in
theorem codecPlays_walk {H : Type} (enc : TypeId × Value → H) (W : World) (base : Nat) (hL : laidMetH Tryd.prog Rows.codecPlaysUptoRow.laid W) (v : Value) (d : DataW H) (p : List MemPlace) (hv : Value.okWide Tryd.prog W .any base 24 v)
    (h0 : DataW.Trod enc Tryd.prog W 0 (fun _ => true) true 24 v d p) (_hlt : ∀ x ∈ p, x.block < W.heap.size) (_hw : ∀ x ∈ d.weights Tryd.prog 24, x ≤ reachBytes) (hk : Rows.uptoSmall H ([d] ++ []) = true) :
    Calls Tryd.prog 3 #[v] W fun e W' => e = .returned (.bool true) ∧ Below W.heap.size W W' := by
  obtain ⟨c0, c1, c2, y0, y1, y2, m, rfl, rfl, rfl, hy0, hy1, hy2⟩ := open_agg3 Tryd.underlying24 (by kernel_rfl) cellsScript hv h0
  obtain ⟨a, cap, S, rfl, hS, hn, hbk⟩ := open_steps hy0
  obtain ⟨a2, cap2, T, rfl, hT, hn2, hbk2⟩ := open_steps hy2
  obtain ⟨b, e1, rfl, hbl⟩ := DataW.trod_string Tryd.underlying9 hy1
  simp only [List.cons.injEq, and_true] at e1
  subst e1
  have hs := of_decide_eq_true hk
  simp only [List.append_nil, Rows.uptoBulkAll, Rows.uptoBulk] at hs
  have hbs : b.data.toList.length = b.size := by simp
  obtain ⟨A, hA⟩ := codecPlays_sents hL
  exact plays_walk S T a a2 cap cap2 b A W (by omega) (by omega) (by omega) hn hS hT hA
set_option maxRecDepth 100000 in
theorem codecPlays_lifted (os : Os) (started : os.Started) (H : Type) (enc : TypeId × Value → H) (F : Stop.Interp) :
    ReturnsInHanded {} Tryd.checked os 3 .any ((Rows.OpenSpec.upto Rows.codecPlaysSpec).preRow enc Tryd.prog Tryd.f3 Rows.codecPlaysUptoRow.domain false Rows.codecPlaysUptoRow.laid) (((Rows.OpenSpec.upto Rows.codecPlaysSpec).at F).post enc Tryd.prog Tryd.f3 false true false false) := by
  refine returnsInHanded_of_row (C := Tryd.checked) (s := Rows.OpenSpec.upto Rows.codecPlaysSpec) own started (by kernel_rfl) Tryd.func3
    (witness_row_shaped (enc := enc) (C := Tryd.checked) (laidWorld (World.holding Tryd.prog os ⟨#[], #[], []⟩)) #[.agg #[.slice none 0 0, .string ⟨#[]⟩, .slice none 0 0]] rfl (door_shaped os _) (by kernel_rfl)
      (OpenSpec.preRow_of_cond 8 (x := ([.agg [.nil, .lit (.string []), .nil]], [], [])) (by kernel_rfl) (by kernel_rfl) (fun k hk => by cases hk; kernel_rfl) (by kernel_rfl) (laidMet_of_run' 8 (by kernel_rfl) (by kernel_rfl)))) ?_
  intro W base args ds gs before hval hW _ hcond hsz hL _ _
  exact law_contract rfl rfl rfl (fun _ _ => rfl) (by kernel_rfl) (of_decide_eq_true (by kernel_rfl)) W base args ds gs before hval hW hsz (fun v d p hv h0 hlt hw e1 e2 => codecPlays_walk enc W base hL v d p hv h0 hlt hw (by have := hcond _ rfl; rw [e1, e2] at this; exact this))
theorem codecPlays_said : Rows.CodecPlaysUptoSaid :=
  OpenClaim.holds_of_cond 3 Tryd.f3 rfl rfl rfl rfl rfl rfl rfl ⟨rfl, rfl, rfl, rfl, rfl⟩ rfl rfl rfl rfl rfl (by kernel_rfl) Tryd.func3 (by kernel_rfl)
    (of_decide_eq_true (by kernel_rfl)) (by unfold Func.isWrapper; first | (rw [if_pos (by decide +kernel)]; kernel_rfl) | (rw [if_neg (by decide +kernel)]; exact ⟨rfl, rfl⟩))
    (fun os started H enc _ F => by rw [OpenClaim.pre_eq_preRow]; exact codecPlays_lifted os started H enc F)
theorem codecPlays_plain (f : FuncId) (fn : Func) (hf : Tryd.pinned.checked.prog.funcNamed "caesura/caesuralaw1.CodecPlays" = some f) (hfn : Tryd.pinned.checked.prog.funcs[f]? = some fn) :
    true = Tryd.pinned.checked.prog.looks [] ∧ ∀ (j : Nat) t, fn.params[j]? = some t → Tryd.pinned.checked.prog.wantsStandIn t = false := by
  obtain rfl : f = 3 := Option.some.inj ((show Tryd.prog.funcNamed "caesura/caesuralaw1.CodecPlays" = some 3 by kernel_rfl).symm.trans hf) |>.symm
  obtain rfl : fn = Tryd.f3 := (Option.some.inj (Tryd.func3.symm.trans hfn)).symm
  refine ⟨by kernel_rfl, fun j t ht => ?_⟩
  rw [Tryd.params3] at ht
  obtain rfl : t = 24 := by simpa using Array.mem_of_getElem? ht
  exact (show Tryd.prog.wantsStandIn 24 = false by kernel_rfl)
theorem codecPlays_card : Rows.CodecPlaysUptoCardSaid :=
  Claim7.holds_tied_plain_at .later [] _ _ _ _ codecPlays_said (fun _ h => by cases h) (by kernel_rfl) (fun _ h => by cases h) codecPlaysUpto_row_tie rfl ⟨rfl, rfl⟩ (by kernel_rfl) rfl codecPlays_plain (by kernel_rfl)
end Go.Proofs.YtnclpcnpaodjjaaDoor
