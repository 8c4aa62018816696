/-
  MxOW, MxPM, MxPW, MxVM.
-/
import Derived.Test.YtbbejfkgopcjoaaDoorNebi
namespace Go.Proofs.YtbbejfkgopcjoaaDoor.Ln
open Go.RowKit Go.Shelf Go.Lib
set_option maxRecDepth 10000 in
set_option maxHeartbeats 3200000 in
theorem lone_any (g cap base M : Nat) (ps : Lot) (w : World) (hbase : base ≤ w.heap.size) (hP : Pil4 w base (.slice (some ⟨g, 0, none⟩) M cap) ps []) (hl : ps.length = M) (hM : M ≤ 1000000) (hs : ∀ x ∈ ps, x.2.length ≤ 1000000000) :
    Calls Tryd.prog 21 #[.slice (some ⟨g, 0, none⟩) M cap] w fun e w' => e = .returned (.bool true) ∧ Hid (Below base w w' ∧ KeB [3] w w') := by
  obtain ⟨i0, hi', hz0, hz1, hz2⟩ := info_parts infoInt
  have HST : Hid (St M w base g cap 0 0 ps w) := hid0 ⟨hP, hl, hs, fun _ _ hj => absurd hj (Nat.not_lt_zero _), fun _ _ _ _ hm => absurd hm (Nat.not_lt_zero _), Below.refl _ _, KeB.refl _ _⟩
  clear hP hl hs
  have hw64 : IntKind.i64.wrap (64 * (M : Int)) = 64 * (M : Int) := by rw [IntKind.wrap_i64]; omega
  go_enter Tryd.func21, Tryd.ntmps21
  go_wp2
  go_loopw [3] (fun i wr => ∃ (k : Nat) (qs : Lot), k ≤ M ∧ i = .int .i64 (k : Int) ∧ Hid (St M w base g cap k 0 qs wr)) (fun i _ => M - (intOf i).toNat)
  case atStart => exact ⟨0, ps, by omega, rfl, HST⟩
  case round =>
    clear HST
    obtain ⟨i, qs, hi, rfl, HS⟩ := hrel
    by_cases hlt : i < M
    · have hiz : (i : Int) < (M : Int) := by omega
      go_wp2
      go_loopw [4] (fun j wr => ∃ (k : Nat) (qs : Lot), k ≤ 1000000000 ∧ j = .int .i64 (k : Int) ∧ Hid (St M w base g cap i k qs wr)) (fun j _ => 1000000000 - (intOf j).toNat)
      case atStart => exact ⟨0, qs, by omega, rfl, HS⟩
      case round =>
        clear HS
        obtain ⟨k, qs, hk, rfl, HS⟩ := hrel
        obtain ⟨x, ax, cx, hx, hxv, hxc, hxl⟩ := HS.out.row hlt
        have HX := hid0 hx
        have HXV := hid0 hxv
        clear hx hxv
        have hi0 : (0 : Int) ≤ (i : Int) := by omega
        by_cases hkl : k < x.2.length
        · obtain ⟨g', rfl, hg', hne, ⟨u0, d0⟩, f0, hput⟩ := HS.out.put HX.out hkl HXV.out
          unfold mkI at hput
          have HPut := hid0 hput
          clear hput
          generalize x.2.length = n at *
          have hkz : (k : Int) < (n : Int) := by omega
          have hk0 : (0 : Int) ≤ (k : Int) := by omega
          go_wp2
          go_roundw
          case rel => exact ⟨k + 1, _, by omega, by go_num, HPut⟩
          case measure => simp [intOf]; omega
        · have HN2 := hid0 (HS.out.next HX.out (Nat.le_of_not_lt hkl))
          have hkz : ¬ (k : Int) < (x.2.length : Int) := by omega
          generalize x.2.length = n at *
          go_wp2
          go_roundw
          case rel => exact ⟨i + 1, _, by omega, by go_num, HN2⟩
          case measure => simp [intOf]; omega
    · have hiz : ¬ (i : Int) < (M : Int) := by omega
      have hiI : (i : Int) = (M : Int) := by omega
      have hi20 : i = M := by omega
      rw [hi20] at HS
      have HG := hid0 (HS.out.gr (Nat.le_trans hbase HS.out.bel.size))
      rw [hiI]
      clear HS hiz hlt hi hi20 hiI
      go_wp2
      go_loopw [5, 6] (fun t i wr => ∃ (k : Nat) (y : Int), k ≤ M ∧ i = .int .i64 (k : Int) ∧ t = .int .i64 y ∧ 64 * (k : Int) ≤ y ∧ y ≤ 1000000100 * (k : Int) ∧ Hid (Gr M w base g cap k qs wr)) (fun _ i _ => M - (intOf i).toNat)
      case atStart => exact ⟨0, 0, by omega, rfl, rfl, by omega, by omega, HG⟩
      case round =>
        clear HG
        obtain ⟨i, y, hi, rfl, rfl, hy1, hy2, HG⟩ := hrel
        by_cases hlt : i < M
        · obtain ⟨x, ax, cx, hx, hxv, hxc, hxl, _, _⟩ := HG.out.next i hlt
          have hw0 := HG.out.start hx
          rw [hxv] at hw0
          have HW0 := hid0 hw0
          clear hw0 hxv hx HG
          have hiz : (i : Int) < (M : Int) := by omega
          have hi0 : (0 : Int) ≤ (i : Int) := by omega
          go_wp2
          go_loopw [7, 8] (fun l j wr => ∃ (m : Nat) (lv : Value), m ≤ 64 ∧ j = .int .i64 (m : Int) ∧ lv = l ∧ Hid (Gw M w base g cap i m x lv qs wr)) (fun _ j _ => 64 - (intOf j).toNat)
          case atStart => exact ⟨0, _, by omega, rfl, rfl, HW0⟩
          case round =>
            clear HW0 hxc
            obtain ⟨m, lv, hm, rfl, rfl, HW⟩ := hrel
            have hsW := HW.out.gr.big
            by_cases hml : m < 64
            · have hmz : (m : Int) < 64 := by omega
              go_wp2_with (at_builtin; go_loud (refine wpList_append_own_front _ rfl _ _ 34 rfl base 3 i0 (.int .i64 0) 1 8 Tryd.underlying34 hi' hz0 hz1 hz2 rfl (by decide) _ (x.2.length + m) (cellsI (x.2 ++ List.replicate m (-5))) rfl (World.ownsRow.alloc (HW.out.row rfl) _) ⟨wr.heap.size, 0, none⟩ 1 1 [.int .i64 (-5)] rfl rfl (cell_one_new _ _ _) (by simp [Value.oneCell']) (by unfold maxLen; omega) (by omega) (by simp; omega) ?_; intro v1 w1 hown' hgrow hat hfr; have HW1 := hid0 (HW.out.step rfl hown' hgrow hat hfr); clear hown' hgrow hat hfr))
              go_roundw
              case rel => exact ⟨m + 1, _, by omega, by go_num, rfl, HW1⟩
              case measure => simp [intOf]; omega
            · have hmz : ¬ (m : Int) < 64 := by omega
              have hm64 : m = 64 := by omega
              subst hm64
              obtain ⟨al, cl, rfl⟩ := HW.out.len
              have HG1 := hid0 HW.out.gr
              clear HW
              generalize x.2.length = n at *
              go_wp2
              go_roundw
              case rel => exact ⟨i + 1, y + (n + 64 : Nat), by omega, by go_num, by go_num, by omega, by omega, HG1⟩
              case measure => simp [intOf]; omega
        · have hiz : ¬ (i : Int) < (M : Int) := by omega
          have hiI : (i : Int) = (M : Int) := by omega
          have hi20 : i = M := by omega
          rw [hi20] at HG hy1 hy2
          rw [hiI]
          have HBl := hid0 (And.intro HG.out.bel HG.out.keb)
          obtain ⟨wq, hwq⟩ : ∃ wq, wq = wr := ⟨_, rfl⟩
          subst hwq
          clear hi20 hiI hiz
          go_wp2
          go_loopw [9] (fun i w2 => ∃ k : Nat, k ≤ M ∧ i = .int .i64 (k : Int) ∧ ∃ q, w2 = wq.drewN q) (fun i _ => M - (intOf i).toNat)
          case atStart => exact ⟨0, by omega, rfl, 0, rfl⟩
          case round =>
            clear hlt hi
            obtain ⟨i, hi, rfl, q, rfl⟩ := hrel
            by_cases hlt : i < M
            · have hiz : (i : Int) < (M : Int) := by omega
              have hi0 : (0 : Int) ≤ (i : Int) := by omega
              obtain ⟨x, ax, cx, hx, hxv, hxc, hxl, hread, hall⟩ := HG.out.next i hlt
              have HR1 : Hid (∀ m, m < x.2.length → ∃ b off, ax = some ⟨b, off, none⟩ ∧ wq.cell? ⟨b, off + m, none⟩ = some (.int .i64 (-10 - (i : Int)))) := hid0 (fun m hm => by
                obtain ⟨b, off, e1, _, e2⟩ := hread.at' m hm
                rw [hall _ (List.getElem_mem hm)] at e2
                exact ⟨b, off, e1, e2⟩)
              clear hread hall hx hxv
              generalize x.2.length = n at *
              go_wp2
              go_loopw [10] (fun j w2 => ∃ m : Nat, m ≤ n ∧ j = .int .i64 (m : Int) ∧ ∃ q, w2 = wq.drewN q) (fun j _ => n - (intOf j).toNat)
              case atStart => exact ⟨0, by omega, rfl, _, rfl⟩
              case round =>
                obtain ⟨m, hm, rfl, q, rfl⟩ := hrel
                have hm0 : (0 : Int) ≤ (m : Int) := by omega
                by_cases hml : m < n
                · obtain ⟨b1, o1, rfl, d1⟩ := HR1.out m hml
                  have hmz : (m : Int) < (n : Int) := by omega
                  have hself : (-10 - (i : Int) == -10 - (i : Int)) = true := by simp
                  go_wp2
                  go_roundw
                  case rel => exact ⟨m + 1, by omega, by go_num, _, rfl⟩
                  case measure => simp [intOf]; omega
                · have hmz : ¬ (m : Int) < (n : Int) := by omega
                  go_wp2
                  go_roundw
                  case rel => exact ⟨i + 1, by omega, by go_num, _, rfl⟩
                  case measure => simp [intOf]; omega
            · have hiz : ¬ (i : Int) < (M : Int) := by omega
              have hge : y ≥ 64 * (M : Int) := by omega
              go_wp2
              go_ret
              exact ⟨rfl, hid0 ⟨below_drew' HBl.out.1 _, HBl.out.2.trans (KeB.below _ (below_drew' (Below.refl _ _) _))⟩⟩
end Go.Proofs.YtbbejfkgopcjoaaDoor.Ln
namespace Go.Proofs.YtbbejfkgopcjoaaDoor.Lv
open Go.RowKit Go.Shelf Go.Lib
abbrev VLot := List (Value × List Value)
def OwnV (w : World) (base : Nat) (v : Value) (l : List Value) : Prop := w.ownsRow base 34 1 v l.length l
theorem OwnV.lt {w : World} {base : Nat} {v : Value} {l : List Value} (h : OwnV w base v l) {g : Nat} (hg : v.ownBlock = some g) : base ≤ g ∧ g < w.heap.size := World.ownsRow.lt h g hg
/-- Values in memory. -/
structure VA (w : World) (a : Option Addr) (l : List Value) : Prop where
  at' : ∀ k (h : k < l.length), ∃ b off, a = some ⟨b, off, none⟩ ∧ b < w.heap.size ∧ w.cell? ⟨b, off + k, none⟩ = some l[k]
theorem OwnV.ia {w : World} {base : Nat} {v : Value} {L : List Value} (h : OwnV w base v L) : ∃ a cap, v = .slice a L.length cap ∧ VA w a L := by
  have h0 := h
  rcases h.2 with ⟨rfl, hn⟩ | ⟨g, cap, cur, rfl, hg, hr, hc, _⟩
  · exact ⟨none, 0, by rw [hn], ⟨fun k hk => by omega⟩⟩
  · refine ⟨_, cap, rfl, ⟨fun k hk => ⟨g, 0, rfl, (World.ownsRow.lt h0 g rfl).2, ?_⟩⟩⟩
    have := World.ownsRow.cellAt h0 k (by omega)
    rw [Nat.zero_add, this]
    simp [hk]
/-- A list that bears the mark of a number, in a block of its own. -/
def Mk (w : World) (j : Nat) (r : Value) : Prop := ∃ b, r = .slice (some ⟨b, 0, none⟩) 1 1 ∧ w.heap[b]? = some (.cells #[.int .i64 (j : Int)] 3 (0, 0))
theorem Mk.keB {w w' : World} {j : Nat} {r : Value} (h : Mk w j r) (hk : KeB [34] w w') : Mk w' j r := by
  obtain ⟨b, e, hb⟩ := h
  exact ⟨b, e, hk.kp b _ hb (fun cs t f q => by injection q with _ q2; rw [← q2]; decide)⟩
/-- The slice v holds those of ps; those of qs are made, and are not yet in it. -/
structure Pil4 (w : World) (base : Nat) (v : Value) (ps qs : VLot) : Prop where
  outer : w.ownsRow base 26 1 v ps.length (ps.map (·.1))
  row : ∀ x ∈ ps ++ qs, OwnV w base x.1 x.2
  apart : (ps ++ qs).Pairwise fun x y => ∀ g, x.1.ownBlock = some g → y.1.ownBlock ≠ some g
  away : ∀ x ∈ ps ++ qs, ∀ g, v.ownBlock = some g → x.1.ownBlock ≠ some g
theorem Pil4.nil (w : World) (base : Nat) : Pil4 w base (.slice none 0 0) [] [] := ⟨World.ownsRow_nil _ _ _ _, by simp, List.Pairwise.nil, by simp⟩
theorem Pil4.later {w w' : World} {base : Nat} {v : Value} {ps qs : VLot} (h : Pil4 w base v ps qs) (hb : Below w.heap.size w w') : Pil4 w' base v ps qs :=
  ⟨row_later h.outer hb, fun x hx => row_later (h.row x hx) hb, h.apart, h.away⟩
theorem Pil4.cell {w : World} {base g n cap : Nat} {ps qs : VLot} (h : Pil4 w base (.slice (some ⟨g, 0, none⟩) n cap) ps qs) (hn : ps.length = n) (j : Nat) (hj : j < ps.length) : w.cell? ⟨g, j, none⟩ = some ps[j].1 := by
  have ho := h.outer
  rw [hn] at ho
  rw [World.ownsRow.cellAt ho j (by omega)]
  simp [hj]
/-- One string of one list written over. -/
theorem Pil4.put {w : World} {base : Nat} {v : Value} {ps : VLot} (h : Pil4 w base v ps []) (i : Nat) (hi : i < ps.length) {g n cap : Nat} {l : List Value} (hp : ps[i] = (.slice (some ⟨g, 0, none⟩) n cap, l)) (hl : l.length = n) (k : Nat) (s : Value) :
    Pil4 (w.setCell ⟨g, k, none⟩ s) base v (ps.set i (.slice (some ⟨g, 0, none⟩) n cap, l.set k s)) [] := by
  have hmem : ps[i] ∈ ps := List.getElem_mem hi
  have hnil : ∀ q : VLot, q ++ [] = q := fun q => List.append_nil q
  have hrow : ∀ x ∈ ps, OwnV w base x.1 x.2 := fun x hx => h.row x (by rw [hnil]; exact hx)
  have hri := hrow _ hmem
  have hbl : ps[i].1.ownBlock = some g := by rw [hp]; rfl
  have hawy : ∀ x ∈ ps, ∀ g, v.ownBlock = some g → x.1.ownBlock ≠ some g := fun x hx => h.away x (by rw [hnil]; exact hx)
  have hapt : ps.Pairwise fun x y => ∀ g, x.1.ownBlock = some g → y.1.ownBlock ≠ some g := by have := h.apart; rw [hnil] at this; exact this
  have haw : ∀ g', v.ownBlock = some g' → g' ≠ g := fun g' hg' e => by subst e; exact hawy _ hmem g' hg' hbl
  have hput : OwnV (w.setCell ⟨g, k, none⟩ s) base (.slice (some ⟨g, 0, none⟩) n cap) (l.set k s) := by
    rw [hp] at hri
    subst hl
    have h1 := (World.ownsRow.stored hri k s).1
    unfold OwnV
    rw [List.length_set]
    exact h1
  have keep : ∀ {t : TypeId} {size m : Nat} {u : Value} {xs : List Value}, w.ownsRow base t size u m xs → (∀ g', u.ownBlock = some g' → g' ≠ g) → (w.setCell ⟨g, k, none⟩ s).ownsRow base t size u m xs := by
    intro t size m u xs ho hne
    exact own_blk ho (fun q hq => Below.heap_setCell w _ _ q (hne q hq))
  have hmap : (ps.set i (.slice (some ⟨g, 0, none⟩) n cap, l.set k s)).map (·.1) = ps.map (·.1) := by
    rw [List.map_set]
    apply List.ext_getElem
    · simp
    · intro j h1 h2
      rw [List.getElem_set]
      split
      · subst_vars; simp [hp]
      · rfl
  have hpr : ∀ {R : Value → Value → Prop} (qs : VLot), qs.Pairwise (fun x y => R x.1 y.1) ↔ (qs.map (·.1)).Pairwise R := by
    intro R qs
    rw [List.pairwise_map]
  refine ⟨?_, ?_, ?_, ?_⟩
  · rw [hmap, List.length_set]
    exact keep h.outer haw
  · intro x hx
    rw [hnil] at hx
    obtain ⟨j, hj, rfl⟩ := List.getElem_of_mem hx
    have hj2 : j < ps.length := by simpa using hj
    rw [List.getElem_set]
    split
    · exact hput
    · rename_i hne
      refine keep (hrow _ (List.getElem_mem hj2)) ?_
      intro g' hg' e
      subst e
      have := List.pairwise_iff_getElem.1 hapt
      rcases Nat.lt_or_gt_of_ne hne with hlt | hlt
      · exact this i j hi hj2 hlt g' hbl hg'
      · exact this j i hj2 hi hlt g' hg' hbl
  · rw [hnil]
    have := hapt
    rw [hpr (R := fun x y => ∀ g, x.ownBlock = some g → y.ownBlock ≠ some g)] at this ⊢
    rw [hmap]
    exact this
  · intro x hx g' hg'
    rw [hnil] at hx
    have hx1 : x.1 ∈ ps.map (·.1) := by rw [← hmap]; exact List.mem_map_of_mem hx
    obtain ⟨y, hy, hye⟩ := List.mem_map.1 hx1
    rw [← hye]
    exact hawy y hy g' hg'
/-- The lists while they are written over. -/
structure St (M : Nat) (W4 : World) (base g cap : Nat) (i k : Nat) (qs : VLot) (wr : World) : Prop where
  pile : Pil4 wr base (.slice (some ⟨g, 0, none⟩) M cap) qs []
  len : qs.length = M
  small : ∀ x ∈ qs, x.2.length ≤ 1000000000
  done : ∀ j x, j < i → qs[j]? = some x → ∀ r ∈ x.2, Mk wr j r
  part : ∀ x, qs[i]? = some x → ∀ m (h : m < x.2.length), m < k → Mk wr i x.2[m]
  bel : Below base W4 wr
  keb : KeB [34] W4 wr
theorem St.rows {M : Nat} {W4 wr : World} {base g cap i k : Nat} {qs : VLot} (h : St M W4 base g cap i k qs wr) (x : Value × List Value) (hx : x ∈ qs) : OwnV wr base x.1 x.2 := h.pile.row x (by rw [List.append_nil]; exact hx)
theorem St.row {M : Nat} {W4 wr : World} {base g cap i k : Nat} {qs : VLot} (h : St M W4 base g cap i k qs wr) (hi : i < M) : ∃ x a c, qs[i]? = some x ∧ x.1 = .slice a x.2.length c ∧ wr.cell? ⟨g, i, none⟩ = some (.slice a x.2.length c) ∧ x.2.length ≤ 1000000000 := by
  have hl : i < qs.length := by rw [h.len]; exact hi
  have hx : qs[i]? = some qs[i] := List.getElem?_eq_getElem hl
  obtain ⟨a, c, e, _⟩ := (h.rows _ (List.getElem_mem hl)).ia
  exact ⟨qs[i], a, c, hx, e, by rw [h.pile.cell h.len i hl, e], h.small _ (List.getElem_mem hl)⟩
theorem St.next {M : Nat} {W4 wr : World} {base g cap i k : Nat} {qs : VLot} (h : St M W4 base g cap i k qs wr) {x : Value × List Value} (hx : qs[i]? = some x) (hk : x.2.length ≤ k) : St M W4 base g cap (i + 1) 0 qs wr where
  pile := h.pile
  len := h.len
  small := h.small
  done := fun j y hj hy r hr => by
    rcases Nat.lt_or_ge j i with hlt | hge
    · exact h.done j y hlt hy r hr
    · have e : j = i := by omega
      subst e
      rw [hx] at hy
      obtain rfl := Option.some.inj hy
      obtain ⟨m, hm, rfl⟩ := List.getElem_of_mem hr
      exact h.part x hx m hm (by omega)
  part := fun _ _ _ _ hm => absurd hm (Nat.not_lt_zero _)
  bel := h.bel
  keb := h.keb
theorem St.put {M : Nat} {W4 wr : World} {base g cap i k : Nat} {qs : VLot} (h : St M W4 base g cap i k qs wr) {x : Value × List Value} (hx : qs[i]? = some x) (hk : k < x.2.length) {a : Option Addr} {c : Nat} (hv : x.1 = .slice a x.2.length c) {u : Value} (hu : Mk wr i u) : ∃ g', a = some ⟨g', 0, none⟩ ∧ base ≤ g' ∧ g' ≠ g ∧
    (∃ u0, wr.cell? ⟨g', k, none⟩ = some u0) ∧ wr.frozen? ⟨g', k, none⟩ = false ∧
    St M W4 base g cap i (k + 1) (qs.set i (.slice (some ⟨g', 0, none⟩) x.2.length c, x.2.set k u)) (wr.setCell ⟨g', k, none⟩ u) := by
  obtain ⟨hi, rfl⟩ := List.getElem?_eq_some_iff.1 hx
  have hr := h.rows _ (List.getElem_mem hi)
  obtain ⟨g', c', e, hg', _⟩ := own_form hr (by omega)
  rw [hv] at e
  simp only [Value.slice.injEq, true_and] at e
  obtain ⟨rfl, rfl⟩ := e
  rw [hv] at hr
  have hp : qs[i] = (.slice (some ⟨g', 0, none⟩) qs[i].2.length c, qs[i].2) := Prod.ext hv rfl
  have hne : g' ≠ g := fun e => by
    subst e
    exact h.pile.away _ (by rw [List.append_nil]; exact List.getElem_mem hi) g' rfl (by rw [hv]; rfl)
  have hK : KeB [34] wr (wr.setCell ⟨g', k, none⟩ u) := by
    obtain ⟨cs, hcs⟩ := own_typ hr (show Value.ownBlock _ = some g' from rfl)
    exact KeB.cell hcs (by simp) _
  refine ⟨g', rfl, hg', hne, ⟨qs[i].2[k], by rw [World.ownsRow.cellAt hr k (by omega)]; simp [hk]⟩, World.ownsRow.frozenAt hr _, ?_, ?_, ?_, ?_, ?_, ?_, ?_⟩
  · exact h.pile.put i hi hp rfl k _
  · rw [List.length_set]; exact h.len
  · intro y hy
    rcases List.mem_or_eq_of_mem_set hy with hy | rfl
    · exact h.small y hy
    · simp only [List.length_set]
      exact h.small _ (List.getElem_mem hi)
  · intro j y hj hy
    rw [List.getElem?_set_ne (by omega)] at hy
    exact fun r hr => (h.done j y hj hy r hr).keB hK
  · intro y hy m hm hmk
    rw [List.getElem?_set_self hi] at hy
    obtain rfl := Option.some.inj hy
    simp only [List.length_set] at hm
    rw [List.getElem_set]
    split
    · exact hu.keB hK
    · exact (h.part _ hx m hm (by omega)).keB hK
  · exact h.bel.setCell (p := ⟨g', k, none⟩) hg' _
  · exact h.keb.trans hK
theorem St.later {M : Nat} {W4 wr w' : World} {base g cap i k : Nat} {qs : VLot} (h : St M W4 base g cap i k qs wr) (hb : Below wr.heap.size wr w') : St M W4 base g cap i k qs w' := ⟨h.pile.later hb, h.len, h.small, fun j x hj hx r hr => (h.done j x hj hx r hr).keB (KeB.below _ hb), fun x hx m hm hk => (h.part x hx m hm hk).keB (KeB.below _ hb), h.bel.trans (hb.mono (by have := World.ownsRow.lt h.pile.outer g rfl; omega)), h.keb.trans (KeB.below _ hb)⟩
/-- All read as they did; those from i on are still their own. -/
structure Gr (M : Nat) (W4 : World) (base g cap : Nat) (i : Nat) (qs : VLot) (wr : World) : Prop where
  outer : wr.ownsRow base 26 1 (.slice (some ⟨g, 0, none⟩) M cap) M (qs.map (·.1))
  len : qs.length = M
  small : ∀ x ∈ qs, x.2.length ≤ 1000000000
  done : ∀ (j : Nat) (x : Value × List Value), j < M → qs[j]? = some x → ∀ r ∈ x.2, Mk wr j r
  apart : qs.Pairwise fun x y => ∀ g, x.1.ownBlock = some g → y.1.ownBlock ≠ some g
  away : ∀ x ∈ qs, x.1.ownBlock ≠ some g
  lt : ∀ x ∈ qs, ∀ g', x.1.ownBlock = some g' → g' < wr.heap.size
  read : ∀ x ∈ qs, ∃ a c, x.1 = .slice a x.2.length c ∧ VA wr a x.2
  zero : ∀ x ∈ qs, ∀ b off n c, x.1 = .slice (some ⟨b, off, none⟩) n c → off = 0
  own : ∀ (j : Nat) (x : Value × List Value), i ≤ j → qs[j]? = some x → OwnV wr base x.1 x.2
  bel : Below base W4 wr
  keb : KeB [34] W4 wr
  big : base ≤ wr.heap.size
theorem St.gr {M : Nat} {W4 wr : World} {base g cap : Nat} {qs : VLot} (h : St M W4 base g cap M 0 qs wr) (hbig : base ≤ wr.heap.size) : Gr M W4 base g cap 0 qs wr where
  outer := by have := h.pile.outer; rw [h.len] at this; exact this
  len := h.len
  small := h.small
  done := h.done
  apart := by have := h.pile.apart; rw [List.append_nil] at this; exact this
  away := fun x hx => h.pile.away x (by rw [List.append_nil]; exact hx) g rfl
  lt := fun x hx g' hg' => (OwnV.lt (h.rows x hx) hg').2
  read := fun x hx => by obtain ⟨a, c, e, hs⟩ := (h.rows x hx).ia; exact ⟨a, c, e, hs⟩
  zero := fun x hx b off n c e => by
    rcases (h.rows x hx).2 with ⟨h0, _⟩ | ⟨g1, cap1, cur, hv, _⟩
    · rw [e] at h0; cases h0
    · rw [e] at hv
      simp only [Value.slice.injEq, Option.some.injEq, Addr.mk.injEq] at hv
      exact hv.1.2.1
  own := fun j x _ hx => h.rows x (List.mem_of_getElem? hx)
  bel := h.bel
  keb := h.keb
  big := hbig
theorem Gr.cell {M : Nat} {W4 wr : World} {base g cap i : Nat} {qs : VLot} (h : Gr M W4 base g cap i qs wr) (j : Nat) {x : Value × List Value} (hx : qs[j]? = some x) : wr.cell? ⟨g, j, none⟩ = some x.1 := by
  obtain ⟨hj, rfl⟩ := List.getElem?_eq_some_iff.1 hx
  have hl := h.len
  rw [World.ownsRow.cellAt h.outer j (by omega)]
  simp [hj]
/-- One list while it grows: lv reads as the list and k more. -/
structure Gw (M : Nat) (W4 : World) (base g cap : Nat) (i : Nat) (E : List Value) (x : Value × List Value) (lv : Value) (qs : VLot) (wr : World) : Prop where
  gr : Gr M W4 base g cap (i + 1) qs wr
  at' : qs[i]? = some x
  lo : OwnV wr base lv (x.2 ++ E)
  away : lv.ownBlock ≠ some g
  apart : ∀ (j : Nat) (y : Value × List Value), j ≠ i → qs[j]? = some y → ∀ g', lv.ownBlock = some g' → y.1.ownBlock ≠ some g'
theorem Gr.start {M : Nat} {W4 wr : World} {base g cap i : Nat} {qs : VLot} (h : Gr M W4 base g cap i qs wr) {x : Value × List Value} (hx : qs[i]? = some x) : Gw M W4 base g cap i [] x x.1 qs wr where
  gr := { h with own := fun j y hj hy => h.own j y (by omega) hy }
  at' := hx
  lo := by rw [List.append_nil]; exact h.own i x (Nat.le_refl _) hx
  away := h.away x (List.mem_of_getElem? hx)
  apart := fun j y hj hy g' hg' hyg => by
    obtain ⟨hi1, rfl⟩ := List.getElem?_eq_some_iff.1 hx
    obtain ⟨hj1, rfl⟩ := List.getElem?_eq_some_iff.1 hy
    have := List.pairwise_iff_getElem.1 h.apart
    rcases Nat.lt_or_gt_of_ne hj with hlt | hlt
    · exact this j i hj1 hi1 hlt g' hyg hg'
    · exact this i j hi1 hj1 hlt g' hg' hyg
theorem VA.moved {w w' : World} {a : Option Addr} {l : List Value} (h : VA w a l) (hs : w.heap.size ≤ w'.heap.size) (hk : ∀ b off j u, a = some ⟨b, off, none⟩ → j < l.length → w.cell? ⟨b, off + j, none⟩ = some u → w'.cell? ⟨b, off + j, none⟩ = some u) : VA w' a l := ⟨fun k hl => by
  obtain ⟨b, off, rfl, h1, h2⟩ := h.at' k hl
  exact ⟨b, off, rfl, Nat.lt_of_lt_of_le h1 hs, hk b off k _ rfl hl h2⟩⟩
theorem kept_row {wr w1 : World} {o : Obj} {lv : Value} (hgrow : (wr.alloc o).grownBy w1 lv.ownBlock) {base : Nat} {t : TypeId} {size m : Nat} {u : Value} {xs : List Value} (hu : wr.ownsRow base t size u m xs) (hne : ∀ g', lv.ownBlock = some g' → u.ownBlock ≠ some g') : w1.ownsRow base t size u m xs := by
  refine World.ownsRow.kept (World.ownsRow.alloc hu o) hgrow ?_
  cases e : u.ownBlock with
  | none => exact .inl rfl
  | some g1 => exact .inr fun hc => hne g1 hc.symm e
theorem Gw.step {M : Nat} {W4 wr w1 : World} {base g cap i : Nat} {E : List Value} {u' : Value} {x : Value × List Value} {lv lv' : Value} {qs : VLot} {o : Obj} {n : Nat} (h : Gw M W4 base g cap i E x lv qs wr) (hn : n = x.2.length + E.length)
    (hown' : w1.ownsRow base 34 1 lv' (n + 1) ((x.2 ++ E) ++ [u'])) (hgrow : (wr.alloc o).grownBy w1 lv.ownBlock)
    (hat : lv'.ownBlock = lv.ownBlock ∨ lv'.ownBlock = some (wr.alloc o).heap.size) (hfr : ∀ g j u, lv.ownBlock = some g → j < n * 1 → (wr.alloc o).cell? ⟨g, j, none⟩ = some u → w1.cell? ⟨g, j, none⟩ = some u) : Gw M W4 base g cap i (E ++ [u']) x lv' qs w1 := by
  subst hn
  have hbs := h.gr.big
  have hsz : (wr.alloc o).heap.size = wr.heap.size + 1 := by simp
  have hs1 : wr.heap.size + 1 ≤ w1.heap.size := by have := hgrow.size; omega
  have hB : Below wr.heap.size wr (wr.alloc o) := (Below.refl _ wr).alloc (Nat.le_refl _) o
  have readK : ∀ y ∈ qs, ∃ a c, y.1 = .slice a y.2.length c ∧ VA w1 a y.2 := by
    intro y hy
    obtain ⟨a, c, e, hr⟩ := h.gr.read y hy
    refine ⟨a, c, e, VA.moved hr (by omega) ?_⟩
    intro b off j u ha hj hc
    subst ha
    have hc2 : (wr.alloc o).cell? ⟨b, off + j, none⟩ = some u := (hB.cell (p := ⟨b, off + j, none⟩) (World.block_lt_of_cell? wr _ hc)).trans hc
    by_cases hlb : lv.ownBlock = some b
    · have hyb : y.1.ownBlock = some b := by rw [e]; rfl
      obtain ⟨jj, hjj⟩ := List.getElem?_of_mem hy
      have hji : jj = i := by
        by_cases hne : jj = i
        · exact hne
        · exact absurd hyb (h.apart jj y hne hjj b hlb)
      subst hji
      rw [h.at'] at hjj
      obtain rfl := Option.some.inj hjj
      have h0 : off = 0 := h.gr.zero _ hy b off _ _ e
      subst h0
      exact hfr b (0 + j) u hlb (by omega) hc2
    · exact hgrow.cell hc2 (fun e => hlb e.symm)
  have hgl : g < wr.heap.size := (World.ownsRow.lt h.gr.outer g rfl).2
  have hnew : ∀ {u : Value}, (∀ g', u.ownBlock = some g' → g' < wr.heap.size) → (∀ g', lv.ownBlock = some g' → u.ownBlock ≠ some g') → ∀ g', lv'.ownBlock = some g' → u.ownBlock ≠ some g' := fun hu hne g' hg' hug => by
    rcases hat with hat | hat
    · rw [hat] at hg'
      exact hne g' hg' hug
    · rw [hat, hsz] at hg'
      have e1 := Option.some.inj hg'
      have e2 := hu g' hug
      omega
  have hKB : KeB [34] wr w1 := KeB.row h.lo (by simp) (grown_onlyP hgrow)
  refine ⟨⟨?_, h.gr.len, h.gr.small, fun j x hj hx r hr => (h.gr.done j x hj hx r hr).keB hKB, h.gr.apart, h.gr.away, ?_, readK, h.gr.zero, ?_, ?_, h.gr.keb.trans hKB, by omega⟩, h.at', ?_, ?_, ?_⟩
  · refine kept_row hgrow h.gr.outer ?_
    intro g' hg' hc
    have : g = g' := by simpa [Value.ownBlock] using hc
    subst this
    exact h.away hg'
  · intro y hy g' hg'
    have := h.gr.lt y hy g' hg'
    omega
  · intro j y hj hy
    exact kept_row hgrow (h.gr.own j y hj hy) (fun g' hg' => h.apart j y (by omega) hy g' hg')
  · exact (h.gr.bel.alloc (by omega) o).grown hgrow (by omega) (fun k hk' => (OwnV.lt h.lo hk').1)
  · unfold OwnV
    rw [← List.append_assoc, List.length_append, List.length_append]
    exact hown'
  · rcases hat with hat | hat
    · rw [hat]; exact h.away
    · rw [hat, hsz]
      intro e
      have := Option.some.inj e
      omega
  · intro j y hj hy
    exact hnew (h.gr.lt y (List.mem_of_getElem? hy)) (h.apart j y hj hy)
theorem Gw.len {M : Nat} {W4 wr : World} {base g cap i : Nat} {E : List Value} {x : Value × List Value} {lv : Value} {qs : VLot} (h : Gw M W4 base g cap i E x lv qs wr) : ∃ a c, lv = .slice a (x.2.length + E.length) c := by
  obtain ⟨a, c, e, _⟩ := h.lo.ia
  rw [List.length_append] at e
  exact ⟨a, c, e⟩
theorem Gw.row {M : Nat} {W4 wr : World} {base g cap i : Nat} {E : List Value} {x : Value × List Value} {lv : Value} {qs : VLot} (h : Gw M W4 base g cap i E x lv qs wr) {n : Nat} (hn : x.2.length + E.length = n) : wr.ownsRow base 34 1 lv n (x.2 ++ E) := by
  have := h.lo
  unfold OwnV at this
  rw [List.length_append, hn] at this
  exact this
theorem Gr.later {M : Nat} {W4 wr w' : World} {base g cap i : Nat} {qs : VLot} (h : Gr M W4 base g cap i qs wr) (hb : Below wr.heap.size wr w') : Gr M W4 base g cap i qs w' where
  outer := row_later h.outer hb
  len := h.len
  small := h.small
  done := fun j x hj hx r hr => (h.done j x hj hx r hr).keB (KeB.below _ hb)
  apart := h.apart
  away := h.away
  lt := fun x hx g' hg' => Nat.lt_of_lt_of_le (h.lt x hx g' hg') hb.size
  read := fun x hx => by
    obtain ⟨a, c, e, hr⟩ := h.read x hx
    exact ⟨a, c, e, VA.moved hr hb.size (fun b off j u _ _ q => (hb.cell (p := ⟨b, off + j, none⟩) (World.block_lt_of_cell? _ _ q)).trans q)⟩
  zero := h.zero
  own := fun j x hj hx => row_later (h.own j x hj hx) hb
  bel := h.bel.trans (hb.mono h.big)
  keb := h.keb.trans (KeB.below _ hb)
  big := Nat.le_trans h.big hb.size
theorem Gw.later {M : Nat} {W4 wr w' : World} {base g cap i : Nat} {E : List Value} {x : Value × List Value} {lv : Value} {qs : VLot} (h : Gw M W4 base g cap i E x lv qs wr) (hb : Below wr.heap.size wr w') : Gw M W4 base g cap i E x lv qs w' := ⟨h.gr.later hb, h.at', row_later h.lo hb, h.away, h.apart⟩
theorem Gr.next {M : Nat} {W4 wr : World} {base g cap i0 : Nat} {qs : VLot} (h : Gr M W4 base g cap i0 qs wr) (i : Nat) (hi : i < M) : ∃ x a c, qs[i]? = some x ∧ x.1 = .slice a x.2.length c ∧ wr.cell? ⟨g, i, none⟩ = some (.slice a x.2.length c) ∧ x.2.length ≤ 1000000000 ∧ VA wr a x.2 ∧ ∀ r ∈ x.2, Mk wr i r := by
  have hl : i < qs.length := by rw [h.len]; exact hi
  have hx : qs[i]? = some qs[i] := List.getElem?_eq_getElem hl
  obtain ⟨a, c, e, hr⟩ := h.read _ (List.getElem_mem hl)
  exact ⟨qs[i], a, c, hx, e, by rw [h.cell i hx, e], h.small _ (List.getElem_mem hl), hr, h.done i _ hi hx⟩
end Go.Proofs.YtbbejfkgopcjoaaDoor.Lv
namespace Go.Proofs.YtbbejfkgopcjoaaDoor.Lv
open Go.RowKit Go.Shelf Go.Lib
set_option maxRecDepth 10000 in
set_option maxHeartbeats 3200000 in
theorem stacked_any (g cap base M : Nat) (ps : VLot) (w : World) (hbase : base ≤ w.heap.size) (hP : Pil4 w base (.slice (some ⟨g, 0, none⟩) M cap) ps []) (hl : ps.length = M) (hM : M ≤ 1000000) (hs : ∀ x ∈ ps, x.2.length ≤ 1000000000) :
    Calls Tryd.prog 23 #[.slice (some ⟨g, 0, none⟩) M cap] w fun e w' => e = .returned (.bool true) ∧ Hid (Below base w w' ∧ KeB [34] w w') := by
  obtain ⟨i0, hi', hz0, hz1, hz2⟩ := info_parts infoIntsM
  have HST : Hid (St M w base g cap 0 0 ps w) := hid0 ⟨hP, hl, hs, fun _ _ hj => absurd hj (Nat.not_lt_zero _), fun _ _ _ _ hm => absurd hm (Nat.not_lt_zero _), Below.refl _ _, KeB.refl _ _⟩
  clear hP hl hs
  have hw64 : IntKind.i64.wrap (64 * (M : Int)) = 64 * (M : Int) := by rw [IntKind.wrap_i64]; omega
  go_enter Tryd.func23, Tryd.ntmps23
  go_wp2
  go_loopw [3] (fun i wr => ∃ (k : Nat) (qs : VLot), k ≤ M ∧ i = .int .i64 (k : Int) ∧ Hid (St M w base g cap k 0 qs wr)) (fun i _ => M - (intOf i).toNat)
  case atStart => exact ⟨0, ps, by omega, rfl, HST⟩
  case round =>
    clear HST
    obtain ⟨i, qs, hi, rfl, HS⟩ := hrel
    by_cases hlt : i < M
    · have hiz : (i : Int) < (M : Int) := by omega
      go_wp2
      go_loopw [4] (fun j wr => ∃ (k : Nat) (qs : VLot), k ≤ 1000000000 ∧ j = .int .i64 (k : Int) ∧ Hid (St M w base g cap i k qs wr)) (fun j _ => 1000000000 - (intOf j).toNat)
      case atStart => exact ⟨0, qs, by omega, rfl, HS⟩
      case round =>
        clear HS
        obtain ⟨k, qs, hk, rfl, HS⟩ := hrel
        obtain ⟨x, ax, cx, hx, hxv, hxc, hxl⟩ := HS.out.row hlt
        have HX := hid0 hx
        have HXV := hid0 hxv
        clear hx hxv
        have hi0 : (0 : Int) ≤ (i : Int) := by omega
        by_cases hkl : k < x.2.length
        · obtain ⟨wB, hwB⟩ : ∃ wB, wB = wr.alloc (.cells #[.int .i64 (i : Int)] 3) := ⟨_, rfl⟩
          have hbB : Below wr.heap.size wr wB := by rw [hwB]; exact below_alloc1 _ _
          have hmk : Mk wB i (.slice (some ⟨wr.heap.size, 0, none⟩) 1 1) := ⟨wr.heap.size, rfl, by rw [hwB]; exact heap_alloc_new wr _⟩
          obtain ⟨g', rfl, hg', hne, ⟨u0, d0⟩, f0, hput⟩ := (HS.out.later hbB).put HX.out hkl HXV.out hmk
          have HPut := hid0 hput
          have hfold := hwB.symm
          clear hput hwB hbB hmk
          generalize x.2.length = n at *
          have hkz : (k : Int) < (n : Int) := by omega
          have hk0 : (0 : Int) ≤ (k : Int) := by omega
          go_wp2
          go_roundw
          case rel => exact ⟨k + 1, _, by omega, by go_num, HPut⟩
          case measure => simp [intOf]; omega
        · have HN2 := hid0 (HS.out.next HX.out (Nat.le_of_not_lt hkl))
          have hkz : ¬ (k : Int) < (x.2.length : Int) := by omega
          generalize x.2.length = n at *
          go_wp2
          go_roundw
          case rel => exact ⟨i + 1, _, by omega, by go_num, HN2⟩
          case measure => simp [intOf]; omega
    · have hiz : ¬ (i : Int) < (M : Int) := by omega
      have hiI : (i : Int) = (M : Int) := by omega
      have hi20 : i = M := by omega
      rw [hi20] at HS
      have HG := hid0 (HS.out.gr (Nat.le_trans hbase HS.out.bel.size))
      rw [hiI]
      clear HS hiz hlt hi hi20 hiI
      go_wp2
      go_loopw [5, 6] (fun t i wr => ∃ (k : Nat) (y : Int), k ≤ M ∧ i = .int .i64 (k : Int) ∧ t = .int .i64 y ∧ 64 * (k : Int) ≤ y ∧ y ≤ 1000000100 * (k : Int) ∧ Hid (Gr M w base g cap k qs wr)) (fun _ i _ => M - (intOf i).toNat)
      case atStart => exact ⟨0, 0, by omega, rfl, rfl, by omega, by omega, HG⟩
      case round =>
        clear HG
        obtain ⟨i, y, hi, rfl, rfl, hy1, hy2, HG⟩ := hrel
        by_cases hlt : i < M
        · obtain ⟨x, ax, cx, hx, hxv, hxc, hxl, _, _⟩ := HG.out.next i hlt
          have hw0 := HG.out.start hx
          rw [hxv] at hw0
          have HW0 := hid0 hw0
          clear hw0 hxv hx HG
          have hiz : (i : Int) < (M : Int) := by omega
          have hi0 : (0 : Int) ≤ (i : Int) := by omega
          go_wp2
          go_loopw [7, 8] (fun l j wr => ∃ (m : Nat) (E : List Value) (lv : Value), m ≤ 64 ∧ j = .int .i64 (m : Int) ∧ lv = l ∧ Hid (E.length = m) ∧ Hid (Gw M w base g cap i E x lv qs wr)) (fun _ j _ => 64 - (intOf j).toNat)
          case atStart => exact ⟨0, [], _, by omega, rfl, rfl, hid0 rfl, HW0⟩
          case round =>
            clear HW0 hxc
            obtain ⟨m, E, lv, hm, rfl, rfl, HEl, HW⟩ := hrel
            have hsW := HW.out.gr.big
            by_cases hml : m < 64
            · have hmz : (m : Int) < 64 := by omega
              obtain ⟨wB, hwB⟩ : ∃ wB, wB = wr.alloc (.cells #[.int .i64 (-1)] 3) := ⟨_, rfl⟩
              have hbB : Below wr.heap.size wr wB := by rw [hwB]; exact below_alloc1 _ _
              have HWB := hid0 (HW.out.later hbB)
              have HSB : Hid (base ≤ wB.heap.size) := hid0 (Nat.le_trans hsW hbB.size)
              have hfold := hwB.symm
              have HEl2 : Hid ((E ++ [Value.slice (some ⟨wr.heap.size, 0, none⟩) 1 1]).length = m + 1) := hid0 (by rw [List.length_append, HEl.out]; rfl)
              have HRo : Hid (wB.ownsRow base 34 1 lv (x.2.length + m) (x.2 ++ E)) := hid0 (HWB.out.row (by rw [HEl.out]))
              clear hwB hbB
              go_wp2_with (at_builtin; go_loud (refine wpList_append_own_front _ rfl _ _ 26 rfl base 34 i0 (.slice none 0 0) 1 24 Tryd.underlying26 hi' hz0 hz1 hz2 rfl (by decide) _ (x.2.length + m) (x.2 ++ E) rfl (World.ownsRow.alloc HRo.out _) ⟨wB.heap.size, 0, none⟩ 1 1 [.slice (some ⟨wr.heap.size, 0, none⟩) 1 1] rfl rfl (cell_one_new _ _ _) (by simp [Value.oneCell']) (by unfold maxLen; omega) (by omega) (by have := HSB.out; simp; omega) ?_; intro v1 w1 hown' hgrow hat hfr; have HW1 := hid0 (HWB.out.step (by rw [HEl.out]) hown' hgrow hat hfr); clear hown' hgrow hat hfr))
              go_roundw
              case rel => exact ⟨m + 1, _, _, by omega, by go_num, rfl, HEl2, HW1⟩
              case measure => simp [intOf]; omega
            · have hmz : ¬ (m : Int) < 64 := by omega
              have hm64 : m = 64 := by omega
              subst hm64
              obtain ⟨al, cl, rfl⟩ : ∃ a c, lv = .slice a (x.2.length + 64) c := by have h := HW.out.len; rw [HEl.out] at h; exact h
              have HG1 := hid0 HW.out.gr
              clear HW
              generalize x.2.length = n at *
              go_wp2
              go_roundw
              case rel => exact ⟨i + 1, y + (n + 64 : Nat), by omega, by go_num, by go_num, by omega, by omega, HG1⟩
              case measure => simp [intOf]; omega
        · have hiz : ¬ (i : Int) < (M : Int) := by omega
          have hiI : (i : Int) = (M : Int) := by omega
          have hi20 : i = M := by omega
          rw [hi20] at HG hy1 hy2
          rw [hiI]
          have HBl := hid0 (And.intro HG.out.bel HG.out.keb)
          obtain ⟨wq, hwq⟩ : ∃ wq, wq = wr := ⟨_, rfl⟩
          subst hwq
          clear hi20 hiI hiz
          go_wp2
          go_loopw [9] (fun i w2 => ∃ k : Nat, k ≤ M ∧ i = .int .i64 (k : Int) ∧ ∃ q, w2 = wq.drewN q) (fun i _ => M - (intOf i).toNat)
          case atStart => exact ⟨0, by omega, rfl, 0, rfl⟩
          case round =>
            clear hlt hi
            obtain ⟨i, hi, rfl, q, rfl⟩ := hrel
            by_cases hlt : i < M
            · have hiz : (i : Int) < (M : Int) := by omega
              have hi0 : (0 : Int) ≤ (i : Int) := by omega
              obtain ⟨x, ax, cx, hx, hxv, hxc, hxl, hread, hall⟩ := HG.out.next i hlt
              have HR1 : Hid (∀ m, m < x.2.length → ∃ b off b2, ax = some ⟨b, off, none⟩ ∧ wq.cell? ⟨b, off + m, none⟩ = some (.slice (some ⟨b2, 0, none⟩) 1 1) ∧ wq.cell? ⟨b2, 0, none⟩ = some (.int .i64 (i : Int))) := hid0 (fun m hm => by
                obtain ⟨b, off, e1, _, e2⟩ := hread.at' m hm
                obtain ⟨b2, e3, e4⟩ := hall _ (List.getElem_mem hm)
                rw [e3] at e2
                exact ⟨b, off, b2, e1, e2, by rw [cell_of_row _ _ _ _ _ _ e4]; rfl⟩)
              clear hread hall hx hxv
              generalize x.2.length = n at *
              go_wp2
              go_loopw [10] (fun j w2 => ∃ m : Nat, m ≤ n ∧ j = .int .i64 (m : Int) ∧ ∃ q, w2 = wq.drewN q) (fun j _ => n - (intOf j).toNat)
              case atStart => exact ⟨0, by omega, rfl, _, rfl⟩
              case round =>
                obtain ⟨m, hm, rfl, q, rfl⟩ := hrel
                have hm0 : (0 : Int) ≤ (m : Int) := by omega
                by_cases hml : m < n
                · obtain ⟨b1, o1, b2, rfl, d1, d2⟩ := HR1.out m hml
                  have hmz : (m : Int) < (n : Int) := by omega
                  have hself : ((i : Int) != (i : Int)) = false := by simp
                  go_wp2
                  go_roundw
                  case rel => exact ⟨m + 1, by omega, by go_num, _, rfl⟩
                  case measure => simp [intOf]; omega
                · have hmz : ¬ (m : Int) < (n : Int) := by omega
                  go_wp2
                  go_roundw
                  case rel => exact ⟨i + 1, by omega, by go_num, _, rfl⟩
                  case measure => simp [intOf]; omega
            · have hiz : ¬ (i : Int) < (M : Int) := by omega
              have hge : y ≥ 64 * (M : Int) := by omega
              go_wp2
              go_ret
              exact ⟨rfl, hid0 ⟨below_drew' HBl.out.1 _, HBl.out.2.trans (KeB.below _ (below_drew' (Below.refl _ _) _))⟩⟩
end Go.Proofs.YtbbejfkgopcjoaaDoor.Lv
namespace Go.Proofs.YtbbejfkgopcjoaaDoor
open Go.RowKit Go.Shelf
/-- A machine's lists, in blocks from lo on, below hi. -/
structure MQ (W : World) (lo hi : Nat) (vN vO : Value) (NX OU : List Value) (nx ou : List (List Nat)) : Prop where
  m : MLs W lo vN vO NX OU nx ou
  rng : ∀ x ∈ vN :: vO :: (NX ++ OU), ∀ g, x.ownBlock = some g → lo ≤ g ∧ g < hi
section
variable {W W' : World} {lo hi : Nat} {vN vO : Value} {NX OU : List Value} {nx ou : List (List Nat)}
theorem MLs.q (h : MLs W lo vN vO NX OU nx ou) : MQ W lo W.heap.size vN vO NX OU nx ou := ⟨h, fun x hx g hg => by
  rcases List.mem_cons.1 hx with rfl | hx
  · exact World.ownsRow.lt h.n.outer g hg
  · rcases List.mem_cons.1 hx with rfl | hx
    · exact World.ownsRow.lt h.o.outer g hg
    · rcases List.mem_append.1 hx with hx | hx
      · obtain ⟨l, hl⟩ := h.n.mem hx; exact World.ownsRow.lt hl g hg
      · obtain ⟨l, hl⟩ := h.o.mem hx; exact World.ownsRow.lt hl g hg⟩
theorem MQ.past (h : MQ W lo hi vN vO NX OU nx ou) (hb : Below W.heap.size W W') : MQ W' lo hi vN vO NX OU nx ou := ⟨h.m.past hb, h.rng⟩
/-- The lists, each with what it reads as. -/
def lotQ (NX OU : List Value) (nx ou : List (List Nat)) : List (Value × List Int) := NX.zip (nx.map nI) ++ OU.zip (ou.map nI)
theorem lotQ_fst (h : MLs W lo vN vO NX OU nx ou) : (lotQ NX OU nx ou).map (·.1) = NX ++ OU := by
  unfold lotQ
  rw [List.map_append, List.map_fst_zip (by rw [List.length_map, h.n.len]; exact Nat.le_refl _), List.map_fst_zip (by rw [List.length_map, h.o.len]; exact Nat.le_refl _)]
theorem zip_own (h : RwsM W lo vN NX nx) {b : Nat} (hb : b ≤ lo) : ∀ x ∈ NX.zip (nx.map nI), OwnI W b x.1 x.2 := fun x hx => by
  obtain ⟨i, hi, rfl⟩ := List.getElem_of_mem hx
  have hl : i < nx.length := by rw [List.length_zip, List.length_map] at hi; omega
  obtain ⟨y, e1, e2⟩ := h.row i hl
  have hN : i < NX.length := by rw [h.len]; exact hl
  rw [List.getElem?_eq_getElem hN] at e1
  injection e1 with e1
  rw [List.getElem_zip, List.getElem_map, e1]
  exact owns_lower e2 hb
theorem lotQ_own (h : MLs W lo vN vO NX OU nx ou) {b : Nat} (hb : b ≤ lo) : ∀ x ∈ lotQ NX OU nx ou, OwnI W b x.1 x.2 := fun x hx => by
  rcases List.mem_append.1 hx with hx | hx
  · exact zip_own h.n hb x hx
  · exact zip_own h.o hb x hx
theorem one_sl {b : Nat} {t : TypeId} {s n : Nat} {xs : List Value} {v : Value} (h : W.ownsRow b t s v n xs) : v.oneCell' = true := by
  obtain ⟨a, c, rfl⟩ := own_sl h
  rfl
theorem MLs.one (h : MLs W lo vN vO NX OU nx ou) : ∀ u ∈ NX ++ OU, u.oneCell' = true := fun u hu => by
  rcases List.mem_append.1 hu with hu | hu
  · obtain ⟨l, hl⟩ := h.n.mem hu; exact one_sl hl
  · obtain ⟨l, hl⟩ := h.o.mem hu; exact one_sl hl
end
/-- The list of all lists while it is made. -/
structure TS (W9 V : World) (v : Value) (vs : List Value) : Prop where
  own : V.ownsRow W9.heap.size 34 1 v vs.length vs
  bel : Below W9.heap.size W9 V
theorem TS.start (W9 V : World) (h : Below W9.heap.size W9 V) : TS W9 V (.slice none 0 0) [] := ⟨World.ownsRow_nil _ _ _ _, h⟩
theorem TS.past {W9 V V' : World} {v : Value} {vs : List Value} (h : TS W9 V v vs) (hb : Below V.heap.size V V') : TS W9 V' v vs := ⟨row_later h.own hb, Below.later h.bel hb⟩
theorem tabs_any {W9 V : World} {v vN vO : Value} {vs NX OU : List Value} {nx ou : List (List Nat)} {lo hi : Nat} (st : Int) (h : TS W9 V v vs) (hq : MQ W9 lo hi vN vO NX OU nx ou) (hhi : hi ≤ W9.heap.size) (hl : vs.length + NX.length + OU.length ≤ 1000000000) :
    Calls Tryd.prog 22 #[v, .agg #[.int .i64 st, vN, vO]] V fun e w' => ∃ v', e = .returned v' ∧ Hid (TS W9 w' v' (vs ++ NX ++ OU)) := by
  have hq' := hq.past h.bel
  refine (tables_any v vN vO vs NX OU st W9.heap.size lo lo V h.own hq'.m.n.outer hq'.m.o.outer (fun k hk e => ?_) hq.m.one hl h.bel.size).mono ?_
  · have h1 := (World.ownsRow.lt h.own k hk).1
    have h2 := (hq.rng vO (by simp) k e).2
    omega
  · rintro e w' ⟨v', rfl, g⟩
    exact ⟨v', rfl, hid0 ⟨g.own, h.bel.trans (g.frm.below h.bel.size (fun k hk => (World.ownsRow.lt h.own k hk).1))⟩⟩
/-- What stays while lists are written. -/
structure Fr (W1 W9 V : World) : Prop where
  b : Below W1.heap.size W1 V
  k : KeB [3, 34] W9 V
  s : W1.heap.size ≤ W9.heap.size
theorem Fr.below {W1 W9 V V' : World} (h : Fr W1 W9 V) (hb : Below V.heap.size V V') : Fr W1 W9 V' := ⟨Below.later h.b hb, h.k.trans (KeB.below _ hb), h.s⟩
theorem Fr.alloc {W1 W9 V : World} (h : Fr W1 W9 V) (o : Obj) : Fr W1 W9 (V.alloc o) := h.below (below_alloc1 _ _)
theorem Fr.drew {W1 W9 V : World} (h : Fr W1 W9 V) : Fr W1 W9 V.drew := h.below (Below.refl _ _).drew
theorem Fr.start {W1 W9 : World} (h : Below W1.heap.size W1 W9) : Fr W1 W9 W9 := ⟨h, KeB.refl _ _, h.size⟩
theorem TS.fr {W1 W9 V : World} {v : Value} {vs : List Value} (h : TS W9 V v vs) (hw : Below W1.heap.size W1 W9) : Fr W1 W9 V := (Fr.start hw).below h.bel
theorem Fr.box {W1 W9 V : World} (h : Fr W1 W9 V) {B : Nat} {cs : Array Value} {t : TypeId} {f : Nat × Nat} (hB : W9.heap[B]? = some (.cells cs t f)) (ht : t ≠ 3 ∧ t ≠ 34) : V.heap[B]? = some (.cells cs t f) :=
  h.k.kp B _ hB (fun cs' t' f' q => by injection q with _ q2; rw [← q2]; simp [ht.1, ht.2])
end Go.Proofs.YtbbejfkgopcjoaaDoor
