/-
  The walk of caesuraref25.Words (stage 25).
-/
import Derived.Test.YtcbepmjojppokaaDoorDkJW
namespace Go.Proofs.YtcbepmjojppokaaDoor
open Go.RowKit Go.Shelf
/-- What the document's Words answers. -/
def RWdO (base : Nat) (w : World) (l : Dy) (e : Ending) (w' : World) : Prop :=
  match wdS 0 l with
  | none => e = .returned (.tuple #[.slice none 0 0, .int .i64 2]) ∧ Below base w w'
  | some L => ∃ v, e = .returned (.tuple #[v, .int .i64 0]) ∧ OwnS w' base v L ∧ Below base w w'
/-- What stands for a word at a place. -/
def rfstV (l : Dy) (k : Nat) : Value := match fstW (l.drop k) with
  | some (wd, n) => .tuple #[.string (rd wd), .int .i64 ((k + n : Nat) : Int)]
  | none => .tuple #[.string ⟨#[]⟩, .int .i64 (-1)]
structure WJ (w wr : World) (l : Dy) (k : Nat) (v : Value) (L : List Dy) : Prop where
  eq : wdS 0 l = (wdS 0 (l.drop k)).map fun M => L ++ M
  own : OwnS wr w.heap.size v L
  bel : Below w.heap.size w wr
  len : L.length ≤ k
set_option maxRecDepth 10000 in
set_option maxHeartbeats 1600000 in
theorem refWords_any (l : Dy) (w : World) (hl : l.length ≤ 4000000000000) :
    Calls Tryd.prog 8 #[.string (rd l)] w fun e w' => Hid (RWdO w.heap.size w l e w') := by
  obtain ⟨i0, hi, hz0, hz1, hz2⟩ := info_parts infoStr
  obtain ⟨s, hs⟩ : ∃ s, s = rd l := ⟨_, rfl⟩
  have hS : s.size = l.length := by rw [hs, rd_size]
  have HG : Hid (∀ k (h : k < s.size), ∃ h2 : k < l.length, s[k] = l[k]) := hid0 (by subst hs; exact fun k h => ⟨by rw [← rd_size]; exact h, rfl⟩)
  have HQu : Hid (∀ k W, k < s.size → Calls Tryd.prog 20 #[.string s, .int .i64 (k : Int)] W fun e w' => e = .returned (rquoV l k) ∧ Hid (Below W.heap.size W w')) := hid0 (fun k W hk => by rw [hs]; exact refQuoted_any l k W (by omega) (by omega))
  have HPl : Hid (∀ k W, k < s.size → Calls Tryd.prog 21 #[.string s, .int .i64 (k : Int)] W fun e w' => e = .returned (plnV l k) ∧ w' = W) := hid0 (fun k W hk => by rw [hs]; exact refPlain_any l k W (by omega) (by omega))
  rw [← hs]
  have HS := hid0 hS
  have hls : s.size ≤ 4000000000000 := by omega
  have HI0 : Hid (WJ w w l 0 (.slice none 0 0) []) := hid0 ⟨by simp, World.ownsRow_nil _ _ _ _, Below.refl _ _, Nat.le_refl _⟩
  clear hs hS hl
  go_enter Tryd.func8, Tryd.ntmps8
  go_wp2
  go_loopw [4, 5, 6] (fun v i _ wr => ∃ (k : Nat) (L : List Dy), k ≤ s.size ∧ i = .int .i64 (k : Int) ∧ (∃ a n c, v = .slice a n c) ∧ Hid (WJ w wr l k v L)) (fun _ i _ _ => s.size - (intOf i).toNat)
  case atStart => exact ⟨0, [], Nat.zero_le _, rfl, ⟨_, _, _, rfl⟩, HI0⟩
  case round =>
    obtain ⟨k, L, hk, rfl, ⟨a, n, cap, rfl⟩, HI⟩ := hrel
    have hkI0 : (0 : Int) ≤ (k : Int) := by omega
    by_cases hlt : k < s.size
    · have hkI : (k : Int) < (s.size : Int) := by omega
      obtain ⟨hk2, hg⟩ := HG.out k hlt
      have hdr := drop_at l k hk2
      obtain ⟨c, hc⟩ : ∃ c, c = l[k] := ⟨_, rfl⟩
      rw [← hc] at hg hdr
      clear hc
      obtain ⟨x, hx⟩ : ∃ x, x = (c.toNat : Int) := ⟨_, rfl⟩
      have hgx : (s[k].toNat : Int) = x := by rw [hg, hx]
      have x32 := u8_is c 32 (by omega)
      have x34 := u8_is c 34 (by omega)
      rw [← hx] at x32 x34
      clear hg hx
      by_cases c32 : c = 32
      · have hx32 : x = 32 := x32.1 c32
        have HN : Hid (WJ w wr l (k + 1) (.slice a n cap) L) := hid0 ⟨by rw [HI.out.eq, hdr, c32, wdS_blank], HI.out.own, HI.out.bel, by have := HI.out.len; omega⟩
        clear HI x32 x34 c32 HG HQu HPl HS hdr HI0
        subst hx32
        go_wp2
        go_roundw
        case rel => exact ⟨k + 1, L, hlt, by go_num, ⟨_, _, _, rfl⟩, HN⟩
        case measure => simp [intOf]; omega
      · have hx32 : ¬ x = 32 := fun e => c32 (x32.2 e)
        have hW : wdS 0 (l.drop k) = match fstW (l.drop k) with | none => none | some (w, n) => (wdS 0 ((l.drop k).drop n)).map fun L => w :: L := by rw [hdr]; exact wdS_word c32
        have hnL : n = L.length := by
          have h := HI.out.own.2
          rcases h with ⟨h1, h2⟩ | ⟨g, cp, cur, h1, _⟩
          · cases h1; omega
          · cases h1; rfl
        have HB0 := hid0 HI.out.bel
        cases hf : fstW (l.drop k) with
        | none =>
          have HO : Hid (∀ w', Below wr.heap.size wr w' → RWdO w.heap.size w l (.returned (.tuple #[.slice none 0 0, .int .i64 2])) w') := hid0 (fun w' hw => by
            unfold RWdO
            rw [HI.out.eq, hW, hf]
            exact ⟨rfl, HB0.out.trans (hw.mono HB0.out.size)⟩)
          by_cases c34 : c = 34
          · have hx34 : x = 34 := x34.1 c34
            have HC := hid0 (HQu.out k wr hlt)
            have hv : rquoV l k = .tuple #[.string ⟨#[]⟩, .int .i64 (-1)] := by
              rw [hdr, fstW, if_pos c34] at hf
              unfold rquoV
              rw [Option.map_eq_none_iff.1 hf]
            rw [hv] at HC
            clear HI x32 x34 c32 c34 HG HQu HPl HS hdr HI0 hW hf hv hx32 hnL
            subst hx34
            go_wp2_with (go_at_call 20; refine HC.out.mono ?_; rintro e w1 ⟨rfl, h1⟩; have HO1 := hid0 (HO.out w1 h1.out); clear h1)
            go_ret2
            exact HO1
          · have hx34 : ¬ x = 34 := fun e => c34 (x34.2 e)
            have HC := hid0 (HPl.out k wr hlt)
            have hv : plnV l k = .tuple #[.string ⟨#[]⟩, .int .i64 (-1)] := by
              rw [hdr, fstW, if_neg c34, ← hdr] at hf
              unfold plnV
              rw [hf]
            rw [hv] at HC
            clear HI x32 x34 c32 c34 HG HQu HPl HS hdr HI0 hW hf hv hnL
            go_wp2_with (go_at_call 21; refine HC.out.mono ?_; rintro e w1 ⟨rfl, h1⟩; have HO1 := hid0 (HO.out w1 (by rw [h1]; exact Below.refl _ _)); clear h1)
            go_ret2
            exact HO1
        | some p =>
          obtain ⟨wd, m⟩ := p
          obtain ⟨m1, m2, m3⟩ := fstW_len hf (fun d s e => by rw [hdr] at e; cases e; exact c32)
          rw [List.length_drop] at m2
          obtain ⟨km, hkm⟩ : ∃ km, km = k + m := ⟨_, rfl⟩
          have hkm1 : k < km := by omega
          have hkm2 : km ≤ s.size := by have := HS.out; omega
          have HN : Hid (∀ w' v, OwnS w' w.heap.size v (L ++ [wd]) → Below w.heap.size w w' → WJ w w' l km v (L ++ [wd])) := hid0 (fun w' v h1 h2 => ⟨by
            rw [HI.out.eq, hW, hf]
            show Option.map _ (Option.map _ (wdS 0 ((l.drop k).drop m))) = _
            rw [Option.map_map, List.drop_drop, ← hkm]
            congr 1
            funext M
            simp, h1, h2, by have := HI.out.len; rw [List.length_append, List.length_singleton]; omega⟩)
          have hnb : n ≤ 4000000000000 := by have := HI.out.len; omega
          have HO0 := hid0 HI.out.own
          have HNL := hid0 hnL
          have HOn : Hid (∀ W, OwnS W w.heap.size (.slice a n cap) L → W.ownsRow w.heap.size 9 1 (.slice a n cap) n (cellsS L)) := hid0 (fun W h => by unfold OwnS at h; rw [← hnL] at h; exact h)
          have hmI : ¬ (km : Int) < 0 := by omega
          by_cases c34 : c = 34
          · have hx34 : x = 34 := x34.1 c34
            have HC := hid0 (HQu.out k wr hlt)
            have hv : rquoV l k = .tuple #[.string (rd wd), .int .i64 (km : Int)] := by
              rw [hdr, fstW, if_pos c34] at hf
              obtain ⟨p, h1, h2⟩ := Option.map_eq_some_iff.1 hf
              cases h2
              unfold rquoV
              rw [h1]
              simp only [Value.tuple.injEq]
              congr 4
              omega
            rw [hv] at HC
            clear HI x32 x34 c32 c34 HG HQu HPl HS hdr HI0 hW hf hv hx32 hnL m1 m2 m3 hkm
            subst hx34
            go_wp2_with (first
              | (go_at_call 20; refine HC.out.mono ?_; rintro e w1 ⟨rfl, h1⟩; have HB1 := hid0 (HB0.out.trans (h1.out.mono HB0.out.size)); have HO1 : Hid (OwnS w1 w.heap.size (.slice a n cap) L) := hid0 (HO0.out.later h1.out); clear h1)
              | (at_builtin; refine wpList_append_own _ rfl _ _ 23 rfl w.heap.size 9 i0 (.string ⟨#[]⟩) 1 16 Tryd.underlying23 hi hz0 hz1 hz2 rfl (by decide) _ n (cellsS L) rfl ((HOn.out _ HO1.out).alloc _) ⟨w1.heap.size, 0, none⟩ 1 1 [.string (rd wd)] rfl rfl (cell_one_new _ _ _) (by intro u hu; simp at hu; subst hu; rfl) (by unfold maxLen; omega) (by omega) (by have := HB1.out.size; first | omega | (simp; omega)) ?_; intro v' w2 hown' hgrow _; have R := owns_snoc HNL.out HO1.out hown' hgrow HB1.out (Nat.le_refl _); have HR2 := hid0 R; obtain ⟨a2, c2, e2⟩ := slice_of R.1; subst e2; have HW3 := hid0 (HN.out w2 _ R.1 R.2); clear hown' hgrow R)
              | fail)
            go_roundw
            case rel => exact ⟨km, L ++ [wd], hkm2, rfl, ⟨_, _, _, rfl⟩, by have h := HW3.out; rw [List.length_append, List.length_singleton] at h; exact hid0 h⟩
            case measure => simp [intOf]; omega
          · have hx34 : ¬ x = 34 := fun e => c34 (x34.2 e)
            have HC := hid0 (HPl.out k wr hlt)
            have hv : plnV l k = .tuple #[.string (rd wd), .int .i64 (km : Int)] := by
              rw [hdr, fstW, if_neg c34, ← hdr] at hf
              unfold plnV
              rw [hf, hkm]
            rw [hv] at HC
            clear HI x32 x34 c32 c34 HG HQu HPl HS hdr HI0 hW hf hv hnL m1 m2 m3 hkm
            go_wp2_with (first
              | (go_at_call 21; refine HC.out.mono ?_; rintro e w1 ⟨rfl, h1⟩; have HB1 : Hid (Below w.heap.size w w1) := hid0 (by rw [h1]; exact HB0.out); have HO1 : Hid (OwnS w1 w.heap.size (.slice a n cap) L) := hid0 (by rw [h1]; exact HO0.out); clear h1)
              | (at_builtin; refine wpList_append_own _ rfl _ _ 23 rfl w.heap.size 9 i0 (.string ⟨#[]⟩) 1 16 Tryd.underlying23 hi hz0 hz1 hz2 rfl (by decide) _ n (cellsS L) rfl ((HOn.out _ HO1.out).alloc _) ⟨w1.heap.size, 0, none⟩ 1 1 [.string (rd wd)] rfl rfl (cell_one_new _ _ _) (by intro u hu; simp at hu; subst hu; rfl) (by unfold maxLen; omega) (by omega) (by have := HB1.out.size; first | omega | (simp; omega)) ?_; intro v' w2 hown' hgrow _; have R := owns_snoc HNL.out HO1.out hown' hgrow HB1.out (Nat.le_refl _); have HR2 := hid0 R; obtain ⟨a2, c2, e2⟩ := slice_of R.1; subst e2; have HW3 := hid0 (HN.out w2 _ R.1 R.2); clear hown' hgrow R)
              | fail)
            go_roundw
            case rel => exact ⟨km, L ++ [wd], hkm2, rfl, ⟨_, _, _, rfl⟩, by have h := HW3.out; rw [List.length_append, List.length_singleton] at h; exact hid0 h⟩
            case measure => simp [intOf]; omega
    · have hkI : ¬ (k : Int) < (s.size : Int) := by omega
      have HO : Hid (RWdO w.heap.size w l (.returned (.tuple #[.slice a n cap, .int .i64 0])) wr) := hid0 (by
        unfold RWdO
        rw [HI.out.eq, List.drop_of_length_le (by have := HS.out; omega), wdS_nil]
        exact ⟨_, rfl, by simpa using HI.out.own, HI.out.bel⟩)
      clear HI HG HQu HPl HS HI0
      go_wp2
      go_ret2
      exact HO
end Go.Proofs.YtcbepmjojppokaaDoor
