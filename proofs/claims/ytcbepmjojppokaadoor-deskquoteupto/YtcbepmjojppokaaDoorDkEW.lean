/-
  The walk of desk.quotedWord (stage 25).
-/
import Derived.Test.YtcbepmjojppokaaDoorDkKW
import Derived.Deep.RegionHeld3
namespace Go.Proofs.YtcbepmjojppokaaDoor
open Go.RowKit Go.Shelf
theorem bl_later {B b : Nat} {bs : List Value} {w w' : World} (h : Bl B b bs w) (hb : Below w.heap.size w w') : Bl B b bs w' := by
  have bld : ∀ p, Lib.BuilderAt 38 5 B b p bs w → Lib.BuilderAt 38 5 B b p bs w' := fun p ⟨h1, v, h2, h3, h4⟩ => ⟨h1, v, (hb.block b (Array.getElem?_eq_some_iff.1 h2).1).trans h2, own_blk h3 (fun k hk => hb.block k (World.ownsRow.lt h3 k hk).2), h4⟩
  exact h.imp (bld _) (bld _)
theorem bl_new (w : World) : Bl w.heap.size w.heap.size (Lib.byteCells []) (w.alloc (.cells #[.pointer none, .slice none 0 0] 38)) :=
  .inl ⟨Nat.le_refl _, .slice none 0 0, heap_alloc_new w _, World.ownsRow_nil _ _ _ _, by simp [Value.ownBlock]⟩
theorem cells_snoc (l : Dy) (c : UInt8) : Lib.byteCells l ++ [.int .u8 (c.toNat : Int)] = Lib.byteCells (l ++ [c]) := by simp [Lib.byteCells]
/-- What quotedWord answers of what stands behind the quote. -/
def quoV (t : Value) (r : Dy) : Value := match qS 0 r with
  | some (wd, n) => .tuple #[.string (rd wd), .string (rd (r.drop n)), .nilIface]
  | none => .tuple #[.string ⟨#[]⟩, .string ⟨#[]⟩, t]
theorem quoV_none {t : Value} {r : Dy} (h : qS 0 r = none) : quoV t r = .tuple #[.string ⟨#[]⟩, .string ⟨#[]⟩, t] := by unfold quoV; rw [h]
/-- Where the reading stands. -/
structure QI (w wr : World) (r acc : Dy) (j : Nat) : Prop where
  q : qS 0 r = (qS 0 (r.drop j)).map fun p => (acc ++ p.1, p.2 + j)
  len : acc.length ≤ j
  bl : Bl w.heap.size w.heap.size (Lib.byteCells acc) wr
  bel : Below w.heap.size w wr
theorem qS_cons {r : Dy} {j : Nat} (h : j < r.length) : qS 0 (r.drop j) = if r[j] = 34 then (if bOE (r.drop (j + 1)) = true then some ([], 1) else none)
    else if r[j] = 92 then (match escD (r.drop (j + 1)) with | none => none | some (b, n) => (qS n (r.drop (j + 1))).map fun p => (b :: p.1, p.2 + 1))
    else if plB r[j] = true then (qS 0 (r.drop (j + 1))).map fun p => (r[j] :: p.1, p.2 + 1) else none := by
  rw [drop_at r j h, qS]
  cases escD (r.drop (j + 1)) <;> rfl
theorem QI.none {w wr : World} {r acc : Dy} {j : Nat} (h : QI w wr r acc j) (hn : qS 0 (r.drop j) = none) (t : Value) : quoV t r = .tuple #[.string ⟨#[]⟩, .string ⟨#[]⟩, t] :=
  quoV_none (by rw [h.q, hn]; rfl)
set_option maxRecDepth 10000 in
set_option maxHeartbeats 1600000 in
theorem quotedWord_any (r : Dy) (t : Value) (w : World) (hl : r.length ≤ 70368744177664) (ht : w.cell? ⟨1, 0, none⟩ = some t) :
    Calls Tryd.prog 32 #[.string (rd (34 :: r))] w fun e w' => e = .returned (quoV t r) ∧ Hid (Below w.heap.size w w') := by
  obtain ⟨s, hs⟩ : ∃ s, s = rd (34 :: r) := ⟨_, rfl⟩
  have hS : s.size = r.length + 1 := by rw [hs, rd_size]; rfl
  have HG : Hid (∀ k (h : k + 1 < s.size), ∃ h2 : k < r.length, s[k + 1] = r[k]) := hid0 (by subst hs; exact fun k h => ⟨by rw [rd_size] at h; simpa using h, rfl⟩)
  have HX : Hid (∀ j, s.extract (j + 1 + 1) s.size = rd (r.drop (j + 1))) := hid0 (fun j => by
    rw [hs, rd_size]
    exact rd_drop (34 :: r) (j + 1 + 1))
  obtain ⟨V, hV⟩ : ∃ V, V = quoV t r := ⟨_, rfl⟩
  rw [← hs, ← hV]
  have HV := hid0 hV
  have HS := hid0 hS
  have hls : s.size ≤ 70368744177665 := by omega
  have HT : Hid (∀ W, Below w.heap.size w W → W.cell? ⟨1, 0, none⟩ = some t) := hid0 (fun W hW => (hW.cell (p := ⟨1, 0, none⟩) (World.block_lt_of_cell? w _ ht)).trans ht)
  have HI0 : Hid (QI w (w.alloc (.cells #[.pointer none, .slice none 0 0] 38)) r [] 0) := hid0 ⟨by simp, Nat.le_refl _, bl_new w, (Below.refl _ _).alloc (Nat.le_refl _) _⟩
  clear hs hV hS ht hl
  go_enter Tryd.func32, Tryd.ntmps32
  go_wp2
  go_loopw [6, 7, 8, 9] (fun i _ _ _ wr => ∃ (j : Nat) (acc : Dy), j + 1 ≤ s.size ∧ i = .int .i64 ((j : Int) + 1) ∧ Hid (QI w wr r acc j)) (fun i _ _ _ _ => s.size - (intOf i).toNat)
  case atStart => exact ⟨0, [], by have := HS.out; omega, rfl, HI0⟩
  case round =>
    obtain ⟨j, acc, hj, rfl, HI⟩ := hrel
    have hjI0 : (0 : Int) ≤ (j : Int) + 1 := by omega
    have hWb : Hid (∀ q, Below w.heap.size w (wr.drewN q)) := hid0 (fun q => below_drew' HI.out.bel q)
    by_cases hlt : j + 1 < s.size
    · have hjI : (j : Int) + 1 < (s.size : Int) := by omega
      obtain ⟨hj2, hg⟩ := HG.out j hlt
      have HQ := hid0 (qS_cons hj2)
      obtain ⟨c, hc⟩ : ∃ c, c = r[j] := ⟨_, rfl⟩
      rw [← hc] at hg HQ
      clear hc
      obtain ⟨x, hx⟩ : ∃ x, x = (c.toNat : Int) := ⟨_, rfl⟩
      have hgx : (s[j + 1].toNat : Int) = x := by rw [hg, hx]
      have HC := hid0 hx
      have x34 := u8_is c 34 (by omega)
      have x92 := u8_is c 92 (by omega)
      rw [← hx] at x34 x92
      have hXe : s.extract ((j : Int) + 1 + 1).toNat s.size = rd (r.drop (j + 1)) := HX.out j
      have hsl : (j : Int) + 1 + 1 ≤ (s.size : Int) := by omega
      have hsl0 : (0 : Int) ≤ (j : Int) + 1 + 1 := by omega
      have hsw : IntKind.i64.wrap ((j : Int) + 1 + 1) = (j : Int) + 1 + 1 := by rw [IntKind.wrap_i64]; omega
      have hT0 := HT.out wr HI.out.bel
      clear hg hx
      by_cases c34 : c = 34
      · have hx34 : x = 34 := x34.1 c34
        have HE : Hid (∀ W, Below w.heap.size w W → Calls Tryd.prog 40 #[.string (rd acc), .string (rd (r.drop (j + 1)))] W fun e w' => e = .returned (endV t acc (r.drop (j + 1))) ∧ Below w.heap.size w w') := hid0 (fun W hW => (endOfWord_any _ _ _ _ (HT.out W hW)).mono (fun e w' h => ⟨h.1, by obtain ⟨q, hq⟩ := h.2; rw [hq]; exact below_drew' hW q⟩))
        have HVe : Hid (V = endV t acc (r.drop (j + 1))) := hid0 (by
          rw [HV.out]
          unfold quoV endV
          rw [HI.out.q, HQ.out, if_pos c34]
          by_cases hb : bOE (r.drop (j + 1)) = true
          · rw [if_pos hb, if_pos hb]
            simp [Nat.add_comm]
          · rw [if_neg hb, if_neg hb]
            rfl)
        have HSt : Hid (∀ W, Below wr.heap.size wr W → Calls Tryd.prog 16 #[.pointer (some ⟨w.heap.size, 0, none⟩)] W fun e w' => e = .returned (.string (rd acc)) ∧ Below w.heap.size w w') := hid0 (fun W hW =>
          (Any.Builder_String_any_k Tryd.lays169 ext169 w.heap.size w.heap.size acc W (Lib.IsBuilderF.of (bl_later HI.out.bl hW)) (Nat.le_trans HI.out.bel.size hW.size)).mono (fun e w' h => ⟨h.1, (HI.out.bel.trans (hW.mono HI.out.bel.size)).trans h.2.2.1⟩))
        obtain ⟨v1, v2, v3, hv⟩ : ∃ v1 v2 v3, endV t acc (r.drop (j + 1)) = .tuple #[v1, v2, v3] := by
          unfold endV
          split
          · exact ⟨_, _, _, rfl⟩
          · exact ⟨_, _, _, rfl⟩
        rw [hv] at HE HVe
        clear hv
        have hbr := Below.refl wr.heap.size wr
        have HB0 := hid0 HI.out.bel
        generalize rd (r.drop (j + 1)) = R at *
        generalize rd acc = A at *
        clear HI HQ x34 x92 c34 HC HG HX HV hWb HS
        subst hx34
        go_wp2
        go_region_held3 (fun W => Below w.heap.size w W) (first | assumption | (go_grown; done) | exact below_drew' (by assumption) 1)
          (first
            | (go_at_call 16; refine (HSt.out _ (by first | exact hbr | (go_grown; done))).mono ?_; rintro e w1 ⟨rfl, h1⟩)
            | (go_at_call 40; refine (HE.out _ (by first | assumption | (go_grown; done))).mono ?_; rintro e w2 ⟨rfl, h2⟩))
        go_wp2
        go_ret3
        exact ⟨by rw [HVe.out]; rfl, hid0 h2⟩
      · have hx34 : ¬ x = 34 := fun e => c34 (x34.2 e)
        have hx34b : (x == 34) = false := by simpa using hx34
        by_cases c92 : c = 92
        · have hx92 : x = 92 := x92.1 c92
          have HQ2 : Hid (qS 0 (r.drop j) = match escD (r.drop (j + 1)) with | none => none | some (b, n) => (qS n (r.drop (j + 1))).map fun p => (b :: p.1, p.2 + 1)) := hid0 (by rw [HQ.out, if_neg c34, if_pos c92])
          have HEs : Hid (∀ W, Below wr.heap.size wr W → Calls Tryd.prog 41 #[.string (rd (r.drop (j + 1)))] W fun e w' => e = .returned (escV (r.drop (j + 1))) ∧ Below wr.heap.size wr w') := hid0 (fun W hW => (escaped_any _ W).mono (fun e w' h => ⟨h.1, by obtain ⟨q, hq⟩ := h.2; rw [hq]; exact below_drew' hW q⟩))
          have hbr := Below.refl wr.heap.size wr
          cases hes : escD (r.drop (j + 1)) with
          | none =>
            have hv : escV (r.drop (j + 1)) = .tuple #[.int .u8 0, .int .i64 0] := by unfold escV; rw [hes]
            rw [hv] at HEs
            have HVn : Hid (V = .tuple #[.string ⟨#[]⟩, .string ⟨#[]⟩, t]) := hid0 (by rw [HV.out]; exact HI.out.none (by rw [HQ2.out, hes]) t)
            have HB0 := hid0 HI.out.bel
            generalize rd (r.drop (j + 1)) = R at *
            clear HI HQ HQ2 x34 x92 c34 c92 HC HG HX HV hWb HS hes hv
            subst hx92
            go_wp2_with (go_at_call 41; refine (HEs.out _ hbr).mono ?_; rintro e w1 ⟨rfl, h1⟩; have HB1 := hid0 (HB0.out.trans (h1.mono HB0.out.size)); have hT1 := HT.out _ HB1.out; clear h1)
            go_quiet (fail)
            all_goals go_wp2
            go_ret3
            exact ⟨by rw [HVn.out]; rfl, hid0 (below_drew' HB1.out _)⟩
          | some p =>
            obtain ⟨b, n⟩ := p
            have hv : escV (r.drop (j + 1)) = .tuple #[.int .u8 (b.toNat : Int), .int .i64 (n : Int)] := by unfold escV; rw [hes]
            rw [hv] at HEs
            obtain ⟨n1, n2⟩ := escD_len hes
            have n3 : n ≤ 3 := by
              have : n = 1 ∨ n = 3 := by
                revert hes
                cases hd : r.drop (j + 1) with
                | nil => intro hes; cases hes
                | cons c2 r2 =>
                  intro hes
                  rw [escD] at hes
                  split at hes
                  · cases hes; exact .inl rfl
                  · split at hes
                    · cases hes; exact .inl rfl
                    · split at hes
                      · exact .inr (escH_len hes).1
                      · cases hes
              omega
            have hnz : ((n : Int) == 0) = false := by simpa using (show ¬ n = 0 by omega)
            have hnz2 : ¬ (n : Int) = 0 := by omega
            rw [List.length_drop] at n2
            have HN : Hid (∀ wr', Bl w.heap.size w.heap.size (Lib.byteCells (acc ++ [b])) wr' → Below w.heap.size w wr' → QI w wr' r (acc ++ [b]) (j + 1 + n)) := hid0 (fun wr' h1 h2 => ⟨by
              rw [HI.out.q, HQ2.out, hes]
              show Option.map _ (Option.map _ (qS n (r.drop (j + 1)))) = _
              rw [qS_skip, List.drop_drop, Option.map_map, Option.map_map]
              congr 1
              funext p
              simp
              omega, by have := HI.out.len; simp; omega, h1, h2⟩)
            have HLa := hid0 HI.out.len
            have HB0 := hid0 HI.out.bel
            have HBl0 := hid0 HI.out.bl
            have hS := HS.out
            have hjn : j + 1 + n + 1 ≤ s.size := by omega
            clear hS
            obtain ⟨xb, hxb⟩ : ∃ xb, xb = (b.toNat : Int) := ⟨_, rfl⟩
            rw [← hxb] at HEs
            have HXb := hid0 hxb
            generalize rd (r.drop (j + 1)) = R at *
            clear HI HQ HQ2 x34 x92 c34 c92 HC HG HX HV hWb HS hes hv hxb
            subst hx92
            go_wp2_with (first
              | (go_at_call 41; refine (HEs.out _ hbr).mono ?_; rintro e w1 ⟨rfl, h1⟩; have HBl1 := hid0 (bl_later HBl0.out h1); have HB1 := hid0 (HB0.out.trans (h1.mono HB0.out.size)); clear h1)
              | (go_at_call 14; refine (writeByte_any _ _ _ xb _ HBl1.out (by rw [Lib.byteCells_length]; have := HLa.out; omega) HB1.out.size).mono ?_; rintro e w2 ⟨rfl, h1, h2, h3⟩; have HN2 := hid0 (HN.out w2 (by rw [← cells_snoc, ← HXb.out]; exact .inr h1) (HB1.out.trans h2)); clear h1 h2 h3)
              | fail)
            go_roundw
            case rel => exact ⟨j + 1 + n, acc ++ [b], hjn, by (congr 1 <;> omega), HN2⟩
            case measure => simp [intOf]; omega
        · have hx92 : ¬ x = 92 := fun e => c92 (x92.2 e)
          have hx92b : (x == 92) = false := by simpa using hx92
          have hself : selfB c = plB c := by
            unfold selfB
            rw [show (c == 34) = false by simpa using c34, show (c == 92) = false by simpa using c92]
            simp
          have HP : Hid (∀ W, Calls Tryd.prog 27 #[.int .u8 x] W fun e w' => e = .returned (.bool (plB c)) ∧ w' = W) := hid0 (fun W => by rw [HC.out, ← hself]; exact isPlain_any c W)
          have HQ2 : Hid (qS 0 (r.drop j) = if plB c = true then (qS 0 (r.drop (j + 1))).map fun p => (c :: p.1, p.2 + 1) else none) := hid0 (by rw [HQ.out, if_neg c34, if_neg c92])
          have HB0 := hid0 HI.out.bel
          cases hp : plB c with
          | false =>
            have HVn : Hid (V = .tuple #[.string ⟨#[]⟩, .string ⟨#[]⟩, t]) := hid0 (by rw [HV.out]; exact HI.out.none (by rw [HQ2.out, hp, if_neg (by simp)]) t)
            rw [hp] at HP
            clear HI HQ HQ2 x34 x92 c34 c92 HC HG HX HV hWb HS hself hp
            go_wp2_with (go_at_call 27; refine (HP.out _).mono ?_; rintro e w1 ⟨rfl, rfl⟩)
            go_quiet (fail)
            all_goals go_wp2
            go_ret3
            exact ⟨by rw [HVn.out]; rfl, hid0 (below_drew' HB0.out _)⟩
          | true =>
            rw [hp] at HP
            have HN : Hid (∀ wr', Bl w.heap.size w.heap.size (Lib.byteCells (acc ++ [c])) wr' → Below w.heap.size w wr' → QI w wr' r (acc ++ [c]) (j + 1)) := hid0 (fun wr' h1 h2 => ⟨by
              rw [HI.out.q, HQ2.out, hp, if_pos rfl, Option.map_map]
              congr 1
              funext p
              simp
              omega, by have := HI.out.len; simp; omega, h1, h2⟩)
            have HLa := hid0 HI.out.len
            have HBl0 := hid0 HI.out.bl
            clear HI HQ HQ2 x34 x92 c34 c92 HG HX HV hWb HS hself hp
            go_wp2_with (first
              | (go_at_call 27; refine (HP.out _).mono ?_; rintro e w1 ⟨rfl, hw1⟩; subst hw1)
              | (go_at_call 14; refine (writeByte_any _ _ _ x _ HBl0.out (by rw [Lib.byteCells_length]; have := HLa.out; omega) HB0.out.size).mono ?_; rintro e w2 ⟨rfl, h1, h2, h3⟩; have HN2 := hid0 (HN.out w2 (by rw [← cells_snoc, ← HC.out]; exact .inr h1) (HB0.out.trans h2)); clear h1 h2 h3)
              | fail)
            go_roundw
            case rel => exact ⟨j + 1, acc ++ [c], hlt, by go_num, HN2⟩
            case measure => simp [intOf]; omega
    · have hjI : ¬ (j : Int) + 1 < (s.size : Int) := by omega
      have hd : r.drop j = [] := List.drop_of_length_le (by have := HS.out; omega)
      have HVn : Hid (V = .tuple #[.string ⟨#[]⟩, .string ⟨#[]⟩, t]) := hid0 (by rw [HV.out]; exact HI.out.none (by rw [hd, qS]) t)
      have HB0 := hid0 HI.out.bel
      have hT0 := HT.out wr HI.out.bel
      clear HI HG HX HV hWb HS hd
      go_wp2
      go_quiet (fail)
      all_goals go_wp2
      go_ret3
      exact ⟨by rw [HVn.out]; rfl, hid0 (below_drew' HB0.out _)⟩
end Go.Proofs.YtcbepmjojppokaaDoor
