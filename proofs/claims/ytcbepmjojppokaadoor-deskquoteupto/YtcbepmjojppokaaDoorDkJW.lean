/-
  The walk of caesuraref25.quoted (stage 25).
-/
import Derived.Test.YtcbepmjojppokaaDoorDkIW
namespace Go.Proofs.YtcbepmjojppokaaDoor
open Go.RowKit Go.Shelf
/-- What quoted answers of the quote at a place. -/
def rquoV (l : Dy) (a : Nat) : Value := match qS 0 (l.drop (a + 1)) with
  | some (wd, n) => .tuple #[.string (rd wd), .int .i64 ((a + 1 + n : Nat) : Int)]
  | none => .tuple #[.string ⟨#[]⟩, .int .i64 (-1)]
/-- Where the reading stands. -/
structure QJ (l acc : Dy) (a k : Nat) (S : ByteArray) : Prop where
  q : qS 0 (l.drop (a + 1)) = (qS 0 (l.drop k)).map fun p => (acc ++ p.1, p.2 + (k - (a + 1)))
  s : S = rd acc
theorem QJ.none {l acc : Dy} {a k : Nat} {S : ByteArray} (h : QJ l acc a k S) (hn : qS 0 (l.drop k) = none) : rquoV l a = .tuple #[.string ⟨#[]⟩, .int .i64 (-1)] := by
  unfold rquoV
  rw [h.q, hn]
  rfl
theorem QJ.done {l acc : Dy} {a k : Nat} {S : ByteArray} (h : QJ l acc a k S) (hk : a + 1 ≤ k) (hn : qS 0 (l.drop k) = some ([], 1)) : rquoV l a = .tuple #[.string S, .int .i64 ((k : Int) + 1)] := by
  unfold rquoV
  rw [h.q, hn, h.s]
  simp only [Option.map_some, List.append_nil, Value.tuple.injEq]
  congr 4
  omega
theorem size_app (a b : ByteArray) : (a ++ b).size = a.size + b.size := by simp
set_option maxRecDepth 10000 in
set_option maxHeartbeats 1600000 in
theorem refQuoted_any (l : Dy) (a : Nat) (w : World) (ha : a < l.length) (hl : l.length ≤ 70368744177664) :
    Calls Tryd.prog 20 #[.string (rd l), .int .i64 (a : Int)] w fun e w' => e = .returned (rquoV l a) ∧ Hid (Below w.heap.size w w') := by
  obtain ⟨s, hs⟩ : ∃ s, s = rd l := ⟨_, rfl⟩
  have hS : s.size = l.length := by rw [hs, rd_size]
  have HG : Hid (∀ k (h : k < s.size), ∃ h2 : k < l.length, s[k] = l[k]) := hid0 (by subst hs; exact fun k h => ⟨by rw [← rd_size]; exact h, rfl⟩)
  have HX : Hid (∀ k (h2 : k < l.length), s.extract k (k + 1) = rd [l[k]]) := hid0 (fun k h2 => by rw [hs]; exact rd_one l k h2)
  have HEs : Hid (∀ k W, k < s.size → Calls Tryd.prog 34 #[.string s, .int .i64 (k : Int)] W fun e w' => e = .returned (rescV l k) ∧ Below W.heap.size W w') := hid0 (fun k W hk => by rw [hs]; exact refEscaped_any l k W (by omega) hl)
  obtain ⟨V, hV⟩ : ∃ V, V = rquoV l a := ⟨_, rfl⟩
  rw [← hs, ← hV]
  have HS := hid0 hS
  have HV := hid0 hV
  have hls : s.size ≤ 70368744177664 := by omega
  have has : a + 1 ≤ s.size := by omega
  have haI0 : (0 : Int) ≤ (a : Int) := by omega
  clear hs hV hS hl ha
  go_enter Tryd.func20, Tryd.ntmps20
  go_wp2
  go_loopw [6, 7, 8, 9, 10] (fun v i _ _ _ wr => ∃ (k : Nat) (acc : Dy) (S : ByteArray), a + 1 ≤ k ∧ k ≤ s.size ∧ v = .string S ∧ i = .int .i64 (k : Int) ∧ S.size ≤ k ∧ Hid (QJ l acc a k S) ∧ Hid (Below w.heap.size w wr)) (fun _ i _ _ _ _ => s.size - (intOf i).toNat)
  case atStart => exact ⟨a + 1, [], ⟨#[]⟩, Nat.le_refl _, has, rfl, by go_num, Nat.zero_le _, hid0 ⟨by simp, rfl⟩, hid0 (Below.refl _ _)⟩
  case round =>
    obtain ⟨k, acc, S, hak, hk, rfl, rfl, hSk, HI, HB⟩ := hrel
    have hkI0 : (0 : Int) ≤ (k : Int) := by omega
    by_cases hlt : k < s.size
    · have hkI : (k : Int) < (s.size : Int) := by omega
      obtain ⟨hk2, hg⟩ := HG.out k hlt
      have HQ := hid0 (qS_cons hk2)
      have hX := HX.out k hk2
      obtain ⟨c, hc⟩ : ∃ c, c = l[k] := ⟨_, rfl⟩
      rw [← hc] at hg HQ hX
      clear hc
      obtain ⟨x, hx⟩ : ∃ x, x = (c.toNat : Int) := ⟨_, rfl⟩
      have hgx : (s[k].toNat : Int) = x := by rw [hg, hx]
      have HC := hid0 hx
      have x34 := u8_is c 34 (by omega)
      have x92 := u8_is c 92 (by omega)
      rw [← hx] at x34 x92
      have hk1I : (0 : Int) ≤ (k : Int) + 1 := by omega
      clear hg hx
      by_cases c34 : c = 34
      · have hx34 : x = 34 := x34.1 c34
        have HQ2 : Hid (qS 0 (l.drop k) = if bOE (l.drop (k + 1)) = true then some ([], 1) else none) := hid0 (by rw [HQ.out, if_pos c34])
        by_cases h1 : k + 1 < s.size
        · have h1I : (k : Int) + 1 < (s.size : Int) := by omega
          obtain ⟨k2, g2⟩ := HG.out (k + 1) h1
          have hbo : bOE (l.drop (k + 1)) = (l[k + 1] == 32) := by rw [drop_at l (k + 1) k2]; rfl
          rw [hbo] at HQ2
          obtain ⟨d, hd⟩ : ∃ d, d = l[k + 1] := ⟨_, rfl⟩
          rw [← hd] at g2 HQ2
          obtain ⟨y, hy⟩ : ∃ y, y = (d.toNat : Int) := ⟨_, rfl⟩
          have hgy : (s[k + 1].toNat : Int) = y := by rw [g2, hy]
          have y32 := u8_is d 32 (by omega)
          rw [← hy] at y32
          clear hd g2 hy hbo
          by_cases d32 : d = 32
          · have hy32 : y = 32 := y32.1 d32
            have HVt : Hid (V = .tuple #[.string S, .int .i64 ((k : Int) + 1)]) := hid0 (by rw [HV.out]; exact HI.out.done hak (by rw [HQ2.out, d32]; rfl))
            clear HI HQ HQ2 x34 x92 c34 HC HG HX hX HV HS y32 d32 HEs
            subst hx34 hy32
            go_wp2
            go_ret2
            exact ⟨by rw [HVt.out]; rfl, HB⟩
          · have hy32 : ¬ y = 32 := fun e => d32 (y32.2 e)
            have hy32b : (y != 32) = true := by simpa using hy32
            have HVt : Hid (V = .tuple #[.string ⟨#[]⟩, .int .i64 (-1)]) := hid0 (by rw [HV.out]; exact HI.out.none (by rw [HQ2.out, if_neg (by simpa using d32)]))
            clear HI HQ HQ2 x34 x92 c34 HC HG HX hX HV HS y32 d32 HEs
            subst hx34
            go_wp2
            go_ret2
            exact ⟨by rw [HVt.out]; rfl, HB⟩
        · have h1I : ¬ (k : Int) + 1 < (s.size : Int) := by omega
          have HVt : Hid (V = .tuple #[.string S, .int .i64 ((k : Int) + 1)]) := hid0 (by rw [HV.out]; exact HI.out.done hak (by rw [HQ2.out, List.drop_of_length_le (by have := HS.out; omega)]; rfl))
          clear HI HQ HQ2 x34 x92 c34 HC HG HX hX HV HS HEs
          subst hx34
          go_wp2
          go_ret2
          exact ⟨by rw [HVt.out]; rfl, HB⟩
      · have hx34 : ¬ x = 34 := fun e => c34 (x34.2 e)
        have hx34b : (x == 34) = false := by simpa using hx34
        by_cases c92 : c = 92
        · have hx92 : x = 92 := x92.1 c92
          have HQ2 : Hid (qS 0 (l.drop k) = match escD (l.drop (k + 1)) with | none => none | some (b, n) => (qS n (l.drop (k + 1))).map fun p => (b :: p.1, p.2 + 1)) := hid0 (by rw [HQ.out, if_neg c34, if_pos c92]; cases escD (l.drop (k + 1)) <;> rfl)
          have HE := hid0 (HEs.out k wr hlt)
          cases hes : escD (l.drop (k + 1)) with
          | none =>
            have hv : rescV l k = .tuple #[.string ⟨#[]⟩, .int .i64 (-1)] := by unfold rescV; rw [hes]
            rw [hv] at HE
            have HVt : Hid (V = .tuple #[.string ⟨#[]⟩, .int .i64 (-1)]) := hid0 (by rw [HV.out]; exact HI.out.none (by rw [HQ2.out, hes]))
            clear HI HQ HQ2 x34 x92 c34 c92 HC HG HX hX HV HS HEs hes hv
            subst hx92
            go_wp2_with (go_at_call 34; refine HE.out.mono ?_; rintro e w1 ⟨rfl, h1⟩; have HB1 := hid0 (HB.out.trans (h1.mono HB.out.size)); clear h1)
            go_ret2
            exact ⟨by rw [HVt.out]; rfl, HB1⟩
          | some p =>
            obtain ⟨b, n⟩ := p
            have hv : rescV l k = .tuple #[.string (rd [b]), .int .i64 ((k + 1 + n : Nat) : Int)] := by unfold rescV; rw [hes]
            rw [hv] at HE
            obtain ⟨n1, n2⟩ := escD_len hes
            rw [List.length_drop] at n2
            obtain ⟨m, hm⟩ : ∃ m, m = k + 1 + n := ⟨_, rfl⟩
            have HN : Hid (QJ l (acc ++ [b]) a m (S ++ rd [b])) := hid0 ⟨by
              rw [HI.out.q, HQ2.out, hes]
              show Option.map _ (Option.map _ (qS n (l.drop (k + 1)))) = _
              rw [qS_skip, List.drop_drop, Option.map_map, Option.map_map, hm]
              congr 1
              funext p
              simp
              omega, by rw [HI.out.s, rd_app]⟩
            rw [← hm] at HE
            have hm1 : a + 1 ≤ m := by omega
            have hm2 : m ≤ s.size := by have := HS.out; omega
            have hm3 : k < m := by omega
            have hmI : ¬ (m : Int) < 0 := by omega
            have hB1 : (rd [b]).size = 1 := rd_size _
            generalize rd [b] = T at *
            have hsum : ¬ 9223372036854775807 < S.size + T.size := by omega
            have HSz : Hid ((S ++ T).size ≤ m) := hid0 (by rw [size_app]; omega)
            clear HI HQ HQ2 x34 x92 c34 c92 HC HG HX hX HV HS HEs hes hv n1 n2 hm hB1
            subst hx92
            go_wp2_with (go_at_call 34; refine HE.out.mono ?_; rintro e w1 ⟨rfl, h1⟩; have HB1 := hid0 (HB.out.trans (h1.mono HB.out.size)); clear h1)
            go_roundw
            case rel => exact ⟨m, acc ++ [b], S ++ T, hm1, hm2, rfl, rfl, HSz.out, HN, HB1⟩
            case measure => simp [intOf]; omega
        · have hx92 : ¬ x = 92 := fun e => c92 (x92.2 e)
          have hx92b : (x == 92) = false := by simpa using hx92
          have HQ2 : Hid (qS 0 (l.drop k) = if plB c = true then (qS 0 (l.drop (k + 1))).map fun p => (c :: p.1, p.2 + 1) else none) := hid0 (by rw [HQ.out, if_neg c34, if_neg c92])
          have hpz : plB c = (decide (32 ≤ x) && decide (x ≤ 126)) := by
            rw [HC.out]
            unfold plB
            congr 1 <;> exact decide_eq_decide.2 (by omega)
          by_cases hp : 32 ≤ x ∧ x ≤ 126
          · have a1 : ¬ x < 32 := by omega
            have a2 : ¬ x > 126 := by omega
            have a1b : decide (x < 32) = false := decide_eq_false a1
            have a2b : decide (x > 126) = false := decide_eq_false a2
            have HN : Hid (QJ l (acc ++ [c]) a (k + 1) (S ++ rd [c])) := hid0 ⟨by
              rw [HI.out.q, HQ2.out, hpz, decide_eq_true hp.1, decide_eq_true hp.2]
              show Option.map _ (Option.map _ (qS 0 (l.drop (k + 1)))) = _
              rw [Option.map_map]
              congr 1
              funext p
              simp
              omega, by rw [HI.out.s, rd_app]⟩
            rw [← hX] at HN
            have hB1 : (s.extract k (k + 1)).size = 1 := by rw [hX]; exact rd_size _
            have hT : s.extract k ((k : Int) + 1).toNat = s.extract k (k + 1) := rfl
            have hk1S : (k : Int) + 1 ≤ (s.size : Int) := by omega
            have hkk : (k : Int) ≤ (k : Int) + 1 := by omega
            have hsum : ¬ 9223372036854775807 < S.size + (s.extract k (k + 1)).size := by omega
            have HSz : Hid ((S ++ s.extract k (k + 1)).size ≤ k + 1) := hid0 (by rw [size_app]; omega)
            clear HI HQ HQ2 x34 x92 c34 c92 HC HG HX hX HV HS HEs hB1 hT hpz hp
            go_wp2
            go_roundw
            case rel => exact ⟨k + 1, acc ++ [c], S ++ s.extract k (k + 1), by omega, hlt, rfl, by go_num, HSz.out, HN, HB⟩
            case measure => simp [intOf]; omega
          · have HVt : Hid (V = .tuple #[.string ⟨#[]⟩, .int .i64 (-1)]) := hid0 (by
              rw [HV.out]
              refine HI.out.none ?_
              rw [HQ2.out, hpz, if_neg]
              simpa using hp)
            clear HI HQ HQ2 x34 x92 c34 c92 HC HG HX hX HV HS HEs hpz
            by_cases a1 : x < 32
            · clear hp
              go_wp2
              go_ret2
              exact ⟨by rw [HVt.out]; rfl, HB⟩
            · have a2 : x > 126 := by omega
              clear hp
              go_wp2
              go_ret2
              exact ⟨by rw [HVt.out]; rfl, HB⟩
    · have hkI : ¬ (k : Int) < (s.size : Int) := by omega
      have HVt : Hid (V = .tuple #[.string ⟨#[]⟩, .int .i64 (-1)]) := hid0 (by rw [HV.out]; exact HI.out.none (by rw [List.drop_of_length_le (by have := HS.out; omega), qS]))
      clear HI HG HX HV HS HEs
      go_wp2
      go_ret2
      exact ⟨by rw [HVt.out]; rfl, HB⟩
end Go.Proofs.YtcbepmjojppokaaDoor
