/-
  The walk of caesuraref25.Quote (stage 25).
-/
import Derived.Test.YtcbepmjojppokaaDoorDkQW
namespace Go.Proofs.YtcbepmjojppokaaDoor
open Go.RowKit Go.Shelf
theorem hx_ext : ∀ d : Fin 16, (⟨#[48, 49, 50, 51, 52, 53, 54, 55, 56, 57, 97, 98, 99, 100, 101, 102]⟩ : ByteArray).extract d.val (d.val + 1) = rd [hxC d.val] := by decide +kernel
/-- Where the writing stands. -/
structure QQ (l : Dy) (k : Nat) (S : ByteArray) : Prop where
  s : S = rd (34 :: (l.take k).flatMap escQ)
  len : S.size ≤ 4 * k + 1
theorem QQ.next {l : Dy} {k : Nat} {S T : ByteArray} (h : QQ l k S) (hk : k < l.length) (hT : T = rd (escQ l[k])) : QQ l (k + 1) (S ++ T) := by
  have e : S ++ T = rd (34 :: (l.take (k + 1)).flatMap escQ) := by
    rw [h.s, hT, rd_app, List.take_add_one, List.getElem?_eq_getElem hk, Option.toList_some, List.flatMap_append, List.flatMap_singleton]
    rfl
  refine ⟨e, ?_⟩
  have h1 : T.size ≤ 4 := by rw [hT, rd_size]; exact (esc_len _).2
  have h2 := h.len
  rw [size_app]
  omega
set_option maxRecDepth 10000 in
set_option maxHeartbeats 1600000 in
theorem refQuote_any (l : Dy) (w : World) (hl : l.length ≤ 4000000000000) :
    Calls Tryd.prog 7 #[.string (rd l)] w fun e w' => e = .returned (.string (rd (quoQ l))) ∧ Hid (Below w.heap.size w w') := by
  obtain ⟨s, hs⟩ : ∃ s, s = rd l := ⟨_, rfl⟩
  have hS : s.size = l.length := by rw [hs, rd_size]
  have HG : Hid (∀ k (h : k < s.size), ∃ h2 : k < l.length, s[k] = l[k]) := hid0 (by subst hs; exact fun k h => ⟨by rw [← rd_size]; exact h, rfl⟩)
  have HX : Hid (∀ k (h2 : k < l.length), s.extract k (k + 1) = rd [l[k]]) := hid0 (fun k h2 => by rw [hs]; exact rd_one l k h2)
  have HB := hid0 (refBare_any l w (by omega))
  rw [← hs] at HB ⊢
  obtain ⟨V, hV⟩ : ∃ V, V = rd (quoQ l) := ⟨_, rfl⟩
  rw [← hV]
  unfold quoQ at hV
  have hls : s.size ≤ 4000000000000 := by omega
  cases hb : bareQ l with
  | true =>
    rw [hb, if_pos rfl] at hV
    rw [hb] at HB
    have HV : Hid (V = s) := hid0 (by rw [hV, hs])
    clear hV hs HG HX hS hl hb
    go_enter Tryd.func7, Tryd.ntmps7
    go_wp2_with (go_at_call 19; refine HB.out.mono ?_; rintro e w1 ⟨rfl, hw⟩; subst hw)
    go_ret
    exact ⟨by rw [HV.out]; rfl, hid0 (Below.refl _ _)⟩
  | false =>
    rw [hb, if_neg (by simp)] at hV
    rw [hb] at HB
    have HV := hid0 hV
    have HS := hid0 hS
    clear hV hs hS hl hb
    go_enter Tryd.func7, Tryd.ntmps7
    go_wp2_with (go_at_call 19; refine HB.out.mono ?_; rintro e w1 ⟨rfl, hw⟩; subst hw)
    go_loopw [3, 4, 5] (fun v i _ wr => ∃ (k : Nat) (S : ByteArray), k ≤ s.size ∧ v = .string S ∧ i = .int .i64 (k : Int) ∧ S.size ≤ 4 * k + 1 ∧ Hid (QQ l k S) ∧ Hid (Below w1.heap.size w1 wr)) (fun _ i _ _ => s.size - (intOf i).toNat)
    case atStart => exact ⟨0, ⟨#[34]⟩, Nat.zero_le _, rfl, rfl, Nat.le_refl _, hid0 ⟨rfl, Nat.le_refl _⟩, hid0 (Below.refl _ _)⟩
    case round =>
      obtain ⟨k, S, hk, rfl, rfl, hSk, HI, HBr⟩ := hrel
      clear HB
      have hkI0 : (0 : Int) ≤ (k : Int) := by omega
      by_cases hlt : k < s.size
      · have hkI : (k : Int) < (s.size : Int) := by omega
        obtain ⟨hk2, hg⟩ := HG.out k hlt
        have hX := HX.out k hk2
        have HN : Hid (∀ T : ByteArray, T = rd (escQ l[k]) → QQ l (k + 1) (S ++ T)) := hid0 (fun T hT => HI.out.next hk2 hT)
        obtain ⟨c, hc⟩ : ∃ c, c = l[k] := ⟨_, rfl⟩
        rw [← hc] at hg HN hX
        clear hc
        obtain ⟨x, hx⟩ : ∃ x, x = (c.toNat : Int) := ⟨_, rfl⟩
        have hgx : (s[k].toNat : Int) = x := by rw [hg, hx]
        have x34 := u8_is c 34 (by omega)
        have x92 := u8_is c 92 (by omega)
        have x10 := u8_is c 10 (by omega)
        rw [← hx] at x34 x92 x10
        have HC := hid0 hx
        have hsum2 : ¬ 9223372036854775807 < S.size + 2 := by omega
        have hu : escQ c = if c = 34 then [92, 34] else if c = 92 then [92, 92] else if c = 10 then [92, 110] else if plB c = true then [c] else [92, 120, hxC (c.toNat / 16), hxC (c.toNat % 16)] := rfl
        rw [hu] at HN
        clear hg hx hu
        by_cases c34 : c = 34
        · have hx34 : x = 34 := x34.1 c34
          rw [if_pos c34] at HN
          have HN2 := hid0 (HN.out ⟨#[92, 34]⟩ rfl)
          clear HN HI HG HX HV HS x34 x92 x10 c34 HC hX
          subst hx34
          go_wp2
          go_roundw
          case rel => exact ⟨k + 1, _, hlt, rfl, by go_num, HN2.out.len, HN2, HBr⟩
          case measure => simp [intOf]; omega
        · have hx34 : ¬ x = 34 := fun e => c34 (x34.2 e)
          have hx34b : (x == 34) = false := by simpa using hx34
          rw [if_neg c34] at HN
          by_cases c92 : c = 92
          · have hx92 : x = 92 := x92.1 c92
            rw [if_pos c92] at HN
            have HN2 := hid0 (HN.out ⟨#[92, 92]⟩ rfl)
            clear HN HI HG HX HV HS x34 x92 x10 c34 c92 HC hX
            subst hx92
            go_wp2
            go_roundw
            case rel => exact ⟨k + 1, _, hlt, rfl, by go_num, HN2.out.len, HN2, HBr⟩
            case measure => simp [intOf]; omega
          · have hx92 : ¬ x = 92 := fun e => c92 (x92.2 e)
            have hx92b : (x == 92) = false := by simpa using hx92
            rw [if_neg c92] at HN
            by_cases c10 : c = 10
            · have hx10 : x = 10 := x10.1 c10
              rw [if_pos c10] at HN
              have HN2 := hid0 (HN.out ⟨#[92, 110]⟩ rfl)
              clear HN HI HG HX HV HS x34 x92 x10 c34 c92 c10 HC hX
              subst hx10
              go_wp2
              go_roundw
              case rel => exact ⟨k + 1, _, hlt, rfl, by go_num, HN2.out.len, HN2, HBr⟩
              case measure => simp [intOf]; omega
            · have hx10 : ¬ x = 10 := fun e => c10 (x10.2 e)
              have hx10b : (x == 10) = false := by simpa using hx10
              rw [if_neg c10] at HN
              have hpz : plB c = (decide (32 ≤ x) && decide (x ≤ 126)) := by
                rw [HC.out]
                unfold plB
                congr 1 <;> exact decide_eq_decide.2 (by omega)
              by_cases hp : 32 ≤ x ∧ x ≤ 126
              · have hpt : plB c = true := by rw [hpz, decide_eq_true hp.1, decide_eq_true hp.2]; rfl
                rw [if_pos hpt] at HN
                have a1 : ¬ x < 32 := by omega
                have a2 : ¬ x > 126 := by omega
                have HN2 := hid0 (HN.out (s.extract k (k + 1)) hX)
                have hB1 : (s.extract k (k + 1)).size = 1 := by rw [hX]; exact rd_size _
                have hsum : ¬ 9223372036854775807 < S.size + (s.extract k (k + 1)).size := by omega
                have hk1S : (k : Int) + 1 ≤ (s.size : Int) := by omega
                have hkk : (k : Int) ≤ (k : Int) + 1 := by omega
                clear HN HI HG HX HV HS x34 x92 x10 c34 c92 c10 HC hX hpz hp hpt hB1
                go_wp2
                go_roundw
                case rel => exact ⟨k + 1, _, hlt, rfl, by go_num, HN2.out.len, HN2, HBr⟩
                case measure => simp [intOf]; omega
              · have hpf : ¬ plB c = true := by rw [hpz]; simpa using hp
                rw [if_neg hpf] at HN
                obtain ⟨n, hn⟩ : ∃ n, n = c.toNat := ⟨_, rfl⟩
                have hn256 : n < 256 := by rw [hn]; exact c.toNat_lt
                rw [← hn] at HN
                obtain rfl : x = (n : Int) := by rw [hn]; exact HC.out
                obtain ⟨hi, hhi⟩ : ∃ hi, hi = n / 16 := ⟨_, rfl⟩
                obtain ⟨lo, hlo⟩ : ∃ lo, lo = n % 16 := ⟨_, rfl⟩
                rw [← hhi, ← hlo] at HN
                have hi16 : hi < 16 := by omega
                have lo16 : lo < 16 := by omega
                have hsh : (n : Int) / 16 = (hi : Int) := by omega
                have hand : bits .and .u8 (n : Int) 15 = (lo : Int) := by rw [hlo]; exact u8_and15 ⟨n, hn256⟩
                have hXh := hx_ext ⟨hi, hi16⟩
                have hXl := hx_ext ⟨lo, lo16⟩
                have hXh : (⟨#[48, 49, 50, 51, 52, 53, 54, 55, 56, 57, 97, 98, 99, 100, 101, 102]⟩ : ByteArray).extract hi (hi + 1) = rd [hxC hi] := hXh
                have hXl : (⟨#[48, 49, 50, 51, 52, 53, 54, 55, 56, 57, 97, 98, 99, 100, 101, 102]⟩ : ByteArray).extract lo (lo + 1) = rd [hxC lo] := hXl
                have hS1 : (rd [hxC hi]).size = 1 := rd_size _
                have hS2 : (rd [hxC lo]).size = 1 := rd_size _
                have HN2 : Hid (QQ l (k + 1) (((S ++ ⟨#[92, 120]⟩) ++ rd [hxC hi]) ++ rd [hxC lo])) := hid0 (by
                  have e : ((S ++ ⟨#[92, 120]⟩) ++ rd [hxC hi]) ++ rd [hxC lo] = S ++ rd [92, 120, hxC hi, hxC lo] := by
                    rw [show (⟨#[92, 120]⟩ : ByteArray) = rd [92, 120] from rfl, ByteArray.append_assoc, ByteArray.append_assoc, rd_app, rd_app]
                    rfl
                  rw [e]
                  exact HN.out _ rfl)
                generalize rd [hxC hi] = T1 at *
                generalize rd [hxC lo] = T2 at *
                have b1 : (0 : Int) ≤ (hi : Int) := by omega
                have b2 : (hi : Int) ≤ (hi : Int) + 1 := by omega
                have b3 : (hi : Int) + 1 ≤ 16 := by omega
                have b4 : (0 : Int) ≤ (lo : Int) := by omega
                have b5 : (lo : Int) ≤ (lo : Int) + 1 := by omega
                have b6 : (lo : Int) + 1 ≤ 16 := by omega
                have b7 : IntKind.u8.wrap ((hi : Int) + 1) = (hi : Int) + 1 := by rw [IntKind.wrap_u8]; omega
                have b8 : IntKind.u8.wrap ((lo : Int) + 1) = (lo : Int) + 1 := by rw [IntKind.wrap_u8]; omega
                have s1 : ¬ 9223372036854775807 < (S ++ ⟨#[92, 120]⟩).size + T1.size := by rw [size_app]; show ¬ _ < S.size + 2 + _; omega
                have s2 : ¬ 9223372036854775807 < ((S ++ ⟨#[92, 120]⟩) ++ T1).size + T2.size := by rw [size_app, size_app]; show ¬ _ < S.size + 2 + _ + _; omega
                have hor : (n : Int) < 32 ∨ (n : Int) > 126 := by omega
                clear HN HI HG HX HV HS x34 x92 x10 c34 c92 c10 HC hX hpz hp hpf hhi hlo hn
                rcases hor with a1 | a2
                · go_wp2
                  go_quiet (fail)
                  all_goals go_wp2
                  go_roundw
                  case rel => exact ⟨k + 1, _, hlt, rfl, by go_num, HN2.out.len, HN2, hid0 (below_drew' HBr.out _)⟩
                  case measure => simp [intOf]; omega
                · have a1 : ¬ (n : Int) < 32 := by omega
                  go_wp2
                  go_quiet (fail)
                  all_goals go_wp2
                  go_roundw
                  case rel => exact ⟨k + 1, _, hlt, rfl, by go_num, HN2.out.len, HN2, hid0 (below_drew' HBr.out _)⟩
                  case measure => simp [intOf]; omega
      · have hkI : ¬ (k : Int) < (s.size : Int) := by omega
        have HVt : Hid (V = S ++ ⟨#[34]⟩) := hid0 (by
          have hkl : k = l.length := by have := HS.out; omega
          rw [HV.out, HI.out.s, hkl, List.take_length, show (⟨#[34]⟩ : ByteArray) = rd [34] from rfl, rd_app]
          rfl)
        have hsum1 : ¬ 9223372036854775807 < S.size + 1 := by omega
        clear HI HG HX HV HS
        go_wp2
        go_ret
        exact ⟨by rw [HVt.out]; rfl, HBr⟩
end Go.Proofs.YtcbepmjojppokaaDoor
