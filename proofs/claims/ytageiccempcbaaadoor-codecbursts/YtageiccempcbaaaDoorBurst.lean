/-
  The plain mathematics of bursts (nothing of the dump): bits that are turned within 32 make another sum.
-/
import Derived.Test.YtageiccempcbaaaDoorCrc
namespace Go.Proofs.YtageiccempcbaaaDoor
namespace Crc
def ind (b : Bool) : BitVec 32 := if b then 1#32 else 0#32
/-- The register bit by bit. -/
def regF (r : BitVec 32) (f : Nat → Bool) : Nat → BitVec 32
  | 0 => r
  | n + 1 => bit1 (regF r f n ^^^ ind (f n))
theorem regF_congr (r : BitVec 32) (f g : Nat → Bool) (n : Nat) (h : ∀ i, i < n → f i = g i) : regF r f n = regF r g n := by
  induction n with
  | zero => rfl
  | succ n ih => rw [regF, regF, ih (fun i hi => h i (by omega)), h n (by omega)]
theorem ind_xor (a b : Bool) : ind (a ^^ b) = ind a ^^^ ind b := by cases a <;> cases b <;> decide
theorem xor4 (a b c d : BitVec 32) : (a ^^^ b) ^^^ (c ^^^ d) = (a ^^^ c) ^^^ (b ^^^ d) := by
  apply BitVec.eq_of_getLsbD_eq
  intro i _
  simp only [BitVec.getLsbD_xor]
  cases a.getLsbD i <;> cases b.getLsbD i <;> cases c.getLsbD i <;> cases d.getLsbD i <;> rfl
theorem regF_xor (r s : BitVec 32) (f g : Nat → Bool) (n : Nat) : regF r f n ^^^ regF s g n = regF (r ^^^ s) (fun i => f i ^^ g i) n := by
  induction n with
  | zero => rfl
  | succ n ih => rw [regF, regF, regF, ← ih, ← bit1_xor, ind_xor, xor4]
theorem bit1_zero' (x : BitVec 32) (h : bit1 x = 0#32) : x = 0#32 := by
  rw [bit1_eq] at h
  cases h0 : x.getLsbD 0 with
  | true =>
    rw [h0] at h
    have h31 := congrArg (fun y => y.getLsbD 31) h
    simp only [BitVec.getLsbD_xor, BitVec.getLsbD_ushiftRight] at h31
    rw [BitVec.getLsbD_of_ge x (1 + 31) (by omega)] at h31
    exact absurd h31 (by decide)
  | false =>
    rw [h0] at h
    apply BitVec.eq_of_getLsbD_eq
    intro i hi
    cases i with
    | zero => rw [h0]; rfl
    | succ i =>
      have := congrArg (fun y => y.getLsbD i) h
      simp only [BitVec.getLsbD_xor, BitVec.getLsbD_ushiftRight] at this
      rw [Nat.add_comm 1 i] at this
      simpa using this
theorem iter_zero (n : Nat) : iter n 0#32 = 0#32 := by
  rw [iter_shift n 0#32 (fun i _ => by simp)]; simp
theorem iter_ne (n : Nat) (x : BitVec 32) (h : x ≠ 0#32) : iter n x ≠ 0#32 := by
  induction n generalizing x with
  | zero => exact h
  | succ n ih => exact ih _ (fun e => h (bit1_zero' x e))
/-- The turned bits as a word. -/
def word (h : Nat → Bool) (a : Nat) : Nat → BitVec 32
  | 0 => 0#32
  | m + 1 => word h a m ^^^ (if h (a + m) then 1#32 <<< m else 0#32)
theorem word_bit (h : Nat → Bool) (a m : Nat) (hm : m ≤ 32) (i : Nat) (hi : i < 32) : (word h a m).getLsbD i = (decide (i < m) && h (a + i)) := by
  induction m with
  | zero => simp [word]
  | succ m ih =>
    rw [word, BitVec.getLsbD_xor, ih (by omega)]
    by_cases e : i = m
    · subst e
      cases h (a + i) <;> simp [hi]
    · have hs : (1#32 <<< m).getLsbD i = false := by
        rw [BitVec.getLsbD_shiftLeft]
        by_cases hlt : i < m
        · simp [hlt]
        · have : (1#32).getLsbD (i - m) = false := by
            rw [BitVec.getLsbD_one]; simp; omega
          simp [this]
      have hd : decide (i < m + 1) = decide (i < m) := by congr 1; exact propext ⟨fun _ => by omega, fun _ => by omega⟩
      rw [hd]
      cases h (a + m) <;> simp [hs]
theorem iter_one (m : Nat) (hm : m < 32) : iter m (1#32 <<< m) = 1#32 := by
  rw [iter_shift m]
  · apply BitVec.eq_of_getLsbD_eq
    intro i hi
    rw [BitVec.getLsbD_ushiftRight, BitVec.getLsbD_shiftLeft]
    by_cases h : m + i < 32
    · simp [h]
    · have : (1#32).getLsbD i = false := by rw [BitVec.getLsbD_one]; simp; omega
      simp [h, this]
  · intro i hi
    rw [BitVec.getLsbD_shiftLeft]
    simp [hi]
theorem regF_none (h : Nat → Bool) (a : Nat) (h0 : ∀ b, b < a → h b = false) : regF 0#32 h a = 0#32 := by
  induction a with
  | zero => rfl
  | succ a ih => rw [regF, ih (fun b hb => h0 b (by omega)), h0 a (by omega)]; decide
theorem regF_word (h : Nat → Bool) (a m : Nat) (hm : m ≤ 32) (h0 : ∀ b, b < a → h b = false) : regF 0#32 h (a + m) = iter m (word h a m) := by
  induction m with
  | zero => exact regF_none h a h0
  | succ m ih =>
    rw [← Nat.add_assoc, regF, ih (by omega), iter_succ, word, iter_xor]
    congr 2
    cases h (a + m) with
    | true => simp only [if_true, ind]; rw [iter_one m (by omega)]
    | false => simp only [ind]; rw [if_neg (by simp), if_neg (by simp), iter_zero]
theorem regF_tail (h : Nat → Bool) (r : BitVec 32) (a k : Nat) (h1 : ∀ b, a ≤ b → h b = false) : regF r h (a + k) = iter k (regF r h a) := by
  induction k with
  | zero => rfl
  | succ k ih =>
    rw [← Nat.add_assoc, regF, ih, h1 (a + k) (by omega), iter_succ]
    show bit1 (_ ^^^ ind false) = _
    rw [ind, if_neg (by simp), BitVec.xor_zero]
/-- Bits that are turned within 32 make another register. -/
theorem regF_burst (h : Nat → Bool) (a n b : Nat) (h0 : ∀ b, b < a → h b = false) (h1 : ∀ b, a + 32 ≤ b → h b = false) (hb : h b = true) (hn : b < n) : regF 0#32 h n ≠ 0#32 := by
  have hba : a ≤ b := Nat.le_of_not_lt (fun hlt => by rw [h0 b hlt] at hb; cases hb)
  have hb2 : b < a + 32 := Nat.lt_of_not_le (fun hle => by rw [h1 b hle] at hb; cases hb)
  have key : ∀ m, m ≤ 32 → b < a + m → regF 0#32 h (a + m) ≠ 0#32 := by
    intro m hm hbm
    rw [regF_word h a m hm h0]
    apply iter_ne
    intro e
    have := word_bit h a m hm (b - a) (by omega)
    rw [e, show a + (b - a) = b by omega, hb, show decide (b - a < m) = true by simp; omega] at this
    simp at this
  by_cases hle : n ≤ a + 32
  · have := key (n - a) (by omega) (by omega)
    rwa [show a + (n - a) = n by omega] at this
  · have h32 := key 32 (by omega) hb2
    have ht := regF_tail h 0#32 (a + 32) (n - (a + 32)) h1
    rw [show a + 32 + (n - (a + 32)) = n by omega] at ht
    rw [ht]
    exact iter_ne _ _ h32
/-- A list's bits. -/
def bitAt (l : List UInt8) (b : Nat) : Bool := (l.getD (b / 8) 0).toNat.testBit (b % 8)
theorem regF_byte : ∀ c : Fin 256, regF 0#32 (fun i => c.val.testBit i) 8 = iter 8 (BitVec.ofNat 32 c.val) := by decide +kernel
theorem regF_add (r : BitVec 32) (f : Nat → Bool) (m k : Nat) : regF r f (m + k) = regF (regF r f m) (fun i => f (m + i)) k := by
  induction k with
  | zero => rfl
  | succ k ih => rw [← Nat.add_assoc, regF, ih]; rfl
theorem regF_iter (r : BitVec 32) (n : Nat) : regF r (fun _ => false) n = iter n r := by
  have := regF_tail (fun _ => false) r 0 n (fun _ _ => rfl)
  rw [Nat.zero_add] at this
  exact this
theorem stepB_regF (r : BitVec 32) (c : UInt8) : stepB r c = regF r (fun i => c.toNat.testBit i) 8 := by
  have h1 := regF_xor r 0#32 (fun _ => false) (fun i => c.toNat.testBit i) 8
  rw [BitVec.xor_zero, regF_iter, regF_byte ⟨c.toNat, c.toNat_lt⟩] at h1
  rw [regF_congr r (fun i => c.toNat.testBit i) (fun i => false ^^ c.toNat.testBit i) 8 (fun i _ => by simp), ← h1, ← iter_xor]
  rfl
theorem bitAt_in (l : List UInt8) (k i : Nat) (hk : k < l.length) (h : i < 8) : bitAt l (8 * k + i) = (l[k]).toNat.testBit i := by
  unfold bitAt
  have e1 : (8 * k + i) / 8 = k := by omega
  have e2 : (8 * k + i) % 8 = i := by omega
  rw [e1, e2]
  simp [hk]
theorem reg_take (r : BitVec 32) (l : List UInt8) (k : Nat) (hk : k ≤ l.length) : reg r (l.take k) = regF r (bitAt l) (8 * k) := by
  induction k with
  | zero => rfl
  | succ k ih =>
    rw [List.take_succ_eq_append_getElem (by omega), reg_snoc, ih (by omega), show 8 * (k + 1) = 8 * k + 8 by omega, regF_add, stepB_regF]
    exact regF_congr _ _ _ 8 (fun i hi => (bitAt_in l k i (by omega) hi).symm)
theorem reg_regF (r : BitVec 32) (l : List UInt8) : reg r l = regF r (bitAt l) (8 * l.length) := by
  have := reg_take r l l.length (Nat.le_refl _)
  rwa [List.take_length] at this
/-- Two lists of one length that part in bits within 32 have two sums. -/
theorem more_burst (p q : List UInt8) (a b : Nat) (hl : q.length = p.length) (h0 : ∀ b, b < a → bitAt p b = bitAt q b) (h1 : ∀ b, a + 32 ≤ b → bitAt p b = bitAt q b) (hb : bitAt p b ≠ bitAt q b) (hn : b < 8 * p.length) :
    more 0#32 p ≠ more 0#32 q := by
  intro e
  unfold more at e
  have e2 : reg (~~~ 0#32) p = reg (~~~ 0#32) q := by
    have := congrArg (fun x => ~~~ x) e
    simpa using this
  rw [reg_regF, reg_regF, hl] at e2
  have hx := regF_xor (~~~ 0#32) (~~~ 0#32) (bitAt p) (bitAt q) (8 * p.length)
  rw [e2, BitVec.xor_self, BitVec.xor_self] at hx
  exact regF_burst (fun i => bitAt p i ^^ bitAt q i) a (8 * p.length) b (fun b hb => by simp [h0 b hb]) (fun b hb => by simp [h1 b hb]) (by revert hb; generalize bitAt p b = x; generalize bitAt q b = y; cases x <;> cases y <;> simp) hn hx.symm
end Crc
end Go.Proofs.YtageiccempcbaaaDoor
