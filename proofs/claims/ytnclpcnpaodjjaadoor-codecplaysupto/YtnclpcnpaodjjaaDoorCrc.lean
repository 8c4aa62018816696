/-
  The plain mathematics of the CRC-32 (nothing of the dump): the register bit by bit, by nibbles; linearity.
-/
import Derived.Laws.BitsAllLaws
namespace Go.Proofs.YtnclpcnpaodjjaaDoor
namespace Crc
/-- A register as a number. -/
def u (r : BitVec 32) : Int := (r.toNat : Int)
def poly : BitVec 32 := 0xEDB88320#32
/-- One step of one bit. -/
def bit1 (r : BitVec 32) : BitVec 32 := if r &&& 1#32 = 1#32 then (r >>> 1) ^^^ poly else r >>> 1
def iter (n : Nat) (r : BitVec 32) : BitVec 32 := match n with | 0 => r | n + 1 => iter n (bit1 r)
theorem iter_succ (n : Nat) (r : BitVec 32) : iter (n + 1) r = bit1 (iter n r) := by
  induction n generalizing r with
  | zero => rfl
  | succ n ih => rw [iter, ih]; rfl
theorem iter_add (m n : Nat) (r : BitVec 32) : iter (m + n) r = iter n (iter m r) := by
  induction m generalizing r with
  | zero => rw [Nat.zero_add]; rfl
  | succ m ih => rw [Nat.succ_add]; exact ih _
theorem and_one (x : BitVec 32) : x &&& 1#32 = if x.getLsbD 0 then 1#32 else 0#32 := by
  apply BitVec.eq_of_getLsbD_eq
  intro i hi
  rw [BitVec.getLsbD_and]
  cases i with
  | zero => cases h : x.getLsbD 0 <;> simp
  | succ i =>
    have h1 : (1#32).getLsbD (i + 1) = false := by simp
    rw [h1, Bool.and_false]
    split
    · exact h1.symm
    · simp
theorem bit1_eq (x : BitVec 32) : bit1 x = (x >>> 1) ^^^ (if x.getLsbD 0 then poly else 0#32) := by
  unfold bit1
  rw [and_one]
  cases x.getLsbD 0 <;> simp
theorem ushr_xor (x y : BitVec 32) (n : Nat) : (x ^^^ y) >>> n = (x >>> n) ^^^ (y >>> n) := by
  apply BitVec.eq_of_getLsbD_eq
  intro i hi
  simp
theorem bit1_xor (x y : BitVec 32) : bit1 (x ^^^ y) = bit1 x ^^^ bit1 y := by
  rw [bit1_eq, bit1_eq, bit1_eq, ushr_xor, BitVec.getLsbD_xor]
  cases x.getLsbD 0 <;> cases y.getLsbD 0 <;> simp [BitVec.xor_assoc]
  · exact BitVec.xor_comm _ _
  · rw [BitVec.xor_comm (y >>> 1) poly, ← BitVec.xor_assoc, BitVec.xor_self, BitVec.zero_xor]
theorem iter_xor (n : Nat) (x y : BitVec 32) : iter n (x ^^^ y) = iter n x ^^^ iter n y := by
  induction n generalizing x y with
  | zero => rfl
  | succ n ih => rw [iter, iter, iter, bit1_xor, ih]
/-- Where the low bits are 0 the steps only shift. -/
theorem iter_shift (n : Nat) (z : BitVec 32) (h : ∀ i, i < n → z.getLsbD i = false) : iter n z = z >>> n := by
  induction n generalizing z with
  | zero => simp [iter]
  | succ n ih =>
    have h0 : bit1 z = z >>> 1 := by rw [bit1_eq, h 0 (by omega)]; simp
    rw [iter, h0, ih (z >>> 1) (fun i hi => by rw [BitVec.getLsbD_ushiftRight]; rw [Nat.add_comm]; exact h (i + 1) (by omega)), ← BitVec.shiftRight_add, Nat.add_comm]
/-- The table of 16 words. -/
def tabL : List (BitVec 32) := [0#32, 498536548#32, 997073096#32, 651767980#32, 1994146192#32, 1802195444#32, 1303535960#32, 1342533948#32, 3988292384#32, 4027552580#32, 3604390888#32, 3412177804#32, 2607071920#32, 2262029012#32, 2685067896#32, 3183342108#32]
def tab (i : BitVec 32) : BitVec 32 := tabL.getD i.toNat 0#32
theorem tab_all : ∀ k : Fin 16, iter 4 (BitVec.ofNat 32 k.val) = tab (BitVec.ofNat 32 k.val) := by decide
theorem and15_lt (r : BitVec 32) : (r &&& 15#32).toNat < 16 := by
  rw [BitVec.toNat_and]
  have : r.toNat &&& (15#32).toNat = r.toNat % 16 := nat_mask4 _
  omega
theorem tab_iter (r : BitVec 32) : tab (r &&& 15#32) = iter 4 (r &&& 15#32) := by
  have h := tab_all ⟨(r &&& 15#32).toNat, and15_lt r⟩
  simp only [BitVec.ofNat_toNat, BitVec.setWidth_eq] at h
  exact h.symm
def nib (r : BitVec 32) : BitVec 32 := (r >>> 4) ^^^ tab (r &&& 15#32)
theorem nib_iter (r : BitVec 32) : nib r = iter 4 r := by
  have hs : r = (r &&& ~~~15#32) ^^^ (r &&& 15#32) := by
    apply BitVec.eq_of_getLsbD_eq
    intro i hi
    simp only [BitVec.getLsbD_xor, BitVec.getLsbD_and, BitVec.getLsbD_not, hi, decide_true, Bool.true_and]
    cases r.getLsbD i <;> cases (15#32).getLsbD i <;> rfl
  have hlow : ∀ i, i < 4 → (r &&& ~~~15#32).getLsbD i = false := by
    intro i hi
    have : (15#32).getLsbD i = true := by
      have : i = 0 ∨ i = 1 ∨ i = 2 ∨ i = 3 := by omega
      rcases this with rfl | rfl | rfl | rfl <;> decide
    rw [BitVec.getLsbD_and, BitVec.getLsbD_not, this]
    simp
  have hhi : (r &&& ~~~15#32) >>> 4 = r >>> 4 := by
    apply BitVec.eq_of_getLsbD_eq
    intro i hi
    simp only [BitVec.getLsbD_ushiftRight, BitVec.getLsbD_and, BitVec.getLsbD_not]
    have h15 : (15#32).getLsbD (4 + i) = false := by
      rw [show (15#32 : BitVec 32) = BitVec.ofNat 32 (2 ^ 4 - 1) from rfl, BitVec.getLsbD_ofNat, Nat.testBit_two_pow_sub_one]
      simp
    rw [h15]
    by_cases h : 4 + i < 32
    · simp [h]
    · simp [BitVec.getLsbD_of_ge r (4 + i) (by omega)]
  conv => rhs; rw [hs]
  rw [iter_xor, iter_shift 4 _ hlow, hhi, ← tab_iter]
  rfl
/-- A byte as a word. -/
def zx (c : UInt8) : BitVec 32 := BitVec.ofNat 32 c.toNat
/-- What the register becomes by one byte; by a list of bytes. -/
def stepB (r : BitVec 32) (c : UInt8) : BitVec 32 := iter 8 (r ^^^ zx c)
theorem stepB_nib (r : BitVec 32) (c : UInt8) : stepB r c = nib (nib (r ^^^ zx c)) := by
  rw [nib_iter, nib_iter, ← iter_add]; rfl
def reg (r : BitVec 32) (l : List UInt8) : BitVec 32 := l.foldl stepB r
theorem reg_snoc (r : BitVec 32) (l : List UInt8) (c : UInt8) : reg r (l ++ [c]) = stepB (reg r l) c := by simp [reg]
theorem reg_append (r : BitVec 32) (a b : List UInt8) : reg r (a ++ b) = reg (reg r a) b := by simp [reg]
/-- The sum that goes on from a sum. -/
def more (s : BitVec 32) (l : List UInt8) : BitVec 32 := ~~~ (reg (~~~ s) l)
theorem more_nil (s : BitVec 32) : more s [] = s := by simp [more, reg]
theorem more_append (s : BitVec 32) (a b : List UInt8) : more s (a ++ b) = more (more s a) b := by
  unfold more; rw [reg_append, BitVec.not_not]
/- The numbers. -/
theorem u_nonneg (r : BitVec 32) : 0 ≤ u r := by unfold u; omega
theorem u_lt (r : BitVec 32) : u r < 4294967296 := by unfold u; have := r.isLt; omega
theorem u_inj {a b : BitVec 32} (h : u a = u b) : a = b := by unfold u at h; exact BitVec.eq_of_toNat_eq (by omega)
theorem u_xor (a b : BitVec 32) : bits .xor .u32 (u a) (u b) = u (a ^^^ b) := by
  unfold u
  rw [u32_xor_nat _ _ a.isLt b.isLt, BitVec.toNat_xor]
theorem u_not (a : BitVec 32) : bits .xor .u32 4294967295 (u a) = u (~~~ a) := by
  have h := u_xor (BitVec.allOnes 32) a
  rw [BitVec.allOnes_xor] at h
  exact h
theorem u_not' (a : BitVec 32) : bits .xor .u32 (u a) 4294967295 = u (~~~ a) := by
  have h := u_xor a (BitVec.allOnes 32)
  rw [BitVec.xor_allOnes] at h
  exact h
theorem u_poly (a : BitVec 32) : bits .xor .u32 (u a) 3988292384 = u (a ^^^ poly) := u_xor a poly
theorem u_and (a b : BitVec 32) : bits .and .u32 (u a) (u b) = u (a &&& b) := by
  unfold u
  rw [u32_and_nat _ _ a.isLt b.isLt, BitVec.toNat_and]
theorem u_and15 (a : BitVec 32) : bits .and .u32 (u a) 15 = u (a &&& 15#32) := u_and a 15#32
theorem u_and1 (a : BitVec 32) : bits .and .u32 (u a) 1 = u (a &&& 1#32) := u_and a 1#32
theorem u_shr4 (a : BitVec 32) : u a / (16 : Int) = u (a >>> 4) := by
  unfold u
  rw [BitVec.toNat_ushiftRight, Nat.shiftRight_eq_div_pow]
  omega
theorem u_shr1 (a : BitVec 32) : u a / (2 : Int) = u (a >>> 1) := by
  unfold u
  rw [BitVec.toNat_ushiftRight, Nat.shiftRight_eq_div_pow]
  omega
theorem u_zx (c : UInt8) : u (zx c) = (c.toNat : Int) := by
  unfold u zx
  rw [BitVec.toNat_ofNat]
  have := c.toNat_lt
  omega
theorem u_and15_lt (a : BitVec 32) : u (a &&& 15#32) < 16 := by unfold u; have := and15_lt a; omega
theorem u_toNat (a : BitVec 32) : (u a).toNat = a.toNat := by unfold u; omega
theorem bit1_one (a : BitVec 32) (h : u (a &&& 1#32) = 1) : bit1 a = (a >>> 1) ^^^ poly := by
  unfold bit1
  rw [if_pos (u_inj (by rw [h]; rfl))]
theorem bit1_zero (a : BitVec 32) (h : ¬ u (a &&& 1#32) = 1) : bit1 a = a >>> 1 := by
  unfold bit1
  rw [if_neg (fun e => h (by rw [e]; rfl))]
end Crc
end Go.Proofs.YtnclpcnpaodjjaaDoor
