/- Plain facts on the program's ways to reckon check sums: products of remainders bit by bit, powers by squaring, and half bytes by a table. -/
import Derived.Test.YtgblekdllcngnaaCrcm
namespace Go.Proofs.Ytgblekdllcngnaa.Crcm

/-- k bits' steps. -/
def stn : Nat → B32 → B32
  | 0, c => c
  | k + 1, c => st (stn k c)
theorem stn_xor (k : Nat) (a b : B32) : stn k (a ^^^ b) = stn k a ^^^ stn k b := by
  induction k with
  | zero => rfl
  | succ k ih => rw [stn, stn, stn, ih, st_xor]
theorem stn_zero (k : Nat) : stn k 0#32 = 0#32 := by
  induction k with
  | zero => rfl
  | succ k ih => rw [stn, ih, st_zero]
theorem stn_st (k : Nat) (c : B32) : stn k (st c) = st (stn k c) := by
  induction k with
  | zero => rfl
  | succ k ih => rw [stn, stn, ih]
theorem st8_stn (c : B32) : st8 c = stn 8 c := rfl

/-- The product, the first k bits of the first factor. -/
def mulTo (a b : B32) : Nat → B32
  | 0 => 0#32
  | k + 1 => mulTo a b k ^^^ (if a.getLsbD (31 - k) then stn k b else 0#32)
def mul (a b : B32) : B32 := mulTo a b 32
theorem mulTo_st (a b : B32) (k : Nat) : mulTo a (st b) k = st (mulTo a b k) := by
  induction k with
  | zero => exact st_zero.symm
  | succ k ih =>
    rw [mulTo, mulTo, st_xor, ih]
    congr 1
    split
    · exact stn_st k b
    · exact st_zero.symm
theorem mul_st (a b : B32) : mul a (st b) = st (mul a b) := mulTo_st a b 32
theorem mul_st8 (a b : B32) : mul a (st8 b) = st8 (mul a b) := by simp only [st8, mul_st]
theorem mul_z (n : Nat) (a b : B32) : mul a (z n b) = z n (mul a b) := by
  induction n generalizing b with
  | zero => rfl
  | succ n ih => rw [z, z, ih, mul_st8]

/-- One. -/
def un : B32 := 0x80000000#32
theorem stn_un : ∀ k : Fin 32, stn k.val un = BitVec.twoPow 32 (31 - k.val) := by decide +kernel
theorem mulTo_un (a : B32) (k : Nat) (hk : k ≤ 32) : ∀ j, j < 32 → (mulTo a un k).getLsbD j = (decide (32 - k ≤ j) && a.getLsbD j) := by
  induction k with
  | zero => intro j hj; simp [mulTo]; omega
  | succ k ih =>
    intro j hj
    rw [mulTo, BitVec.getLsbD_xor, ih (by omega) j hj]
    have e := stn_un ⟨k, by omega⟩
    simp only at e
    rw [e]
    by_cases h : j = 31 - k
    · subst h
      rw [show decide (32 - k ≤ 31 - k) = false from by simp; omega, show decide (32 - (k + 1) ≤ 31 - k) = true from by simp]
      cases a.getLsbD (31 - k)
      · simp
      · simp [hj]
    · have h1 : decide (32 - (k + 1) ≤ j) = decide (32 - k ≤ j) := by
        rw [Bool.eq_iff_iff]; simp only [decide_eq_true_eq]; omega
      rw [h1]
      cases a.getLsbD (31 - k)
      · simp
      · simp only [if_true, BitVec.getLsbD_twoPow]
        rw [show decide (31 - k = j) = false from by simp; omega]
        simp
theorem mul_un (a : B32) : mul a un = a := by
  refine BitVec.eq_of_getLsbD_eq fun j hj => ?_
  rw [mul, mulTo_un a 32 (Nat.le_refl _) j hj]
  simp
/-- Times a power of noughts. -/
theorem mul_pow (a : B32) (n : Nat) : mul a (z n un) = z n a := by rw [mul_z, mul_un]
theorem pow_mul_pow (n m : Nat) : mul (z n un) (z m un) = z (n + m) un := by rw [mul_pow, z_add]
theorem pow_one : z 1 un = 0x800000#32 := by decide +kernel

/-- Half a byte's steps, by its low half. -/
theorem stn4_up (b : B32) (h : b.toNat < 2 ^ 28) : stn 4 (b <<< 4) = b := by
  have one : ∀ (k : Nat) (x : B32), x.toNat < 2 ^ 28 → k < 4 → st (x <<< (k + 1)) = x <<< k := by
    intro k x hx hk
    unfold st
    have h0 : (x <<< (k + 1)).getLsbD 0 = false := by simp
    rw [h0, if_neg (by decide)]
    apply BitVec.eq_of_toNat_eq
    have hp1 : 2 ^ (k + 1) ≤ 2 ^ 4 := Nat.pow_le_pow_right (by omega) (by omega)
    have hp0 : 2 ^ k ≤ 2 ^ 4 := Nat.pow_le_pow_right (by omega) (by omega)
    rw [BitVec.toNat_ushiftRight, BitVec.toNat_shiftLeft, BitVec.toNat_shiftLeft, Nat.shiftLeft_eq, Nat.shiftLeft_eq, Nat.shiftRight_eq_div_pow]
    have b1 : x.toNat * 2 ^ (k + 1) < 2 ^ 32 := Nat.lt_of_lt_of_le (Nat.mul_lt_mul_of_lt_of_le hx hp1 (by omega)) (by decide)
    have b0 : x.toNat * 2 ^ k < 2 ^ 32 := Nat.lt_of_lt_of_le (Nat.mul_lt_mul_of_lt_of_le hx hp0 (by omega)) (by decide)
    rw [Nat.mod_eq_of_lt b1, Nat.mod_eq_of_lt b0, Nat.pow_succ, ← Nat.mul_assoc, Nat.pow_one, Nat.mul_div_cancel _ (by omega)]
  simp only [stn]
  rw [one 3 b h (by omega), one 2 b h (by omega), one 1 b h (by omega), one 0 b h (by omega)]
  simp
theorem split4 (c : B32) : c = ((c >>> 4) <<< 4) ^^^ (c &&& 15#32) := by
  refine BitVec.eq_of_getLsbD_eq fun j hj => ?_
  have h15 : (15#32 : B32) = BitVec.ofNat 32 (2 ^ 4 - 1) := rfl
  have hm : (15#32 : B32).getLsbD j = decide (j < 4) := by
    rw [h15, BitVec.getLsbD_ofNat, Nat.testBit_two_pow_sub_one]
    simp [hj]
  rw [BitVec.getLsbD_xor, BitVec.getLsbD_and, hm, BitVec.getLsbD_shiftLeft, BitVec.getLsbD_ushiftRight]
  by_cases h : j < 4
  · simp [h, hj]
  · simp [h, hj, show 4 + (j - 4) = j from by omega]
theorem half_step (c : B32) : stn 4 c = (c >>> 4) ^^^ stn 4 (c &&& 15#32) := by
  have h : (c >>> 4).toNat < 2 ^ 28 := by
    have := c.isLt
    rw [BitVec.toNat_ushiftRight, Nat.shiftRight_eq_div_pow]
    omega
  have e : stn 4 c = stn 4 (((c >>> 4) <<< 4) ^^^ (c &&& 15#32)) := congrArg _ (split4 c)
  rw [e, stn_xor, stn4_up _ h]
/-- What the table holds of each half byte. -/
def tab4 (i : Nat) : B32 := stn 4 (BitVec.ofNat 32 i)
theorem half_step' (c : B32) : stn 4 c = (c >>> 4) ^^^ tab4 (c.toNat % 16) := by
  rw [half_step, tab4]
  congr 2
  apply BitVec.eq_of_toNat_eq
  rw [BitVec.toNat_and, show (15#32 : B32).toNat = 2 ^ 4 - 1 from rfl, Nat.and_two_pow_sub_one_eq_mod, BitVec.toNat_ofNat]
  omega
theorem st8_half (c : B32) : st8 c = stn 4 (stn 4 c) := rfl
end Go.Proofs.Ytgblekdllcngnaa.Crcm
