/- Plain facts on check sums, without any program: one bit's step, one byte's, their linearity, noughts, pieces, and that up to four bytes beside one another tell. -/
namespace Go.Proofs.Ytgblekdllcngnaa.Crcm

abbrev B32 := BitVec 32
/-- The polynomial, mirrored. -/
def poly : B32 := 0xEDB88320#32
def ones : B32 := 0xFFFFFFFF#32
/-- One bit's step. -/
def st (c : B32) : B32 := if c.getLsbD 0 then (c >>> 1) ^^^ poly else c >>> 1
def st8 (c : B32) : B32 := st (st (st (st (st (st (st (st c)))))))
/-- One byte. -/
def upd (c : B32) (b : BitVec 8) : B32 := st8 (c ^^^ b.setWidth 32)
def raw (c : B32) (bs : List (BitVec 8)) : B32 := bs.foldl upd c
def more (s : B32) (bs : List (BitVec 8)) : B32 := raw (s ^^^ ones) bs ^^^ ones
def sum (bs : List (BitVec 8)) : B32 := more 0#32 bs

theorem xlc (a b c : B32) : a ^^^ (b ^^^ c) = b ^^^ (a ^^^ c) := by rw [← BitVec.xor_assoc, BitVec.xor_comm a b, BitVec.xor_assoc]
theorem xss (a b : B32) : a ^^^ (a ^^^ b) = b := by rw [← BitVec.xor_assoc, BitVec.xor_self, BitVec.zero_xor]
theorem xr (a b : B32) : (a ^^^ b) ^^^ b = a := by rw [BitVec.xor_assoc, BitVec.xor_self, BitVec.xor_zero]
theorem xor_inj {a b c : B32} (h : a ^^^ c = b ^^^ c) : a = b := by rw [← xr a c, h, xr]

theorem st_zero : st 0#32 = 0#32 := by decide
theorem st_xor (a b : B32) : st (a ^^^ b) = st a ^^^ st b := by
  unfold st
  have hs : (a ^^^ b) >>> 1 = (a >>> 1) ^^^ (b >>> 1) := BitVec.ushiftRight_xor_distrib ..
  have hb : (a ^^^ b).getLsbD 0 = (a.getLsbD 0 ^^ b.getLsbD 0) := BitVec.getLsbD_xor
  rw [hs, hb]
  cases a.getLsbD 0 <;> cases b.getLsbD 0 <;> simp [BitVec.xor_assoc, BitVec.xor_comm, xlc, xss]
theorem st8_xor (a b : B32) : st8 (a ^^^ b) = st8 a ^^^ st8 b := by simp only [st8, st_xor]
theorem st8_zero : st8 0#32 = 0#32 := by simp only [st8, st_zero]

/-- The top bit of a step is the bit that went. -/
theorem st_top (c : B32) : (st c).getLsbD 31 = c.getLsbD 0 := by
  unfold st
  have hp : poly.getLsbD 31 = true := by decide
  cases hc : c.getLsbD 0
  · simp
  · simp [hp]
theorem st_inj {a b : B32} (h : st a = st b) : a = b := by
  have h0 : a.getLsbD 0 = b.getLsbD 0 := by rw [← st_top a, ← st_top b, h]
  have h1 : a >>> 1 = b >>> 1 := by
    unfold st at h
    rw [h0] at h
    cases hb : b.getLsbD 0
    · rw [hb, if_neg (by decide), if_neg (by decide)] at h; exact h
    · rw [hb, if_pos rfl, if_pos rfl] at h; exact xor_inj h
  refine BitVec.eq_of_getLsbD_eq fun i hi => ?_
  cases i with
  | zero => exact h0
  | succ i =>
    have := congrArg (fun x => x.getLsbD i) h1
    simp only [BitVec.getLsbD_ushiftRight] at this
    rwa [Nat.add_comm] at this
theorem st8_inj {a b : B32} (h : st8 a = st8 b) : a = b := st_inj (st_inj (st_inj (st_inj (st_inj (st_inj (st_inj (st_inj h)))))))

theorem raw_nil (c : B32) : raw c [] = c := rfl
theorem raw_cons (c : B32) (b : BitVec 8) (bs : List (BitVec 8)) : raw c (b :: bs) = raw (upd c b) bs := rfl
theorem raw_append (c : B32) (xs ys : List (BitVec 8)) : raw c (xs ++ ys) = raw (raw c xs) ys := List.foldl_append
theorem raw_snoc (c : B32) (xs : List (BitVec 8)) (b : BitVec 8) : raw c (xs ++ [b]) = upd (raw c xs) b := raw_append ..
theorem more_more (s : B32) (xs ys : List (BitVec 8)) : more (more s xs) ys = more s (xs ++ ys) := by unfold more; rw [xr, raw_append]
theorem more_nil (s : B32) : more s [] = s := xr s ones
theorem sum_nil : sum [] = 0#32 := more_nil _
theorem sum_append (xs ys : List (BitVec 8)) : sum (xs ++ ys) = more (sum xs) ys := (more_more _ _ _).symm

/-- Noughts behind. -/
def z : Nat → B32 → B32
  | 0, c => c
  | n + 1, c => z n (st8 c)
theorem z_zero (n : Nat) : z n 0#32 = 0#32 := by
  induction n with
  | zero => rfl
  | succ n ih => rw [z, st8_zero, ih]
theorem z_xor (n : Nat) (a b : B32) : z n (a ^^^ b) = z n a ^^^ z n b := by
  induction n generalizing a b with
  | zero => rfl
  | succ n ih => rw [z, z, z, st8_xor, ih]
theorem z_add (n m : Nat) (c : B32) : z (n + m) c = z m (z n c) := by
  induction n generalizing c with
  | zero => rw [Nat.zero_add]; rfl
  | succ n ih => rw [show n + 1 + m = (n + m) + 1 from by omega, z, ih, z]
theorem z_succ' (n : Nat) (c : B32) : z (n + 1) c = st8 (z n c) := by rw [z_add]; rfl
theorem z_inj {n : Nat} {a b : B32} (h : z n a = z n b) : a = b := by
  induction n generalizing a b with
  | zero => exact h
  | succ n ih => exact st8_inj (ih h)
theorem upd_zero (c : B32) : upd c 0#8 = st8 c := by unfold upd; simp
theorem raw_noughts (n : Nat) (c : B32) : raw c (List.replicate n 0#8) = z n c := by
  induction n generalizing c with
  | zero => rfl
  | succ n ih => rw [List.replicate_succ, raw_cons, upd_zero, ih, z]
/-- Bytes behind: what was there ahead moves on as by noughts. -/
theorem raw_split (c d : B32) (bs : List (BitVec 8)) : raw (c ^^^ d) bs = z bs.length c ^^^ raw d bs := by
  induction bs generalizing c d with
  | nil => rfl
  | cons b bs ih =>
    rw [raw_cons, raw_cons, List.length_cons, z]
    have : upd (c ^^^ d) b = st8 c ^^^ upd d b := by unfold upd; rw [BitVec.xor_assoc, st8_xor]
    rw [this, ih]
theorem raw_zero (c : B32) (bs : List (BitVec 8)) : raw c bs = z bs.length c ^^^ raw 0#32 bs := by
  have := raw_split c 0#32 bs
  rwa [BitVec.xor_zero] at this
/-- What Noughts answers. -/
def noughts (s : B32) (n : Nat) : B32 := z n (s ^^^ ones) ^^^ ones
theorem noughts_more (s : B32) (n : Nat) : noughts s n = more s (List.replicate n 0#8) := by unfold noughts more; rw [raw_noughts]
theorem noughts_zero (s : B32) : noughts s 0 = s := xr s ones
theorem noughts_add (s : B32) (n m : Nat) : noughts (noughts s n) m = noughts s (n + m) := by unfold noughts; rw [xr, z_add]
/-- What Join answers. -/
def join (a b : B32) (n : Nat) : B32 := z n a ^^^ b
theorem more_join (s : B32) (ys : List (BitVec 8)) : more s ys = join s (sum ys) ys.length := by
  unfold join sum more
  rw [raw_split s ones ys, BitVec.zero_xor, BitVec.xor_assoc]
theorem sum_join (xs ys : List (BitVec 8)) : sum (xs ++ ys) = join (sum xs) (sum ys) ys.length := by rw [sum_append, more_join]
theorem join_join (a b c : B32) (n m : Nat) : join (join a b n) c m = join a (join b c m) (n + m) := by
  unfold join; rw [z_xor, z_add, BitVec.xor_assoc]

/-- Three lists of as many bytes. -/
theorem raw_three (a b c : B32) : ∀ (xs ys zs : List (BitVec 8)), xs.length = ys.length → ys.length = zs.length →
    raw (a ^^^ b ^^^ c) (List.zipWith (fun p q => p ^^^ q) (List.zipWith (fun p q => p ^^^ q) xs ys) zs) = raw a xs ^^^ raw b ys ^^^ raw c zs
  | [], [], [], _, _ => rfl
  | x :: xs, y :: ys, v :: zs, h1, h2 => by
    simp only [List.zipWith_cons_cons, raw_cons]
    have hs : (x ^^^ y ^^^ v).setWidth 32 = x.setWidth 32 ^^^ y.setWidth 32 ^^^ v.setWidth 32 := by rw [BitVec.setWidth_xor, BitVec.setWidth_xor]
    have : upd (a ^^^ b ^^^ c) (x ^^^ y ^^^ v) = upd a x ^^^ upd b y ^^^ upd c v := by
      unfold upd
      rw [hs, ← st8_xor, ← st8_xor]
      congr 1
      ac_rfl
    rw [this]
    exact raw_three _ _ _ xs ys zs (by simpa using h1) (by simpa using h2)
theorem sum_three (xs ys zs : List (BitVec 8)) (h1 : xs.length = ys.length) (h2 : ys.length = zs.length) :
    sum xs ^^^ sum ys ^^^ sum zs = sum (List.zipWith (fun p q => p ^^^ q) (List.zipWith (fun p q => p ^^^ q) xs ys) zs) := by
  have h := raw_three ones ones ones xs ys zs h1 h2
  have e : ones ^^^ ones ^^^ ones = ones := by decide
  rw [e] at h
  unfold sum more
  rw [BitVec.zero_xor, h]
  have e2 : ∀ p q r : B32, (p ^^^ ones) ^^^ (q ^^^ ones) ^^^ (r ^^^ ones) = (p ^^^ q ^^^ r) ^^^ ones := by
    intro p q r
    have : (p ^^^ ones) ^^^ (q ^^^ ones) ^^^ (r ^^^ ones) = (p ^^^ q ^^^ r) ^^^ (ones ^^^ ones ^^^ ones) := by ac_rfl
    rw [this, e]
  exact e2 _ _ _

/-- A byte that is moved up by eight comes down again by a byte's step. -/
theorem st8_up (b : B32) (h : b.toNat < 2 ^ 24) : st8 (b <<< 8) = b := by
  have one : ∀ (k : Nat) (x : B32), x.toNat < 2 ^ 24 → k < 8 → st (x <<< (k + 1)) = x <<< k := by
    intro k x hx hk
    unfold st
    have h0 : (x <<< (k + 1)).getLsbD 0 = false := by simp
    rw [h0, if_neg (by decide)]
    apply BitVec.eq_of_toNat_eq
    have hp1 : 2 ^ (k + 1) ≤ 2 ^ 8 := Nat.pow_le_pow_right (by omega) (by omega)
    have hp0 : 2 ^ k ≤ 2 ^ 8 := Nat.pow_le_pow_right (by omega) (by omega)
    rw [BitVec.toNat_ushiftRight, BitVec.toNat_shiftLeft, BitVec.toNat_shiftLeft, Nat.shiftLeft_eq, Nat.shiftLeft_eq, Nat.shiftRight_eq_div_pow]
    have b1 : x.toNat * 2 ^ (k + 1) < 2 ^ 32 := Nat.lt_of_lt_of_le (Nat.mul_lt_mul_of_lt_of_le hx hp1 (by omega)) (by decide)
    have b0 : x.toNat * 2 ^ k < 2 ^ 32 := Nat.lt_of_lt_of_le (Nat.mul_lt_mul_of_lt_of_le hx hp0 (by omega)) (by decide)
    rw [Nat.mod_eq_of_lt b1, Nat.mod_eq_of_lt b0, Nat.pow_succ, ← Nat.mul_assoc, Nat.pow_one, Nat.mul_div_cancel _ (by omega)]
  unfold st8
  rw [one 7 b h (by omega), one 6 b h (by omega), one 5 b h (by omega), one 4 b h (by omega), one 3 b h (by omega), one 2 b h (by omega), one 1 b h (by omega), one 0 b h (by omega)]
  simp

/-- Bytes, the first one lowest. -/
def le : List (BitVec 8) → B32
  | [] => 0#32
  | b :: bs => b.setWidth 32 ^^^ (le bs <<< 8)
theorem le_lt : ∀ (bs : List (BitVec 8)), (le bs).toNat < 2 ^ (8 * bs.length)
  | [] => by decide
  | b :: bs => by
    have ih := le_lt bs
    rw [le, BitVec.toNat_xor, List.length_cons, show 8 * (bs.length + 1) = 8 * bs.length + 8 from by omega]
    have hp : 2 ^ (8 * bs.length + 8) = 2 ^ (8 * bs.length) * 256 := by rw [Nat.pow_add]
    refine Nat.xor_lt_two_pow ?_ ?_
    · rw [BitVec.toNat_setWidth]
      have h1 := b.isLt
      have h2 : 0 < 2 ^ (8 * bs.length) := Nat.pow_pos (by omega)
      have h3 := Nat.mod_le b.toNat (2 ^ 32)
      omega
    · rw [BitVec.toNat_shiftLeft, Nat.shiftLeft_eq]
      have h3 := Nat.mod_le ((le bs).toNat * 2 ^ 8) (2 ^ 32)
      omega
theorem le_24 {bs : List (BitVec 8)} (h : bs.length ≤ 3) : (le bs).toNat < 2 ^ 24 :=
  Nat.lt_of_lt_of_le (le_lt bs) (Nat.pow_le_pow_right (by omega) (by omega))
theorem raw_le : ∀ (bs : List (BitVec 8)) (c : B32), bs.length ≤ 4 → raw c bs = z bs.length (c ^^^ le bs)
  | [], c, _ => by rw [le, BitVec.xor_zero]; rfl
  | b :: bs, c, h => by
    rw [List.length_cons] at h
    rw [raw_cons, raw_le bs _ (by omega), List.length_cons, z, le]
    congr 1
    unfold upd
    have e : st8 (c ^^^ (b.setWidth 32 ^^^ le bs <<< 8)) = st8 (c ^^^ b.setWidth 32) ^^^ st8 (le bs <<< 8) := by rw [← st8_xor, BitVec.xor_assoc]
    rw [e, st8_up _ (le_24 (by omega))]
theorem le_low (b : BitVec 8) (x : B32) : (b.setWidth 32 ^^^ (x <<< 8)).setWidth 8 = b := by
  refine BitVec.eq_of_getLsbD_eq fun i hi => ?_
  simp [hi]
theorem le_inj : ∀ {bs cs : List (BitVec 8)}, bs.length = cs.length → bs.length ≤ 4 → le bs = le cs → bs = cs
  | [], [], _, _, _ => rfl
  | b :: bs, c :: cs, hl, h4, h => by
    simp only [List.length_cons] at hl h4
    have h0 : b = c := by
      have := congrArg (fun x : B32 => x.setWidth 8) h
      simp only [le] at this
      rwa [le_low, le_low] at this
    subst h0
    simp only [le] at h
    have h1 : le bs <<< 8 = le cs <<< 8 := by
      have := congrArg (fun x => b.setWidth 32 ^^^ x) h
      simpa only [xss] using this
    have h2 : le bs = le cs := by rw [← st8_up (le bs) (le_24 (by omega)), h1, st8_up _ (le_24 (by omega))]
    rw [le_inj (by omega) (by omega) h2]
theorem raw_inj {c d : B32} {bs : List (BitVec 8)} (h : raw c bs = raw d bs) : c = d := by
  rw [raw_zero c, raw_zero d] at h
  exact z_inj (xor_inj h)
/-- Up to four bytes beside one another tell. -/
theorem burst (p q xs ys : List (BitVec 8)) (hl : xs.length = ys.length) (h4 : xs.length ≤ 4) : sum (p ++ xs ++ q) = sum (p ++ ys ++ q) ↔ xs = ys := by
  refine ⟨fun h => ?_, fun h => by rw [h]⟩
  unfold sum more at h
  have h1 := xor_inj h
  rw [raw_append, raw_append, raw_append, raw_append] at h1
  have h2 := raw_inj h1
  rw [raw_le xs _ h4, raw_le ys _ (by omega), hl] at h2
  have h3 := z_inj h2
  rw [BitVec.xor_comm _ (le xs), BitVec.xor_comm _ (le ys)] at h3
  exact le_inj hl h4 (xor_inj h3)
end Go.Proofs.Ytgblekdllcngnaa.Crcm

/- Plain facts on the program's ways to reckon check sums: products of remainders bit by bit, powers by squaring, and half bytes by a table. -/
namespace Go.Proofs.Ytgblekdllcngnaa.Crcm

/-- k bits' steps. -/
def stn : Nat → B32 → B32
  | 0, c => c
  | k + 1, c => st (stn k c)
theorem stn_xor (k : Nat) (a b : B32) : stn k (a ^^^ b) = stn k a ^^^ stn k b := by
  induction k with
  | zero => rfl
  | succ k ih => rw [stn, stn, stn, ih, st_xor]
theorem stn_zero (k : Nat) : stn k 0#32 = 0#32 := by
  induction k with
  | zero => rfl
  | succ k ih => rw [stn, ih, st_zero]
theorem stn_st (k : Nat) (c : B32) : stn k (st c) = st (stn k c) := by
  induction k with
  | zero => rfl
  | succ k ih => rw [stn, stn, ih]
theorem st8_stn (c : B32) : st8 c = stn 8 c := rfl

/-- The product, the first k bits of the first factor. -/
def mulTo (a b : B32) : Nat → B32
  | 0 => 0#32
  | k + 1 => mulTo a b k ^^^ (if a.getLsbD (31 - k) then stn k b else 0#32)
def mul (a b : B32) : B32 := mulTo a b 32
theorem mulTo_st (a b : B32) (k : Nat) : mulTo a (st b) k = st (mulTo a b k) := by
  induction k with
  | zero => exact st_zero.symm
  | succ k ih =>
    rw [mulTo, mulTo, st_xor, ih]
    congr 1
    split
    · exact stn_st k b
    · exact st_zero.symm
theorem mul_st (a b : B32) : mul a (st b) = st (mul a b) := mulTo_st a b 32
theorem mul_st8 (a b : B32) : mul a (st8 b) = st8 (mul a b) := by simp only [st8, mul_st]
theorem mul_z (n : Nat) (a b : B32) : mul a (z n b) = z n (mul a b) := by
  induction n generalizing b with
  | zero => rfl
  | succ n ih => rw [z, z, ih, mul_st8]

/-- One. -/
def un : B32 := 0x80000000#32
theorem stn_un : ∀ k : Fin 32, stn k.val un = BitVec.twoPow 32 (31 - k.val) := by decide +kernel
theorem mulTo_un (a : B32) (k : Nat) (hk : k ≤ 32) : ∀ j, j < 32 → (mulTo a un k).getLsbD j = (decide (32 - k ≤ j) && a.getLsbD j) := by
  induction k with
  | zero => intro j hj; simp [mulTo]; omega
  | succ k ih =>
    intro j hj
    rw [mulTo, BitVec.getLsbD_xor, ih (by omega) j hj]
    have e := stn_un ⟨k, by omega⟩
    simp only at e
    rw [e]
    by_cases h : j = 31 - k
    · subst h
      rw [show decide (32 - k ≤ 31 - k) = false from by simp; omega, show decide (32 - (k + 1) ≤ 31 - k) = true from by simp]
      cases a.getLsbD (31 - k)
      · simp
      · simp [hj]
    · have h1 : decide (32 - (k + 1) ≤ j) = decide (32 - k ≤ j) := by
        rw [Bool.eq_iff_iff]; simp only [decide_eq_true_eq]; omega
      rw [h1]
      cases a.getLsbD (31 - k)
      · simp
      · simp only [if_true, BitVec.getLsbD_twoPow]
        rw [show decide (31 - k = j) = false from by simp; omega]
        simp
theorem mul_un (a : B32) : mul a un = a := by
  refine BitVec.eq_of_getLsbD_eq fun j hj => ?_
  rw [mul, mulTo_un a 32 (Nat.le_refl _) j hj]
  simp
/-- Times a power of noughts. -/
theorem mul_pow (a : B32) (n : Nat) : mul a (z n un) = z n a := by rw [mul_z, mul_un]
theorem pow_mul_pow (n m : Nat) : mul (z n un) (z m un) = z (n + m) un := by rw [mul_pow, z_add]
theorem pow_one : z 1 un = 0x800000#32 := by decide +kernel

/-- Half a byte's steps, by its low half. -/
theorem stn4_up (b : B32) (h : b.toNat < 2 ^ 28) : stn 4 (b <<< 4) = b := by
  have one : ∀ (k : Nat) (x : B32), x.toNat < 2 ^ 28 → k < 4 → st (x <<< (k + 1)) = x <<< k := by
    intro k x hx hk
    unfold st
    have h0 : (x <<< (k + 1)).getLsbD 0 = false := by simp
    rw [h0, if_neg (by decide)]
    apply BitVec.eq_of_toNat_eq
    have hp1 : 2 ^ (k + 1) ≤ 2 ^ 4 := Nat.pow_le_pow_right (by omega) (by omega)
    have hp0 : 2 ^ k ≤ 2 ^ 4 := Nat.pow_le_pow_right (by omega) (by omega)
    rw [BitVec.toNat_ushiftRight, BitVec.toNat_shiftLeft, BitVec.toNat_shiftLeft, Nat.shiftLeft_eq, Nat.shiftLeft_eq, Nat.shiftRight_eq_div_pow]
    have b1 : x.toNat * 2 ^ (k + 1) < 2 ^ 32 := Nat.lt_of_lt_of_le (Nat.mul_lt_mul_of_lt_of_le hx hp1 (by omega)) (by decide)
    have b0 : x.toNat * 2 ^ k < 2 ^ 32 := Nat.lt_of_lt_of_le (Nat.mul_lt_mul_of_lt_of_le hx hp0 (by omega)) (by decide)
    rw [Nat.mod_eq_of_lt b1, Nat.mod_eq_of_lt b0, Nat.pow_succ, ← Nat.mul_assoc, Nat.pow_one, Nat.mul_div_cancel _ (by omega)]
  simp only [stn]
  rw [one 3 b h (by omega), one 2 b h (by omega), one 1 b h (by omega), one 0 b h (by omega)]
  simp
theorem split4 (c : B32) : c = ((c >>> 4) <<< 4) ^^^ (c &&& 15#32) := by
  refine BitVec.eq_of_getLsbD_eq fun j hj => ?_
  have h15 : (15#32 : B32) = BitVec.ofNat 32 (2 ^ 4 - 1) := rfl
  have hm : (15#32 : B32).getLsbD j = decide (j < 4) := by
    rw [h15, BitVec.getLsbD_ofNat, Nat.testBit_two_pow_sub_one]
    simp [hj]
  rw [BitVec.getLsbD_xor, BitVec.getLsbD_and, hm, BitVec.getLsbD_shiftLeft, BitVec.getLsbD_ushiftRight]
  by_cases h : j < 4
  · simp [h, hj]
  · simp [h, hj, show 4 + (j - 4) = j from by omega]
theorem half_step (c : B32) : stn 4 c = (c >>> 4) ^^^ stn 4 (c &&& 15#32) := by
  have h : (c >>> 4).toNat < 2 ^ 28 := by
    have := c.isLt
    rw [BitVec.toNat_ushiftRight, Nat.shiftRight_eq_div_pow]
    omega
  have e : stn 4 c = stn 4 (((c >>> 4) <<< 4) ^^^ (c &&& 15#32)) := congrArg _ (split4 c)
  rw [e, stn_xor, stn4_up _ h]
/-- What the table holds of each half byte. -/
def tab4 (i : Nat) : B32 := stn 4 (BitVec.ofNat 32 i)
theorem half_step' (c : B32) : stn 4 c = (c >>> 4) ^^^ tab4 (c.toNat % 16) := by
  rw [half_step, tab4]
  congr 2
  apply BitVec.eq_of_toNat_eq
  rw [BitVec.toNat_and, show (15#32 : B32).toNat = 2 ^ 4 - 1 from rfl, Nat.and_two_pow_sub_one_eq_mod, BitVec.toNat_ofNat]
  omega
theorem st8_half (c : B32) : st8 c = stn 4 (stn 4 c) := rfl
end Go.Proofs.Ytgblekdllcngnaa.Crcm
