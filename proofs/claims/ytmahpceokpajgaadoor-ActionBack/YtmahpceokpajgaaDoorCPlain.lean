/- Plain facts on numbers and their bytes, without any program: the digits of a number to the base 256, the number of digits, and that the two lead back to one another. -/
namespace Go.Proofs.YtmahpceokpajgaaDoor.Plain

theorem pow8 (L : Nat) : 2 ^ (L + 8) = 256 * 2 ^ L := by rw [Nat.pow_add]; omega
theorem pow16 (L : Nat) : 2 ^ (L + 16) = 65536 * 2 ^ L := by rw [Nat.pow_add]; omega
theorem pow32 (L : Nat) : 2 ^ (L + 32) = 4294967296 * 2 ^ L := by rw [Nat.pow_add]; omega

/-- L bits are just enough for n. -/
def Fits (n L : Nat) : Prop := n < 2 ^ L ∧ (n = 0 → L = 0) ∧ (0 < n → 2 ^ L ≤ 2 * n)
theorem Fits.up8 {n L : Nat} (h : Fits (n / 256) L) (hn : 256 ≤ n) : Fits n (L + 8) := by
  obtain ⟨h1, _, h3⟩ := h
  have := h3 (by omega)
  refine ⟨by rw [pow8]; omega, by omega, fun _ => by rw [pow8]; omega⟩
theorem Fits.up16 {n L : Nat} (h : Fits (n / 65536) L) (hn : 65536 ≤ n) : Fits n (L + 16) := by
  obtain ⟨h1, _, h3⟩ := h
  have := h3 (by omega)
  refine ⟨by rw [pow16]; omega, by omega, fun _ => by rw [pow16]; omega⟩
theorem Fits.up32 {n L : Nat} (h : Fits (n / 4294967296) L) (hn : 4294967296 ≤ n) : Fits n (L + 32) := by
  obtain ⟨h1, _, h3⟩ := h
  have := h3 (by omega)
  refine ⟨by rw [pow32]; omega, by omega, fun _ => by rw [pow32]; omega⟩
theorem Fits.unique {n L M : Nat} (h : Fits n L) (h' : Fits n M) : L = M := by
  obtain ⟨a1, a2, a3⟩ := h
  obtain ⟨b1, b2, b3⟩ := h'
  rcases Nat.eq_zero_or_pos n with h | h
  · rw [a2 h, b2 h]
  · have c1 := a3 h
    have c2 := b3 h
    rcases Nat.lt_trichotomy L M with e | e | e
    · exfalso
      have h2 : 2 ^ (L + 1) ≤ 2 ^ M := Nat.pow_le_pow_right (by omega) e
      rw [Nat.pow_succ] at h2; omega
    · exact e
    · exfalso
      have h2 : 2 ^ (M + 1) ≤ 2 ^ L := Nat.pow_le_pow_right (by omega) e
      rw [Nat.pow_succ] at h2; omega

/-- The last k digits of n to the base 256, the greatest first. -/
def be : Nat → Nat → List Int
  | 0, _ => []
  | k + 1, n => be k (n / 256) ++ [((n % 256 : Nat) : Int)]
theorem be_length (k n : Nat) : (be k n).length = k := by
  induction k generalizing n with
  | zero => rfl
  | succ k ih => simp [be, ih]
theorem be_byte (k n : Nat) : ∀ z ∈ be k n, 0 ≤ z ∧ z < 256 := by
  induction k generalizing n with
  | zero => intro z hz; cases hz
  | succ k ih =>
    intro z hz
    rcases List.mem_append.1 hz with h | h
    · exact ih _ z h
    · simp at h; omega
theorem be_getElem (k n j : Nat) (h : j < k) : (be k n)[j]?.getD 0 = ((n / 256 ^ (k - 1 - j) % 256 : Nat) : Int) := by
  induction k generalizing n with
  | zero => omega
  | succ k ih =>
    by_cases hj : j < k
    · rw [be, List.getElem?_append_left (by rw [be_length]; exact hj), ih _ hj, Nat.div_div_eq_div_mul]
      have e : k + 1 - 1 - j = (k - 1 - j) + 1 := by omega
      rw [e, Nat.pow_succ, Nat.mul_comm]
    · obtain rfl : j = k := by omega
      rw [be, List.getElem?_append_right (by rw [be_length]; exact Nat.le_refl _), be_length]
      simp
/-- One digit more ahead. -/
theorem be_cons (k n : Nat) : be (k + 1) n = ((n / 256 ^ k % 256 : Nat) : Int) :: be k n := by
  induction k generalizing n with
  | zero => simp [be]
  | succ k ih =>
    rw [be, ih, be]
    rw [Nat.div_div_eq_div_mul, Nat.pow_succ, Nat.mul_comm 256]
    rfl

/-- The number of digits. -/
def val (l : List Int) : Int := l.foldl (fun a d => 256 * a + d) 0
theorem val_snoc (l : List Int) (d : Int) : val (l ++ [d]) = 256 * val l + d := by simp [val]
theorem fold_bd (l : List Int) (h : ∀ z ∈ l, 0 ≤ z ∧ z < 256) : ∀ a : Int, 0 ≤ a → 0 ≤ l.foldl (fun a d => 256 * a + d) a ∧ l.foldl (fun a d => 256 * a + d) a < (a + 1) * 256 ^ l.length := by
  induction l with
  | nil => intro a ha; simp; omega
  | cons d l ih =>
    intro a ha
    have hd := h d (by simp)
    have := ih (fun z hz => h z (by simp [hz])) (256 * a + d) (by omega)
    refine ⟨this.1, Int.lt_of_lt_of_le this.2 ?_⟩
    rw [List.length_cons, Int.pow_succ, ← Int.mul_assoc, Int.mul_right_comm]
    exact Int.mul_le_mul_of_nonneg_right (by omega) (Int.le_of_lt (Int.pow_pos (by decide)))
theorem val_bd (l : List Int) (h : ∀ z ∈ l, 0 ≤ z ∧ z < 256) : 0 ≤ val l ∧ val l < 256 ^ l.length := by
  have := fold_bd l h 0 (by omega)
  simpa [val] using this
theorem val_be (k n : Nat) (h : n < 256 ^ k) : val (be k n) = n := by
  induction k generalizing n with
  | zero => simp at h; subst h; rfl
  | succ k ih =>
    rw [be, val_snoc, ih _ (by rw [Nat.pow_succ] at h; omega)]
    omega


/-- How many bytes a number has. -/
def nb (n : Nat) : Nat := if n = 0 then 0 else n.log2 / 8 + 1
theorem fits_log (n : Nat) (h : 0 < n) : Fits n (n.log2 + 1) :=
  ⟨Nat.lt_log2_self, by omega, fun _ => by rw [Nat.pow_succ]; have := Nat.log2_self_le (n := n) (by omega); omega⟩
theorem nb_of_fits {n L : Nat} (h : Fits n L) : (L + 7) / 8 = nb n := by
  unfold nb
  split
  · next h0 => rw [h.2.1 h0]
  · next h0 => rw [h.unique (fits_log n (by omega))]; omega
theorem pow256 (k : Nat) : 256 ^ k = 2 ^ (8 * k) := by rw [Nat.pow_mul]
theorem lt_nb (n : Nat) : n < 256 ^ nb n := by
  unfold nb
  split
  · next h => subst h; decide
  · rw [pow256]
    exact Nat.lt_of_lt_of_le (Nat.lt_log2_self (n := n)) (Nat.pow_le_pow_right (by omega) (by omega))
theorem nb_le {n : Nat} (h : 0 < n) : 256 ^ (nb n - 1) ≤ n := by
  unfold nb
  rw [if_neg (by omega), Nat.add_sub_cancel, pow256]
  exact Nat.le_trans (Nat.pow_le_pow_right (by omega) (by omega)) (Nat.log2_self_le (n := n) (by omega))
theorem nb_pos {n : Nat} (h : 0 < n) : 0 < nb n := by unfold nb; rw [if_neg (by omega)]; omega
theorem nb_zero : nb 0 = 0 := rfl
theorem nb_mono {n m : Nat} (h : n ≤ m) : nb n ≤ nb m := by
  rcases Nat.eq_zero_or_pos n with h0 | h0
  · subst h0; exact Nat.zero_le _
  · have h1 := nb_le h0
    have h2 := lt_nb m
    rcases Nat.lt_or_ge (nb m) (nb n) with h3 | h3
    · have : 256 ^ nb m ≤ 256 ^ (nb n - 1) := Nat.pow_le_pow_right (by omega) (by omega)
      omega
    · exact h3
theorem nb_8 {n : Nat} (h : n < 18446744073709551616) : nb n ≤ 8 := by
  have := nb_mono (n := n) (m := 18446744073709551615) (by omega)
  exact Nat.le_trans this (by decide +kernel)
theorem nb_unique {n k : Nat} (h : n < 256 ^ k) (h' : 0 < n → 256 ^ (k - 1) ≤ n) (h0 : n = 0 → k = 0) : k = nb n := by
  rcases Nat.eq_zero_or_pos n with e | e
  · rw [h0 e, e]; rfl
  · have h1 := h' e
    have h2 := nb_le e
    have h3 := lt_nb n
    have h4 := nb_pos e
    rcases Nat.lt_trichotomy k (nb n) with c | c | c
    · have : 256 ^ k ≤ 256 ^ (nb n - 1) := Nat.pow_le_pow_right (by omega) (by omega)
      omega
    · exact c
    · have : 256 ^ nb n ≤ 256 ^ (k - 1) := Nat.pow_le_pow_right (by omega) (by omega)
      omega
/-- A number's bytes. -/
def enc (n : Nat) : List Int := be (nb n) n
theorem enc_length (n : Nat) : (enc n).length = nb n := be_length _ _
theorem enc_byte (n : Nat) : ∀ z ∈ enc n, 0 ≤ z ∧ z < 256 := be_byte _ _
theorem val_enc (n : Nat) : val (enc n) = n := val_be _ _ (lt_nb n)
theorem enc_inj {n m : Nat} (h : enc n = enc m) : n = m := by
  have := val_enc n; rw [h, val_enc] at this; omega
/-- The first byte is not 0. -/
theorem enc_head {n : Nat} (h : 0 < n) : (enc n)[0]?.getD 0 ≠ 0 := by
  have hp := nb_pos h
  unfold enc
  rw [be_getElem _ _ _ hp, Nat.sub_zero]
  have h1 := nb_le h
  have h2 := lt_nb n
  have e : nb n = (nb n - 1) + 1 := by omega
  rw [e, Nat.pow_succ] at h2
  have h3 : n / 256 ^ (nb n - 1) < 256 := Nat.div_lt_of_lt_mul h2
  have h4 : 0 < n / 256 ^ (nb n - 1) := Nat.div_pos h1 (Nat.pow_pos (by omega))
  rw [Nat.mod_eq_of_lt h3]
  omega

end Go.Proofs.YtmahpceokpajgaaDoor.Plain
