/- Where a timer stands: the greatest place at which two ticks have unlike figures, and what a leap of the clock does to it. Plain facts, no program. -/
import Derived.Test.YtlljfgpmjpmoiaaOrd
namespace Go.Proofs.Ytlljfgpmjpmoiaa
set_option linter.unusedVariables false
/-- The greatest place at which a and b have unlike figures to the base 16 is k. -/
def IsLv (a b k : Nat) : Prop := a / 16 ^ k ≠ b / 16 ^ k ∧ a / 16 ^ (k + 1) = b / 16 ^ (k + 1)
theorem div_up {a b k : Nat} (h : a / 16 ^ k = b / 16 ^ k) : ∀ j, k ≤ j → a / 16 ^ j = b / 16 ^ j := by
  intro j hj
  obtain ⟨i, rfl⟩ := Nat.exists_eq_add_of_le hj
  rw [Nat.pow_add, ← Nat.div_div_eq_div_mul, ← Nat.div_div_eq_div_mul, h]
theorem IsLv.eq {a b k j : Nat} (h : IsLv a b k) (h' : IsLv a b j) : k = j := by
  rcases Nat.lt_trichotomy k j with hl | hl | hl
  · exact absurd (div_up h.2 j (by omega)) h'.1
  · exact hl
  · exact absurd (div_up h'.2 k (by omega)) h.1
theorem IsLv.symm {a b k : Nat} (h : IsLv a b k) : IsLv b a k := ⟨Ne.symm h.1, h.2.symm⟩
/-- Of two ticks that are not the same there is one. -/
theorem exists_lv {a b : Nat} (ha : a < 16 ^ 16) (hb : b < 16 ^ 16) (hne : a ≠ b) : ∃ k, k < 16 ∧ IsLv a b k := by
  have h : ∀ n, a / 16 ^ n = b / 16 ^ n → ∃ k, k < n ∧ IsLv a b k := by
    intro n
    induction n with
    | zero => intro h; simp at h; exact absurd h hne
    | succ n ih =>
      intro h
      by_cases hn : a / 16 ^ n = b / 16 ^ n
      · obtain ⟨k, hk, hl⟩ := ih hn
        exact ⟨k, by omega, hl⟩
      · exact ⟨n, by omega, hn, h⟩
  exact h 16 (by rw [Nat.div_eq_of_lt ha, Nat.div_eq_of_lt hb])
/-- Looked for from above. -/
def lvN (a b : Nat) : Nat → Nat
  | 0 => 0
  | n + 1 => if a / 16 ^ n ≠ b / 16 ^ n then n else lvN a b n
def lv (a b : Nat) : Nat := lvN a b 16
theorem lvN_is {a b : Nat} (hne : a ≠ b) : ∀ n, a / 16 ^ n = b / 16 ^ n → IsLv a b (lvN a b n)
  | 0, h => by simp at h; exact absurd h hne
  | n + 1, h => by
    unfold lvN
    split
    · rename_i hn; exact ⟨hn, h⟩
    · rename_i hn; exact lvN_is hne n (by simpa using hn)
theorem lv_is {a b : Nat} (ha : a < 16 ^ 16) (hb : b < 16 ^ 16) (hne : a ≠ b) : IsLv a b (lv a b) := lvN_is hne 16 (by rw [Nat.div_eq_of_lt ha, Nat.div_eq_of_lt hb])
theorem lv_eq {a b k : Nat} (ha : a < 16 ^ 16) (hb : b < 16 ^ 16) (h : IsLv a b k) : lv a b = k := (lv_is ha hb (fun e => h.1 (by rw [e]))).eq h
theorem lv_lt {a b : Nat} (ha : a < 16 ^ 16) (hb : b < 16 ^ 16) (hne : a ≠ b) : lv a b < 16 := by
  obtain ⟨k, hk, h⟩ := exists_lv ha hb hne
  rw [lv_eq ha hb h]
  exact hk
/-- A figure. -/
def fg (a k : Nat) : Nat := a / 16 ^ k % 16
theorem fg_lt (a k : Nat) : fg a k < 16 := Nat.mod_lt _ (by omega)
theorem div_fg (a k : Nat) : a / 16 ^ k = a / 16 ^ (k + 1) * 16 + fg a k := by
  unfold fg
  rw [Nat.pow_succ, ← Nat.div_div_eq_div_mul]
  omega
/-- Where a timer stands: 16 places a level, 64: far. -/
def pl (now a : Nat) : Nat := 16 * lv a now + fg a (lv a now)
def plc (now a : Nat) : Nat := min 64 (pl now a)
theorem lt_of_div {a b k : Nat} (h : a / 16 ^ k < b / 16 ^ k) : a < b := by
  rcases Nat.lt_or_ge a b with hl | hl
  · exact hl
  · have := Nat.div_le_div_right (c := 16 ^ k) hl
    omega
theorem div_lt_of {a b k : Nat} (hl : a < b) (h : a / 16 ^ k ≠ b / 16 ^ k) : a / 16 ^ k < b / 16 ^ k := by
  have := Nat.div_le_div_right (c := 16 ^ k) (Nat.le_of_lt hl)
  omega
section
variable {n m a b : Nat}
/-- What stands behind the place that the clock comes to, is not due, and stands as it stood. -/
theorem leap_stays (hn : n < 16 ^ 16) (hm : m < 16 ^ 16) (ha : a < 16 ^ 16) (hnm : n < m) (hna : n < a) (h : pl n m < pl n a) : m < a ∧ pl m a = pl n a := by
  have h1 := lv_is hm hn (by omega)
  have h2 := lv_is ha hn (by omega)
  unfold pl at h
  have f1 := fg_lt m (lv m n)
  have f2 := fg_lt a (lv a n)
  revert h
  generalize hk : lv m n = k at *
  generalize hj : lv a n = j at *
  intro h
  have hkj : k ≤ j := by omega
  have key : IsLv a m j ∧ m / 16 ^ j < a / 16 ^ j := by
    rcases Nat.lt_or_ge k j with hl | hl
    · have e1 : m / 16 ^ j = n / 16 ^ j := div_up h1.2 j (by omega)
      have e2 : m / 16 ^ (j + 1) = n / 16 ^ (j + 1) := div_up h1.2 (j + 1) (by omega)
      refine ⟨⟨by rw [e1]; exact h2.1, by rw [e2]; exact h2.2⟩, ?_⟩
      rw [e1]
      exact div_lt_of hna (Ne.symm h2.1)
    · have e : k = j := by omega
      subst e
      have hf : fg m k < fg a k := by omega
      have d1 := div_fg m k
      have d2 := div_fg a k
      have e2 : m / 16 ^ (k + 1) = a / 16 ^ (k + 1) := h1.2.trans h2.2.symm
      rw [e2] at d1
      exact ⟨⟨by omega, e2.symm⟩, by omega⟩
  refine ⟨lt_of_div key.2, ?_⟩
  unfold pl
  rw [lv_eq ha hm key.1, hj]
/-- What stands at a lower place is due ahead. -/
theorem pl_ahead (hn : n < 16 ^ 16) (ha : a < 16 ^ 16) (hb : b < 16 ^ 16) (hna : n < a) (hnb : n < b) (h : pl n a < pl n b) : a < b := (leap_stays hn ha hb hna hnb h).1
theorem plc_ahead (hn : n < 16 ^ 16) (ha : a < 16 ^ 16) (hb : b < 16 ^ 16) (hna : n < a) (hnb : n < b) (h : plc n a < plc n b) : a < b := pl_ahead hn ha hb hna hnb (by unfold plc at h; omega)
theorem plc_lt : plc n a < 65 := by unfold plc; omega
/-- The leap, in places of a wheel: T is the place that the clock comes to. -/
theorem plc_stays (hn : n < 16 ^ 16) (hm : m < 16 ^ 16) (ha : a < 16 ^ 16) (hnm : n < m) (hna : n < a) (h : pl n m < plc n a) : m < a ∧ plc m a = plc n a := by
  have h1 := leap_stays hn hm ha hnm hna (by unfold plc at h; omega)
  exact ⟨h1.1, by unfold plc; rw [h1.2]⟩
theorem plc_near (hl : lv a n < 4) : plc n a = 16 * lv a n + fg a (lv a n) := by
  have := fg_lt a (lv a n)
  unfold plc pl
  omega
theorem plc_far (hl : ¬ lv a n < 4) : plc n a = 64 := by
  unfold plc pl
  omega
/-- A place of a wheel is a level and a slot of it. -/
theorem plc_is {k s : Nat} (hk : k < 4) (hs : s < 16) : plc n a = 16 * k + s ↔ lv a n = k ∧ fg a (lv a n) = s := by
  have := fg_lt a (lv a n)
  unfold plc pl
  omega
theorem plc_is_far : plc n a = 64 ↔ 3 < lv a n := by
  have := fg_lt a (lv a n)
  unfold plc pl
  omega
end
/-- bits.Len of a difference tells it. -/
theorem xor_div (a b k : Nat) : (a ^^^ b) / 16 ^ k = (a / 16 ^ k) ^^^ (b / 16 ^ k) := by
  have e : (16 : Nat) ^ k = 2 ^ (4 * k) := by rw [Nat.pow_mul]
  rw [e, ← Nat.shiftRight_eq_div_pow, ← Nat.shiftRight_eq_div_pow, ← Nat.shiftRight_eq_div_pow, Nat.shiftRight_xor_distrib]
theorem xor_zero' {a b : Nat} : a ^^^ b = 0 ↔ a = b := by
  constructor
  · intro h
    exact Nat.eq_of_testBit_eq fun i => by
      have := congrArg (·.testBit i) h
      simpa using this
  · rintro rfl; exact Nat.xor_self a
theorem isLv_xor {a b n : Nat} (h1 : 2 ^ n ≤ a ^^^ b) (h2 : a ^^^ b < 2 ^ (n + 1)) : IsLv a b (n / 4) := by
  have e : ∀ k, (16 : Nat) ^ k = 2 ^ (4 * k) := fun k => by rw [Nat.pow_mul]
  constructor
  · intro he
    have h3 : (a ^^^ b) / 16 ^ (n / 4) = 0 := by rw [xor_div, he, Nat.xor_self]
    have h4 : a ^^^ b < 16 ^ (n / 4) := by
      rcases Nat.lt_or_ge (a ^^^ b) (16 ^ (n / 4)) with h | h
      · exact h
      · have := Nat.div_pos h (Nat.pos_of_ne_zero (by simp))
        omega
    have h5 : (16 : Nat) ^ (n / 4) ≤ 2 ^ n := by rw [e]; exact Nat.pow_le_pow_right (by omega) (by omega)
    omega
  · have h3 : (a ^^^ b) / 16 ^ (n / 4 + 1) = 0 := Nat.div_eq_of_lt (Nat.lt_of_lt_of_le h2 (by rw [e]; exact Nat.pow_le_pow_right (by omega) (by omega)))
    rw [xor_div] at h3
    exact xor_zero'.1 h3
end Go.Proofs.Ytlljfgpmjpmoiaa
