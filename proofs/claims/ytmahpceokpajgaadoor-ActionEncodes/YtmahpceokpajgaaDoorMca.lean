/- Plain facts on numbers and their bytes, without any program: the digits of a number to the base 256, the number of digits, and that the two lead back to one another. -/
import Derived.WalkKit
import Derived.WalkSpells
import Derived.WalkLawsBesides
import Derived.Outline
import Derived.Laws.BytesArg
import Derived.Test.YtmahpceokpajgaaDoorCBase
namespace Go.Proofs.YtmahpceokpajgaaDoor.Plain

theorem pow8 (L : Nat) : 2 ^ (L + 8) = 256 * 2 ^ L := by rw [Nat.pow_add]; omega
theorem pow16 (L : Nat) : 2 ^ (L + 16) = 65536 * 2 ^ L := by rw [Nat.pow_add]; omega
theorem pow32 (L : Nat) : 2 ^ (L + 32) = 4294967296 * 2 ^ L := by rw [Nat.pow_add]; omega

/-- L bits are just enough for n. -/
def Fits (n L : Nat) : Prop := n < 2 ^ L ∧ (n = 0 → L = 0) ∧ (0 < n → 2 ^ L ≤ 2 * n)
theorem Fits.up8 {n L : Nat} (h : Fits (n / 256) L) (hn : 256 ≤ n) : Fits n (L + 8) := by
  obtain ⟨h1, _, h3⟩ := h
  have := h3 (by omega)
  refine ⟨by rw [pow8]; omega, by omega, fun _ => by rw [pow8]; omega⟩
theorem Fits.up16 {n L : Nat} (h : Fits (n / 65536) L) (hn : 65536 ≤ n) : Fits n (L + 16) := by
  obtain ⟨h1, _, h3⟩ := h
  have := h3 (by omega)
  refine ⟨by rw [pow16]; omega, by omega, fun _ => by rw [pow16]; omega⟩
theorem Fits.up32 {n L : Nat} (h : Fits (n / 4294967296) L) (hn : 4294967296 ≤ n) : Fits n (L + 32) := by
  obtain ⟨h1, _, h3⟩ := h
  have := h3 (by omega)
  refine ⟨by rw [pow32]; omega, by omega, fun _ => by rw [pow32]; omega⟩
theorem Fits.unique {n L M : Nat} (h : Fits n L) (h' : Fits n M) : L = M := by
  obtain ⟨a1, a2, a3⟩ := h
  obtain ⟨b1, b2, b3⟩ := h'
  rcases Nat.eq_zero_or_pos n with h | h
  · rw [a2 h, b2 h]
  · have c1 := a3 h
    have c2 := b3 h
    rcases Nat.lt_trichotomy L M with e | e | e
    · exfalso
      have h2 : 2 ^ (L + 1) ≤ 2 ^ M := Nat.pow_le_pow_right (by omega) e
      rw [Nat.pow_succ] at h2; omega
    · exact e
    · exfalso
      have h2 : 2 ^ (M + 1) ≤ 2 ^ L := Nat.pow_le_pow_right (by omega) e
      rw [Nat.pow_succ] at h2; omega

/-- The last k digits of n to the base 256, the greatest first. -/
def be : Nat → Nat → List Int
  | 0, _ => []
  | k + 1, n => be k (n / 256) ++ [((n % 256 : Nat) : Int)]
theorem be_length (k n : Nat) : (be k n).length = k := by
  induction k generalizing n with
  | zero => rfl
  | succ k ih => simp [be, ih]
theorem be_byte (k n : Nat) : ∀ z ∈ be k n, 0 ≤ z ∧ z < 256 := by
  induction k generalizing n with
  | zero => intro z hz; cases hz
  | succ k ih =>
    intro z hz
    rcases List.mem_append.1 hz with h | h
    · exact ih _ z h
    · simp at h; omega
theorem be_getElem (k n j : Nat) (h : j < k) : (be k n)[j]?.getD 0 = ((n / 256 ^ (k - 1 - j) % 256 : Nat) : Int) := by
  induction k generalizing n with
  | zero => omega
  | succ k ih =>
    by_cases hj : j < k
    · rw [be, List.getElem?_append_left (by rw [be_length]; exact hj), ih _ hj, Nat.div_div_eq_div_mul]
      have e : k + 1 - 1 - j = (k - 1 - j) + 1 := by omega
      rw [e, Nat.pow_succ, Nat.mul_comm]
    · obtain rfl : j = k := by omega
      rw [be, List.getElem?_append_right (by rw [be_length]; exact Nat.le_refl _), be_length]
      simp
/-- One digit more ahead. -/
theorem be_cons (k n : Nat) : be (k + 1) n = ((n / 256 ^ k % 256 : Nat) : Int) :: be k n := by
  induction k generalizing n with
  | zero => simp [be]
  | succ k ih =>
    rw [be, ih, be]
    rw [Nat.div_div_eq_div_mul, Nat.pow_succ, Nat.mul_comm 256]
    rfl

/-- The number of digits. -/
def val (l : List Int) : Int := l.foldl (fun a d => 256 * a + d) 0
theorem val_snoc (l : List Int) (d : Int) : val (l ++ [d]) = 256 * val l + d := by simp [val]
theorem fold_bd (l : List Int) (h : ∀ z ∈ l, 0 ≤ z ∧ z < 256) : ∀ a : Int, 0 ≤ a → 0 ≤ l.foldl (fun a d => 256 * a + d) a ∧ l.foldl (fun a d => 256 * a + d) a < (a + 1) * 256 ^ l.length := by
  induction l with
  | nil => intro a ha; simp; omega
  | cons d l ih =>
    intro a ha
    have hd := h d (by simp)
    have := ih (fun z hz => h z (by simp [hz])) (256 * a + d) (by omega)
    refine ⟨this.1, Int.lt_of_lt_of_le this.2 ?_⟩
    rw [List.length_cons, Int.pow_succ, ← Int.mul_assoc, Int.mul_right_comm]
    exact Int.mul_le_mul_of_nonneg_right (by omega) (Int.le_of_lt (Int.pow_pos (by decide)))
theorem val_bd (l : List Int) (h : ∀ z ∈ l, 0 ≤ z ∧ z < 256) : 0 ≤ val l ∧ val l < 256 ^ l.length := by
  have := fold_bd l h 0 (by omega)
  simpa [val] using this
theorem val_be (k n : Nat) (h : n < 256 ^ k) : val (be k n) = n := by
  induction k generalizing n with
  | zero => simp at h; subst h; rfl
  | succ k ih =>
    rw [be, val_snoc, ih _ (by rw [Nat.pow_succ] at h; omega)]
    omega


/-- How many bytes a number has. -/
def nb (n : Nat) : Nat := if n = 0 then 0 else n.log2 / 8 + 1
theorem fits_log (n : Nat) (h : 0 < n) : Fits n (n.log2 + 1) :=
  ⟨Nat.lt_log2_self, by omega, fun _ => by rw [Nat.pow_succ]; have := Nat.log2_self_le (n := n) (by omega); omega⟩
theorem nb_of_fits {n L : Nat} (h : Fits n L) : (L + 7) / 8 = nb n := by
  unfold nb
  split
  · next h0 => rw [h.2.1 h0]
  · next h0 => rw [h.unique (fits_log n (by omega))]; omega
theorem pow256 (k : Nat) : 256 ^ k = 2 ^ (8 * k) := by rw [Nat.pow_mul]
theorem lt_nb (n : Nat) : n < 256 ^ nb n := by
  unfold nb
  split
  · next h => subst h; decide
  · rw [pow256]
    exact Nat.lt_of_lt_of_le (Nat.lt_log2_self (n := n)) (Nat.pow_le_pow_right (by omega) (by omega))
theorem nb_le {n : Nat} (h : 0 < n) : 256 ^ (nb n - 1) ≤ n := by
  unfold nb
  rw [if_neg (by omega), Nat.add_sub_cancel, pow256]
  exact Nat.le_trans (Nat.pow_le_pow_right (by omega) (by omega)) (Nat.log2_self_le (n := n) (by omega))
theorem nb_pos {n : Nat} (h : 0 < n) : 0 < nb n := by unfold nb; rw [if_neg (by omega)]; omega
theorem nb_zero : nb 0 = 0 := rfl
theorem nb_mono {n m : Nat} (h : n ≤ m) : nb n ≤ nb m := by
  rcases Nat.eq_zero_or_pos n with h0 | h0
  · subst h0; exact Nat.zero_le _
  · have h1 := nb_le h0
    have h2 := lt_nb m
    rcases Nat.lt_or_ge (nb m) (nb n) with h3 | h3
    · have : 256 ^ nb m ≤ 256 ^ (nb n - 1) := Nat.pow_le_pow_right (by omega) (by omega)
      omega
    · exact h3
theorem nb_8 {n : Nat} (h : n < 18446744073709551616) : nb n ≤ 8 := by
  have := nb_mono (n := n) (m := 18446744073709551615) (by omega)
  exact Nat.le_trans this (by decide +kernel)
theorem nb_unique {n k : Nat} (h : n < 256 ^ k) (h' : 0 < n → 256 ^ (k - 1) ≤ n) (h0 : n = 0 → k = 0) : k = nb n := by
  rcases Nat.eq_zero_or_pos n with e | e
  · rw [h0 e, e]; rfl
  · have h1 := h' e
    have h2 := nb_le e
    have h3 := lt_nb n
    have h4 := nb_pos e
    rcases Nat.lt_trichotomy k (nb n) with c | c | c
    · have : 256 ^ k ≤ 256 ^ (nb n - 1) := Nat.pow_le_pow_right (by omega) (by omega)
      omega
    · exact c
    · have : 256 ^ nb n ≤ 256 ^ (k - 1) := Nat.pow_le_pow_right (by omega) (by omega)
      omega
/-- A number's bytes. -/
def enc (n : Nat) : List Int := be (nb n) n
theorem enc_length (n : Nat) : (enc n).length = nb n := be_length _ _
theorem enc_byte (n : Nat) : ∀ z ∈ enc n, 0 ≤ z ∧ z < 256 := be_byte _ _
theorem val_enc (n : Nat) : val (enc n) = n := val_be _ _ (lt_nb n)
theorem enc_inj {n m : Nat} (h : enc n = enc m) : n = m := by
  have := val_enc n; rw [h, val_enc] at this; omega
/-- The first byte is not 0. -/
theorem enc_head {n : Nat} (h : 0 < n) : (enc n)[0]?.getD 0 ≠ 0 := by
  have hp := nb_pos h
  unfold enc
  rw [be_getElem _ _ _ hp, Nat.sub_zero]
  have h1 := nb_le h
  have h2 := lt_nb n
  have e : nb n = (nb n - 1) + 1 := by omega
  rw [e, Nat.pow_succ] at h2
  have h3 : n / 256 ^ (nb n - 1) < 256 := Nat.div_lt_of_lt_mul h2
  have h4 : 0 < n / 256 ^ (nb n - 1) := Nat.div_pos h1 (Nat.pow_pos (by omega))
  rw [Nat.mod_eq_of_lt h3]
  omega

end Go.Proofs.YtmahpceokpajgaaDoor.Plain

/- What math/bits.Len64 returns. -/
namespace Go.Proofs.YtmahpceokpajgaaDoor.C
open Go.RowKit Plain Go.IntWalk
set_option linter.unusedVariables false

/-- Of each byte: how many bits it has. -/
def tab : ByteArray := ⟨#[
  0, 1, 2, 2, 3, 3, 3, 3, 4, 4, 4, 4, 4, 4, 4, 4, 5, 5, 5, 5, 5, 5, 5, 5, 5, 5, 5, 5, 5, 5, 5, 5,
  6, 6, 6, 6, 6, 6, 6, 6, 6, 6, 6, 6, 6, 6, 6, 6, 6, 6, 6, 6, 6, 6, 6, 6, 6, 6, 6, 6, 6, 6, 6, 6,
  7, 7, 7, 7, 7, 7, 7, 7, 7, 7, 7, 7, 7, 7, 7, 7, 7, 7, 7, 7, 7, 7, 7, 7, 7, 7, 7, 7, 7, 7, 7, 7,
  7, 7, 7, 7, 7, 7, 7, 7, 7, 7, 7, 7, 7, 7, 7, 7, 7, 7, 7, 7, 7, 7, 7, 7, 7, 7, 7, 7, 7, 7, 7, 7,
  8, 8, 8, 8, 8, 8, 8, 8, 8, 8, 8, 8, 8, 8, 8, 8, 8, 8, 8, 8, 8, 8, 8, 8, 8, 8, 8, 8, 8, 8, 8, 8,
  8, 8, 8, 8, 8, 8, 8, 8, 8, 8, 8, 8, 8, 8, 8, 8, 8, 8, 8, 8, 8, 8, 8, 8, 8, 8, 8, 8, 8, 8, 8, 8,
  8, 8, 8, 8, 8, 8, 8, 8, 8, 8, 8, 8, 8, 8, 8, 8, 8, 8, 8, 8, 8, 8, 8, 8, 8, 8, 8, 8, 8, 8, 8, 8,
  8, 8, 8, 8, 8, 8, 8, 8, 8, 8, 8, 8, 8, 8, 8, 8, 8, 8, 8, 8, 8, 8, 8, 8, 8, 8, 8, 8, 8, 8, 8, 8]⟩
def fitsB (n L : Nat) : Bool := decide (n < 2 ^ L) && decide (n = 0 → L = 0) && decide (0 < n → 2 ^ L ≤ 2 * n) && decide (L ≤ 8)
theorem tab_all : (List.range 256).all (fun i => fitsB i (tab.get! i).toNat) = true := by decide +kernel
theorem tab_size : tab.size = 256 := by decide +kernel
theorem tab_ok (i : Nat) (h : i < 256) : Fits i (tab[i]'(by rw [tab_size]; exact h)).toNat ∧ (tab[i]'(by rw [tab_size]; exact h)).toNat ≤ 8 := by
  have h1 := List.all_eq_true.1 tab_all i (List.mem_range.2 h)
  have e : tab.get! i = tab[i]'(by rw [tab_size]; exact h) := by
    have : i < tab.data.size := by rw [show tab.data.size = 256 from tab_size]; exact h
    show tab.data[i]! = tab.data[i]
    rw [getElem!_pos tab.data i this]
  rw [e] at h1
  simp only [fitsB, Bool.and_eq_true, decide_eq_true_eq] at h1
  exact ⟨⟨h1.1.1.1, h1.1.1.2, h1.1.2⟩, h1.2⟩
theorem close0 {n : Nat} (hi : n < 256) :
    ∃ L : Nat, Ending.returned (Value.int .i64 (wrap64 (wrap64 ((tab[n]'(by rw [tab_size]; exact hi)).toNat : Int)))) = .returned (.int .i64 L) ∧ Fits n L ∧ L ≤ 64 := by
  obtain ⟨h1, h2⟩ := tab_ok n hi
  refine ⟨_, ?_, h1, by omega⟩
  rw [wrap64_in ((tab[n]'(by rw [tab_size]; exact hi)).toNat : Int) (by omega), wrap64_in _ (by omega)]
theorem closeK {n i : Nat} (k : Nat) (hi : i < 256) (hk : k ≤ 56) (hf : ∀ L, Fits i L → Fits n (L + k)) :
    ∃ L : Nat, Ending.returned (Value.int .i64 (wrap64 ((k : Int) + wrap64 ((tab[i]'(by rw [tab_size]; exact hi)).toNat : Int)))) = .returned (.int .i64 L) ∧ Fits n L ∧ L ≤ 64 := by
  obtain ⟨h1, h2⟩ := tab_ok i hi
  refine ⟨_, ?_, hf _ h1, by omega⟩
  rw [wrap64_in ((tab[i]'(by rw [tab_size]; exact hi)).toNat : Int) (by omega), wrap64_in _ (by omega), Int.add_comm]
  rfl
set_option maxRecDepth 100000 in
set_option maxHeartbeats 1000000 in
theorem len64_000 (n : Int) (w : World) (h0 : 0 ≤ n) (h1 : n < 4294967296) (h2 : n < 65536) (h3 : n < 256) :
    Calls Tryd.prog 76 #[.int .u64 n] w fun e w' => (∃ L : Nat, e = .returned (.int .i64 L) ∧ Fits n.toNat L ∧ L ≤ 64) ∧ w = w' := by
  go_enter Tryd.func76, Tryd.ntmps76
  go_wp2
  go_ret
  exact ⟨close0 (by omega), rfl⟩
set_option maxRecDepth 100000 in
set_option maxHeartbeats 1000000 in
theorem len64_001 (n : Int) (w : World) (h0 : 0 ≤ n) (h1 : n < 4294967296) (h2 : n < 65536) (h3 : 256 ≤ n) (h4 : n / 256 < 256) :
    Calls Tryd.prog 76 #[.int .u64 n] w fun e w' => (∃ L : Nat, e = .returned (.int .i64 L) ∧ Fits n.toNat L ∧ L ≤ 64) ∧ w = w' := by
  go_enter Tryd.func76, Tryd.ntmps76
  go_wp2
  go_ret
  exact ⟨closeK 8 (by omega) (by omega) (fun L hL => by rw [show (n / 256).toNat = n.toNat / 256 from by omega] at hL; have := (hL).up8 (by omega); simpa only [Nat.add_assoc] using this), rfl⟩
set_option maxRecDepth 100000 in
set_option maxHeartbeats 1000000 in
theorem len64_010 (n : Int) (w : World) (h0 : 0 ≤ n) (h1 : n < 4294967296) (h2 : 65536 ≤ n) (h3 : n / 65536 < 256) :
    Calls Tryd.prog 76 #[.int .u64 n] w fun e w' => (∃ L : Nat, e = .returned (.int .i64 L) ∧ Fits n.toNat L ∧ L ≤ 64) ∧ w = w' := by
  go_enter Tryd.func76, Tryd.ntmps76
  go_wp2
  go_ret
  exact ⟨closeK 16 (by omega) (by omega) (fun L hL => by rw [show (n / 65536).toNat = n.toNat / 65536 from by omega] at hL; have := (hL).up16 (by omega); simpa only [Nat.add_assoc] using this), rfl⟩
set_option maxRecDepth 100000 in
set_option maxHeartbeats 1000000 in
theorem len64_011 (n : Int) (w : World) (h0 : 0 ≤ n) (h1 : n < 4294967296) (h2 : 65536 ≤ n) (h3 : 256 ≤ n / 65536) (h4 : n / 65536 / 256 < 256) :
    Calls Tryd.prog 76 #[.int .u64 n] w fun e w' => (∃ L : Nat, e = .returned (.int .i64 L) ∧ Fits n.toNat L ∧ L ≤ 64) ∧ w = w' := by
  go_enter Tryd.func76, Tryd.ntmps76
  go_wp2
  go_ret
  exact ⟨closeK 24 (by omega) (by omega) (fun L hL => by rw [show (n / 65536 / 256).toNat = n.toNat / 65536 / 256 from by omega] at hL; have := ((hL).up8 (by omega)).up16 (by omega); simpa only [Nat.add_assoc] using this), rfl⟩
set_option maxRecDepth 100000 in
set_option maxHeartbeats 1000000 in
theorem len64_100 (n : Int) (w : World) (h0 : 0 ≤ n) (h1 : 4294967296 ≤ n) (h2 : n / 4294967296 < 65536) (h3 : n / 4294967296 < 256) :
    Calls Tryd.prog 76 #[.int .u64 n] w fun e w' => (∃ L : Nat, e = .returned (.int .i64 L) ∧ Fits n.toNat L ∧ L ≤ 64) ∧ w = w' := by
  go_enter Tryd.func76, Tryd.ntmps76
  go_wp2
  go_ret
  exact ⟨closeK 32 (by omega) (by omega) (fun L hL => by rw [show (n / 4294967296).toNat = n.toNat / 4294967296 from by omega] at hL; have := (hL).up32 (by omega); simpa only [Nat.add_assoc] using this), rfl⟩
set_option maxRecDepth 100000 in
set_option maxHeartbeats 1000000 in
theorem len64_101 (n : Int) (w : World) (h0 : 0 ≤ n) (h1 : 4294967296 ≤ n) (h2 : n / 4294967296 < 65536) (h3 : 256 ≤ n / 4294967296) (h4 : n / 4294967296 / 256 < 256) :
    Calls Tryd.prog 76 #[.int .u64 n] w fun e w' => (∃ L : Nat, e = .returned (.int .i64 L) ∧ Fits n.toNat L ∧ L ≤ 64) ∧ w = w' := by
  go_enter Tryd.func76, Tryd.ntmps76
  go_wp2
  go_ret
  exact ⟨closeK 40 (by omega) (by omega) (fun L hL => by rw [show (n / 4294967296 / 256).toNat = n.toNat / 4294967296 / 256 from by omega] at hL; have := ((hL).up8 (by omega)).up32 (by omega); simpa only [Nat.add_assoc] using this), rfl⟩
set_option maxRecDepth 100000 in
set_option maxHeartbeats 1000000 in
theorem len64_110 (n : Int) (w : World) (h0 : 0 ≤ n) (h1 : 4294967296 ≤ n) (h2 : 65536 ≤ n / 4294967296) (h3 : n / 4294967296 / 65536 < 256) :
    Calls Tryd.prog 76 #[.int .u64 n] w fun e w' => (∃ L : Nat, e = .returned (.int .i64 L) ∧ Fits n.toNat L ∧ L ≤ 64) ∧ w = w' := by
  go_enter Tryd.func76, Tryd.ntmps76
  go_wp2
  go_ret
  exact ⟨closeK 48 (by omega) (by omega) (fun L hL => by rw [show (n / 4294967296 / 65536).toNat = n.toNat / 4294967296 / 65536 from by omega] at hL; have := ((hL).up16 (by omega)).up32 (by omega); simpa only [Nat.add_assoc] using this), rfl⟩
set_option maxRecDepth 100000 in
set_option maxHeartbeats 1000000 in
theorem len64_111 (n : Int) (w : World) (h0 : 0 ≤ n) (h1 : 4294967296 ≤ n) (h2 : 65536 ≤ n / 4294967296) (h3 : 256 ≤ n / 4294967296 / 65536) (h4 : n / 4294967296 / 65536 / 256 < 256) :
    Calls Tryd.prog 76 #[.int .u64 n] w fun e w' => (∃ L : Nat, e = .returned (.int .i64 L) ∧ Fits n.toNat L ∧ L ≤ 64) ∧ w = w' := by
  go_enter Tryd.func76, Tryd.ntmps76
  go_wp2
  go_ret
  exact ⟨closeK 56 (by omega) (by omega) (fun L hL => by rw [show (n / 4294967296 / 65536 / 256).toNat = n.toNat / 4294967296 / 65536 / 256 from by omega] at hL; have := (((hL).up8 (by omega)).up16 (by omega)).up32 (by omega); simpa only [Nat.add_assoc] using this), rfl⟩
theorem len64_any (n : Int) (w : World) (h0 : 0 ≤ n) (hn : n < 18446744073709551616) :
    Calls Tryd.prog 76 #[.int .u64 n] w fun e w' => (∃ L : Nat, e = .returned (.int .i64 L) ∧ Fits n.toNat L ∧ L ≤ 64) ∧ w = w' := by
  by_cases c1 : 4294967296 ≤ n
  · by_cases c2 : 65536 ≤ n / 4294967296
    · by_cases c3 : 256 ≤ n / 4294967296 / 65536
      · exact len64_111 n w h0 (by omega) (by omega) (by omega) (by omega)
      · exact len64_110 n w h0 (by omega) (by omega) (by omega)
    · by_cases c3 : 256 ≤ n / 4294967296
      · exact len64_101 n w h0 (by omega) (by omega) (by omega) (by omega)
      · exact len64_100 n w h0 (by omega) (by omega) (by omega)
  · by_cases c2 : 65536 ≤ n
    · by_cases c3 : 256 ≤ n / 65536
      · exact len64_011 n w h0 (by omega) (by omega) (by omega) (by omega)
      · exact len64_010 n w h0 (by omega) (by omega) (by omega)
    · by_cases c3 : 256 ≤ n
      · exact len64_001 n w h0 (by omega) (by omega) (by omega) (by omega)
      · exact len64_000 n w h0 (by omega) (by omega) (by omega)

end Go.Proofs.YtmahpceokpajgaaDoor.C

/- What codec.Bytes and codec.Number return. -/
namespace Go.Proofs.YtmahpceokpajgaaDoor.C
open Go.RowKit Plain Go.IntWalk
set_option linter.unusedVariables false

theorem set_step (k j : Nat) (n : Int) (h0 : 0 ≤ n) (hlt : j < k) :
    ((List.replicate (k - j) 0 ++ be j n.toNat).map (Value.int .u8)).set (k - 1 - j) (.int .u8 (n / 2 ^ (8 * j) % 256)) = (List.replicate (k - (j + 1)) 0 ++ be (j + 1) n.toNat).map (Value.int .u8) := by
  obtain ⟨m, rfl⟩ := Int.eq_ofNat_of_zero_le h0
  have e1 : k - j = (k - (j + 1)) + 1 := by omega
  have e2 : k - 1 - j = k - (j + 1) := by omega
  rw [e1, e2, List.replicate_succ', List.append_assoc, be_cons, Int.toNat_natCast, List.map_append, List.set_append_right _ _ (by simp), List.map_append, pow256]
  simp
/-- Are bytes a number's? -/
def numB (zs : List Int) : Bool := decide (zs.length ≤ 8) && (decide (zs.length = 0) || decide (zs[0]?.getD 0 ≠ 0))
/-- Which one? -/
def numV (zs : List Int) : Int := if numB zs = true then val zs else 0


theorem pow_le7 (k : Nat) (h : k ≤ 7) : (256 : Int) ^ k ≤ 256 ^ 7 := by
  have : ∀ j : Fin 8, (256 : Int) ^ j.val ≤ 256 ^ 7 := by decide +kernel
  exact this ⟨k, by omega⟩
theorem shl_or (v d : Int) (h0 : 0 ≤ v) (h1 : v < 256 ^ 7) (h2 : 0 ≤ d) (h3 : d < 256) : bits .or .u64 (IntKind.u64.wrap (v * 256)) d = 256 * v + d := by
  obtain ⟨a, rfl⟩ := Int.eq_ofNat_of_zero_le h0
  obtain ⟨b, rfl⟩ := Int.eq_ofNat_of_zero_le h2
  have ha : a < 72057594037927936 := by omega
  rw [IntKind.wrap_u64, show ((a : Int) * 256) % 18446744073709551616 = ((a * 256 : Nat) : Int) from by omega, bits_or_u64_nat _ _ (by omega) (by omega)]
  have e := Nat.shiftLeft_add_eq_or_of_lt (b := b) (i := 8) (by omega) a
  rw [Nat.shiftLeft_eq] at e
  rw [show a * 256 = a * 2 ^ 8 from rfl, ← e]
  omega
/-- The number of the first k digits. -/
def valUp (g : Nat → Int) (k : Nat) : Int := val ((List.range k).map g)
theorem valUp_succ (g : Nat → Int) (k : Nat) : valUp g (k + 1) = 256 * valUp g k + g k := by
  unfold valUp; rw [List.range_succ, List.map_append, List.map_cons, List.map_nil, val_snoc]
theorem valUp_bd (g : Nat → Int) (k : Nat) (h : ∀ j, j < k → 0 ≤ g j ∧ g j < 256) : 0 ≤ valUp g k ∧ valUp g k < 256 ^ k := by
  have := val_bd ((List.range k).map g) (by intro z hz; simp at hz; obtain ⟨j, hj, rfl⟩ := hz; exact h j hj)
  simpa [valUp] using this
theorem valUp_all (zs : List Int) : valUp (fun j => zs[j]?.getD 0) zs.length = val zs := by
  unfold valUp
  congr 1
  apply List.ext_getElem
  · simp
  · intro i h1 h2; simp [h2]

/-- A number's bytes are the number again. -/
theorem numB_enc (n : Nat) (h : n < 18446744073709551616) : numB (enc n) = true := by
  simp only [numB, Bool.and_eq_true, Bool.or_eq_true, decide_eq_true_eq, enc_length]
  refine ⟨nb_8 h, ?_⟩
  rcases Nat.eq_zero_or_pos n with e | e
  · subst e; exact .inl rfl
  · exact .inr (enc_head e)
theorem numV_enc (n : Nat) (h : n < 18446744073709551616) : numV (enc n) = n := by
  rw [numV, if_pos (numB_enc n h), val_enc]
/-- With a nought ahead they are none. -/
theorem numB_cons (zs : List Int) : numB (0 :: zs) = false := by simp [numB]
end Go.Proofs.YtmahpceokpajgaaDoor.C
