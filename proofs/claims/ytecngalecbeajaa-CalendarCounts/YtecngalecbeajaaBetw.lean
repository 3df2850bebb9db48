/- The walk of the law CalendarBetween: whatever the deadline, the step and the tick, it answers true, and nothing that lay in memory has turned. -/
import Derived.Test.YtecngalecbeajaaLive
namespace Go.Proofs.Ytecngalecbeajaa
open Go.RowKit Go.IntWalk
set_option linter.unusedVariables false

/-- What an occurrence is. -/
theorem ahd_occ {a e k : Int} (he : 0 < e) : ahd a e (a + e * k) = k ∧ bey a e (a + e * k) = 0 := by
  have h0 : ¬ e = 0 := by omega
  rw [ahd, bey, if_neg h0, if_neg h0, show a + e * k - a = e * k from by omega]
  exact ⟨Int.mul_ediv_cancel_left k h0, Int.mul_emod_right e k⟩
theorem idx_occ {a e k : Int} (he : 0 < e) (hk : 0 ≤ k) : idx a e (a + e * k) = k ∧ isI a e (a + e * k) = true := by
  obtain ⟨h1, h2⟩ := ahd_occ (a := a) (k := k) he
  have h3 : 0 ≤ e * k := Int.mul_nonneg (by omega) hk
  have h4 : ¬ a + e * k < a := by omega
  exact ⟨by rw [idx, if_neg h4, if_pos h2, h1], by simp [isI, h2]; omega⟩
/-- The last occurrence is one. -/
theorem idx_last {a e n : Int} (ha : U a) (he : U e) (hn : U n) (h : ¬ n < a) : idx a e (n - bey a e n) = ahd a e n ∧ isI a e (n - bey a e n) = true := by
  obtain ⟨k1, k2, k3, k4, k5, k6⟩ := bey_bd ha he hn h
  by_cases h0 : e = 0
  · subst h0
    have e1 : bey a 0 n = n - a := if_pos rfl
    have e2 : ahd a 0 n = 0 := if_pos rfl
    rw [e1, e2, show n - (n - a) = a from by omega]
    have e3 : bey a 0 a = 0 := (if_pos rfl : bey a 0 a = a - a).trans (by omega)
    have e4 : ahd a 0 a = 0 := if_pos rfl
    have e5 : ¬ a < a := by omega
    exact ⟨by rw [idx, if_neg e5, if_pos e3, e4], by simp [isI, e3]⟩
  · have hp : 0 < e := by have := he.1; omega
    rw [show n - bey a e n = a + e * ahd a e n from by omega]
    exact idx_occ hp k3
/-- So is the next one. -/
theorem idx_next {a e n : Int} (ha : U a) (he : U e) (hn : U n) (h : ¬ n < a) (h0 : ¬ e = 0) : idx a e (n - bey a e n + e) = ahd a e n + 1 ∧ isI a e (n - bey a e n + e) = true := by
  obtain ⟨k1, k2, k3, k4, k5, k6⟩ := bey_bd ha he hn h
  have hp : 0 < e := by have := he.1; omega
  have : n - bey a e n + e = a + e * (ahd a e n + 1) := by rw [Int.mul_add, Int.mul_one]; omega
  rw [this]
  exact idx_occ hp (by omega)
theorem idx_at {a e : Int} (he : U e) : idx a e a = 0 ∧ isI a e a = true := by
  have e5 : ¬ a < a := by omega
  by_cases h0 : e = 0
  · subst h0
    have e3 : bey a 0 a = 0 := (if_pos rfl : bey a 0 a = a - a).trans (by omega)
    exact ⟨by rw [idx, if_neg e5, if_pos e3]; exact if_pos rfl, by simp [isI, e3]⟩
  · have hp : 0 < e := by have := he.1; omega
    have := idx_occ (a := a) (k := 0) hp (by omega)
    rwa [Int.mul_zero, Int.add_zero] at this
set_option maxRecDepth 100000 in
set_option maxHeartbeats 2000000 in
theorem between_ahead (a e n I : Int) (r : Bool) (h : n < a) (w : World)
    (k1 : Hid (∀ w, Calls Try.prog 10 #[.int .u64 a, .int .u64 e, .int .u64 n] w fun x w' => x = .returned (.tuple #[.int .u64 0, .bool false]) ∧ Below w.heap.size w w'))
    (k2 : Hid (∀ w, Calls Try.prog 8 #[.int .u64 a, .int .u64 e, .int .u64 n] w fun x w' => x = .returned (.tuple #[.int .u64 a, .bool true]) ∧ Below w.heap.size w w'))
    (k3 : Hid (∀ w, Calls Try.prog 12 #[.int .u64 a, .int .u64 e, .int .u64 0] w fun x w' => x = .returned (.tuple #[.int .u64 I, .bool r]) ∧ Below w.heap.size w w'))
    (k4 : Hid (∀ w, Calls Try.prog 12 #[.int .u64 a, .int .u64 e, .int .u64 a] w fun x w' => x = .returned (.tuple #[.int .u64 0, .bool true]) ∧ Below w.heap.size w w'))
    (k5 : Hid (∀ w, Calls Try.prog 15 #[.int .u64 a, .int .u64 e, .int .u64 n] w fun x w' => x = .returned (.int .u64 0) ∧ Below w.heap.size w w')) :
    Calls Try.prog 4 #[.int .u64 a, .int .u64 e, .int .u64 n] w fun x w' => x = .returned (.bool true) ∧ Below w.heap.size w w' := by
  have d1 : decide (a ≤ n) = false := decide_eq_false (by omega)
  have d2 : (a != a) = false := by simp
  go_enter Try.func4, Try.ntmps4
  go_wp2_with fail
  refine (k1.out _).mono ?_
  rintro x w1 ⟨rfl, hB1⟩
  go_wp2_with fail
  refine (k2.out _).mono ?_
  rintro x w2 ⟨rfl, hB2⟩
  go_wp2_with fail
  refine (k3.out _).mono ?_
  rintro x w3 ⟨rfl, hB3⟩
  go_wp2_with fail
  refine (k4.out _).mono ?_
  rintro x w4 ⟨rfl, hB4⟩
  go_wp2_with fail
  refine (k5.out _).mono ?_
  rintro x w5 ⟨rfl, hB5⟩
  go_wp2_with fail
  refine (alive_any _).mono ?_
  rintro x w6 ⟨rfl, hB6⟩
  go_wp2
  go_ret
  exact ⟨rfl, hB1.trans ((hB2.trans ((hB3.trans ((hB4.trans ((hB5.trans (hB6.mono hB5.size)).mono hB4.size)).mono hB3.size)).mono hB2.size)).mono hB1.size)⟩
set_option maxRecDepth 100000 in
set_option maxHeartbeats 2000000 in
theorem between_both (a e n L N k : Int) (hL : L ≤ n) (hL0 : a ≤ L) (hN : n < N) (hN1 : N < 18446744073709551616) (ha : 0 ≤ a) (he : N - L = e) (hk : 0 ≤ k) (hk1 : k + 1 < 18446744073709551616) (w : World)
    (k1 : Hid (∀ w, Calls Try.prog 10 #[.int .u64 a, .int .u64 e, .int .u64 n] w fun x w' => x = .returned (.tuple #[.int .u64 L, .bool true]) ∧ Below w.heap.size w w'))
    (k2 : Hid (∀ w, Calls Try.prog 8 #[.int .u64 a, .int .u64 e, .int .u64 n] w fun x w' => x = .returned (.tuple #[.int .u64 N, .bool true]) ∧ Below w.heap.size w w'))
    (k3 : Hid (∀ w, Calls Try.prog 12 #[.int .u64 a, .int .u64 e, .int .u64 L] w fun x w' => x = .returned (.tuple #[.int .u64 k, .bool true]) ∧ Below w.heap.size w w'))
    (k4 : Hid (∀ w, Calls Try.prog 12 #[.int .u64 a, .int .u64 e, .int .u64 N] w fun x w' => x = .returned (.tuple #[.int .u64 (k + 1), .bool true]) ∧ Below w.heap.size w w'))
    (k5 : Hid (∀ w, Calls Try.prog 15 #[.int .u64 a, .int .u64 e, .int .u64 n] w fun x w' => x = .returned (.int .u64 (k + 1)) ∧ Below w.heap.size w w')) :
    Calls Try.prog 4 #[.int .u64 a, .int .u64 e, .int .u64 n] w fun x w' => x = .returned (.bool true) ∧ Below w.heap.size w w' := by
  have d1 : decide (a ≤ n) = true := decide_eq_true (by omega)
  have d2 : decide (n < L) = false := decide_eq_false (by omega)
  have d3 : decide (L < a) = false := decide_eq_false (by omega)
  have d4 : decide (N ≤ n) = false := decide_eq_false (by omega)
  have d5 : (k + 1 != k + 1) = false := by simp
  have d6 : (e != e) = false := by simp
  have d7 : (k + 1 == k + 1) = true := by simp
  go_enter Try.func4, Try.ntmps4
  go_wp2_with fail
  refine (k1.out _).mono ?_
  rintro x w1 ⟨rfl, hB1⟩
  go_wp2_with fail
  refine (k2.out _).mono ?_
  rintro x w2 ⟨rfl, hB2⟩
  go_wp2_with fail
  refine (k3.out _).mono ?_
  rintro x w3 ⟨rfl, hB3⟩
  go_wp2_with fail
  refine (k4.out _).mono ?_
  rintro x w4 ⟨rfl, hB4⟩
  go_wp2_with fail
  refine (k5.out _).mono ?_
  rintro x w5 ⟨rfl, hB5⟩
  go_wp2_with fail
  refine (alive_any _).mono ?_
  rintro x w6 ⟨rfl, hB6⟩
  go_wp2
  go_ret
  exact ⟨rfl, hB1.trans ((hB2.trans ((hB3.trans ((hB4.trans ((hB5.trans (hB6.mono hB5.size)).mono hB4.size)).mono hB3.size)).mono hB2.size)).mono hB1.size)⟩
set_option maxRecDepth 100000 in
set_option maxHeartbeats 2000000 in
theorem between_last (a e n L k J : Int) (s : Bool) (hL : L ≤ n) (hL0 : a ≤ L) (ha : 0 ≤ a) (hk : 0 ≤ k) (hk1 : k + 1 < 18446744073709551616) (w : World)
    (k1 : Hid (∀ w, Calls Try.prog 10 #[.int .u64 a, .int .u64 e, .int .u64 n] w fun x w' => x = .returned (.tuple #[.int .u64 L, .bool true]) ∧ Below w.heap.size w w'))
    (k2 : Hid (∀ w, Calls Try.prog 8 #[.int .u64 a, .int .u64 e, .int .u64 n] w fun x w' => x = .returned (.tuple #[.int .u64 0, .bool false]) ∧ Below w.heap.size w w'))
    (k3 : Hid (∀ w, Calls Try.prog 12 #[.int .u64 a, .int .u64 e, .int .u64 L] w fun x w' => x = .returned (.tuple #[.int .u64 k, .bool true]) ∧ Below w.heap.size w w'))
    (k4 : Hid (∀ w, Calls Try.prog 12 #[.int .u64 a, .int .u64 e, .int .u64 0] w fun x w' => x = .returned (.tuple #[.int .u64 J, .bool s]) ∧ Below w.heap.size w w'))
    (k5 : Hid (∀ w, Calls Try.prog 15 #[.int .u64 a, .int .u64 e, .int .u64 n] w fun x w' => x = .returned (.int .u64 (k + 1)) ∧ Below w.heap.size w w')) :
    Calls Try.prog 4 #[.int .u64 a, .int .u64 e, .int .u64 n] w fun x w' => x = .returned (.bool true) ∧ Below w.heap.size w w' := by
  have d1 : decide (a ≤ n) = true := decide_eq_true (by omega)
  have d2 : decide (n < L) = false := decide_eq_false (by omega)
  have d3 : decide (L < a) = false := decide_eq_false (by omega)
  have d7 : (k + 1 == k + 1) = true := by simp
  go_enter Try.func4, Try.ntmps4
  go_wp2_with fail
  refine (k1.out _).mono ?_
  rintro x w1 ⟨rfl, hB1⟩
  go_wp2_with fail
  refine (k2.out _).mono ?_
  rintro x w2 ⟨rfl, hB2⟩
  go_wp2_with fail
  refine (k3.out _).mono ?_
  rintro x w3 ⟨rfl, hB3⟩
  go_wp2_with fail
  refine (k4.out _).mono ?_
  rintro x w4 ⟨rfl, hB4⟩
  go_wp2_with fail
  refine (k5.out _).mono ?_
  rintro x w5 ⟨rfl, hB5⟩
  go_wp2_with fail
  refine (alive_any _).mono ?_
  rintro x w6 ⟨rfl, hB6⟩
  go_wp2
  go_ret
  exact ⟨rfl, hB1.trans ((hB2.trans ((hB3.trans ((hB4.trans ((hB5.trans (hB6.mono hB5.size)).mono hB4.size)).mono hB3.size)).mono hB2.size)).mono hB1.size)⟩
set_option maxRecDepth 100000 in
set_option maxHeartbeats 2000000 in
theorem between_all (a e n L J : Int) (s : Bool) (hL : L ≤ n) (hL0 : a ≤ L) (ha : 0 ≤ a) (w : World)
    (k1 : Hid (∀ w, Calls Try.prog 10 #[.int .u64 a, .int .u64 e, .int .u64 n] w fun x w' => x = .returned (.tuple #[.int .u64 L, .bool true]) ∧ Below w.heap.size w w'))
    (k2 : Hid (∀ w, Calls Try.prog 8 #[.int .u64 a, .int .u64 e, .int .u64 n] w fun x w' => x = .returned (.tuple #[.int .u64 0, .bool false]) ∧ Below w.heap.size w w'))
    (k3 : Hid (∀ w, Calls Try.prog 12 #[.int .u64 a, .int .u64 e, .int .u64 L] w fun x w' => x = .returned (.tuple #[.int .u64 18446744073709551615, .bool true]) ∧ Below w.heap.size w w'))
    (k4 : Hid (∀ w, Calls Try.prog 12 #[.int .u64 a, .int .u64 e, .int .u64 0] w fun x w' => x = .returned (.tuple #[.int .u64 J, .bool s]) ∧ Below w.heap.size w w'))
    (k5 : Hid (∀ w, Calls Try.prog 15 #[.int .u64 a, .int .u64 e, .int .u64 n] w fun x w' => x = .returned (.int .u64 18446744073709551615) ∧ Below w.heap.size w w')) :
    Calls Try.prog 4 #[.int .u64 a, .int .u64 e, .int .u64 n] w fun x w' => x = .returned (.bool true) ∧ Below w.heap.size w w' := by
  have d1 : decide (a ≤ n) = true := decide_eq_true (by omega)
  have d2 : decide (n < L) = false := decide_eq_false (by omega)
  have d3 : decide (L < a) = false := decide_eq_false (by omega)
  go_enter Try.func4, Try.ntmps4
  go_wp2_with fail
  refine (k1.out _).mono ?_
  rintro x w1 ⟨rfl, hB1⟩
  go_wp2_with fail
  refine (k2.out _).mono ?_
  rintro x w2 ⟨rfl, hB2⟩
  go_wp2_with fail
  refine (k3.out _).mono ?_
  rintro x w3 ⟨rfl, hB3⟩
  go_wp2_with fail
  refine (k4.out _).mono ?_
  rintro x w4 ⟨rfl, hB4⟩
  go_wp2_with fail
  refine (k5.out _).mono ?_
  rintro x w5 ⟨rfl, hB5⟩
  go_wp2_with fail
  refine (alive_any _).mono ?_
  rintro x w6 ⟨rfl, hB6⟩
  go_wp2
  go_ret
  exact ⟨rfl, hB1.trans ((hB2.trans ((hB3.trans ((hB4.trans ((hB5.trans (hB6.mono hB5.size)).mono hB4.size)).mono hB3.size)).mono hB2.size)).mono hB1.size)⟩
theorem between_walk (a e n : Int) (w : World) (ha : U a) (he : U e) (hn : U n) :
    Calls Try.prog 4 #[.int .u64 a, .int .u64 e, .int .u64 n] w fun x w' => x = .returned (.bool true) ∧ Below w.heap.size w w' := by
  have k1 := last_any a e n ha he hn
  have k2 := next_any a e n ha he hn
  have k5 := count_any a e n ha he hn
  have hz : U 0 := ⟨by decide, by decide⟩
  by_cases h : n < a
  · rw [show lst a e n = 0 from if_pos h, show (!decide (n < a)) = false from by simp [h]] at k1
    rw [show nxt a e n = a from if_pos h, show isN a e n = true from by simp [isN, h]] at k2
    rw [show cnt a e n = 0 from if_pos h] at k5
    have k4 := index_any a e a ha he ha
    rw [(idx_at he).1, (idx_at he).2] at k4
    exact between_ahead a e n _ _ h w ⟨k1⟩ ⟨k2⟩ ⟨index_any a e 0 ha he hz⟩ ⟨k4⟩ ⟨k5⟩
  · obtain ⟨b1, b2, b3, b4, b5, b6⟩ := bey_bd ha he hn h
    have ha0 := ha.1
    have hn1 := hn.2
    have he0 := he.1
    have k3 := index_any a e (n - bey a e n) ha he ⟨by omega, by omega⟩
    rw [(idx_last ha he hn h).1, (idx_last ha he hn h).2] at k3
    rw [show lst a e n = n - bey a e n from if_neg h, show (!decide (n < a)) = true from by simp [h]] at k1
    rw [show cnt a e n = pls (ahd a e n) 1 from if_neg h] at k5
    by_cases hl : e = 0 ∨ 18446744073709551615 - (n - bey a e n) < e
    · rw [show nxt a e n = 0 from by rw [nxt, if_neg h, if_pos hl], show isN a e n = false from by simp [isN, h]; omega] at k2
      by_cases hq : ahd a e n = 18446744073709551615
      · rw [show pls (ahd a e n) 1 = 18446744073709551615 from if_pos (by omega)] at k5
        rw [hq] at k3
        exact between_all a e n (n - bey a e n) _ _ (by omega) (by omega) (by omega) w ⟨k1⟩ ⟨k2⟩ ⟨k3⟩ ⟨index_any a e 0 ha he hz⟩ ⟨k5⟩
      · rw [show pls (ahd a e n) 1 = ahd a e n + 1 from if_neg (by omega)] at k5
        exact between_last a e n (n - bey a e n) _ _ _ (by omega) (by omega) (by omega) (by omega) (by omega) w ⟨k1⟩ ⟨k2⟩ ⟨k3⟩ ⟨index_any a e 0 ha he hz⟩ ⟨k5⟩
    · have h0 : ¬ e = 0 := by omega
      rw [show nxt a e n = n - bey a e n + e from by rw [nxt, if_neg h, if_neg hl], show isN a e n = true from by simp [isN, h]; omega] at k2
      have hx : U (n - bey a e n + e) := ⟨by omega, by omega⟩
      have k4 := index_any a e _ ha he hx
      rw [(idx_next ha he hn h h0).1, (idx_next ha he hn h h0).2] at k4
      have hb := b6 (by omega)
      have hkn : ahd a e n + 1 < 18446744073709551616 := by
        have h1 := idx_next ha he hn h h0
        have h2 : ahd a e n ≤ e * ahd a e n := by
          have := Int.mul_le_mul_of_nonneg_right (show 1 ≤ e by omega) b3
          omega
        omega
      rw [show pls (ahd a e n) 1 = ahd a e n + 1 from if_neg (by omega)] at k5
      exact between_both a e n (n - bey a e n) (n - bey a e n + e) _ (by omega) (by omega) (by omega) hx.2 ha0 (by omega) (by omega) (by omega) w ⟨k1⟩ ⟨k2⟩ ⟨k3⟩ ⟨k4⟩ ⟨k5⟩
end Go.Proofs.Ytecngalecbeajaa
