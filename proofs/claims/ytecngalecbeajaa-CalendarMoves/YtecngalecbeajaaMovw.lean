/- The walk of the law CalendarMoves: whatever the deadline, the step, the tick and the distance, it answers true, and nothing that lay in memory has turned. -/
import Derived.Test.YtecngalecbeajaaLive
namespace Go.Proofs.Ytecngalecbeajaa
open Go.RowKit Go.IntWalk
set_option linter.unusedVariables false

theorem bey_by (a e n d : Int) : bey (a + d) e (n + d) = bey a e n := by
  rw [bey, bey, show n + d - (a + d) = n - a from by omega]
theorem ahd_by (a e n d : Int) : ahd (a + d) e (n + d) = ahd a e n := by
  rw [ahd, ahd, show n + d - (a + d) = n - a from by omega]
theorem cnt_by (a e n d : Int) : cnt (a + d) e (n + d) = cnt a e n := by
  rw [cnt, cnt, ahd_by]
  by_cases h : n < a
  · rw [if_pos h, if_pos (by omega)]
  · rw [if_neg h, if_neg (by omega)]
set_option maxRecDepth 100000 in
set_option maxHeartbeats 2000000 in
theorem moves_out (a e n d : Int) (w : World) (ha : U a) (hn : U n) (hd : U d) (h : 18446744073709551615 - a < d ∨ (¬ 18446744073709551615 - a < d ∧ 18446744073709551615 - n < d)) :
    Calls Try.prog 6 #[.int .u64 a, .int .u64 e, .agg #[.int .u64 n, .int .u64 d]] w fun x w' => x = .returned (.bool true) ∧ Below w.heap.size w w' := by
  obtain ⟨a0, a1⟩ := ha
  obtain ⟨n0, n1⟩ := hn
  obtain ⟨d0, d1⟩ := hd
  rcases h with h | ⟨h1, h⟩
  · go_enter Try.func6, Try.ntmps6
    go_wp2_with fail
    refine (alive_any _).mono ?_
    rintro x w1 ⟨rfl, hB1⟩
    go_wp2
    go_ret
    exact ⟨rfl, ((Below.refl _ w).alloc (Nat.le_refl _) _).trans (hB1.mono ((Below.refl _ w).alloc (Nat.le_refl _) _).size)⟩
  · have d1 : decide (18446744073709551615 - a < d) = false := decide_eq_false h1
    go_enter Try.func6, Try.ntmps6
    go_wp2_with fail
    refine (alive_any _).mono ?_
    rintro x w1 ⟨rfl, hB1⟩
    go_wp2
    go_ret
    exact ⟨rfl, ((Below.refl _ w).alloc (Nat.le_refl _) _).trans (hB1.mono ((Below.refl _ w).alloc (Nat.le_refl _) _).size)⟩
set_option maxRecDepth 100000 in
set_option maxHeartbeats 2000000 in
theorem moves_ahead (a e n d C : Int)  (w : World) (ha : U a) (hn : U n) (hd : U d) (h1 : ¬ 18446744073709551615 - a < d) (h2 : ¬ 18446744073709551615 - n < d)
    (k1 : Hid (∀ w, Calls Try.prog 10 #[.int .u64 a, .int .u64 e, .int .u64 n] w fun x w' => x = .returned (.tuple #[.int .u64 0, .bool false]) ∧ Below w.heap.size w w'))
    (k2 : Hid (∀ w, Calls Try.prog 10 #[.int .u64 (a + d), .int .u64 e, .int .u64 (n + d)] w fun x w' => x = .returned (.tuple #[.int .u64 0, .bool false]) ∧ Below w.heap.size w w'))
    (k3 : Hid (∀ w, Calls Try.prog 15 #[.int .u64 a, .int .u64 e, .int .u64 n] w fun x w' => x = .returned (.int .u64 C) ∧ Below w.heap.size w w'))
    (k4 : Hid (∀ w, Calls Try.prog 15 #[.int .u64 (a + d), .int .u64 e, .int .u64 (n + d)] w fun x w' => x = .returned (.int .u64 C) ∧ Below w.heap.size w w'))
    (k5 : Hid (∀ w, Calls Try.prog 8 #[.int .u64 a, .int .u64 e, .int .u64 n] w fun x w' => x = .returned (.tuple #[.int .u64 a, .bool true]) ∧ Below w.heap.size w w'))
    (k6 : Hid (∀ w, Calls Try.prog 8 #[.int .u64 (a + d), .int .u64 e, .int .u64 (n + d)] w fun x w' => x = .returned (.tuple #[.int .u64 (a + d), .bool true]) ∧ Below w.heap.size w w')) :
    Calls Try.prog 6 #[.int .u64 a, .int .u64 e, .agg #[.int .u64 n, .int .u64 d]] w fun x w' => x = .returned (.bool true) ∧ Below w.heap.size w w' := by
  obtain ⟨a0, a1⟩ := ha
  obtain ⟨n0, n1⟩ := hn
  obtain ⟨d0, d1⟩ := hd
  have e1 : decide (18446744073709551615 - a < d) = false := decide_eq_false h1
  have e2 : decide (18446744073709551615 - n < d) = false := decide_eq_false h2
  have e3 : (C != C) = false := by simp
  have e4 : (a + d == a + d) = true := by simp
  go_enter Try.func6, Try.ntmps6
  go_wp2_with fail
  refine (k1.out _).mono ?_
  rintro x w1 ⟨rfl, hB1⟩
  go_wp2_with fail
  refine (k2.out _).mono ?_
  rintro x w2 ⟨rfl, hB2⟩
  go_wp2_with fail
  refine (k3.out _).mono ?_
  rintro x w3 ⟨rfl, hB3⟩
  go_wp2_with fail
  refine (k4.out _).mono ?_
  rintro x w4 ⟨rfl, hB4⟩
  go_wp2_with fail
  refine (k5.out _).mono ?_
  rintro x w5 ⟨rfl, hB5⟩
  go_wp2_with fail
  refine (k6.out _).mono ?_
  rintro x w6 ⟨rfl, hB6⟩
  go_wp2_with fail
  refine (alive_any _).mono ?_
  rintro x w7 ⟨rfl, hB7⟩
  go_wp2
  go_ret
  exact ⟨rfl, ((Below.refl _ w).alloc (Nat.le_refl _) _).trans ((hB1.trans ((hB2.trans ((hB3.trans ((hB4.trans ((hB5.trans ((hB6.trans ((hB7).mono hB6.size)).mono hB5.size)).mono hB4.size)).mono hB3.size)).mono hB2.size)).mono hB1.size)).mono ((Below.refl _ w).alloc (Nat.le_refl _) _).size)⟩
set_option maxRecDepth 100000 in
set_option maxHeartbeats 2000000 in
theorem moves_last (a e n d C : Int) (L : Int) (hL0 : 0 ≤ L) (hL : L ≤ n) (w : World) (ha : U a) (hn : U n) (hd : U d) (h1 : ¬ 18446744073709551615 - a < d) (h2 : ¬ 18446744073709551615 - n < d)
    (k1 : Hid (∀ w, Calls Try.prog 10 #[.int .u64 a, .int .u64 e, .int .u64 n] w fun x w' => x = .returned (.tuple #[.int .u64 L, .bool true]) ∧ Below w.heap.size w w'))
    (k2 : Hid (∀ w, Calls Try.prog 10 #[.int .u64 (a + d), .int .u64 e, .int .u64 (n + d)] w fun x w' => x = .returned (.tuple #[.int .u64 (L + d), .bool true]) ∧ Below w.heap.size w w'))
    (k3 : Hid (∀ w, Calls Try.prog 15 #[.int .u64 a, .int .u64 e, .int .u64 n] w fun x w' => x = .returned (.int .u64 C) ∧ Below w.heap.size w w'))
    (k4 : Hid (∀ w, Calls Try.prog 15 #[.int .u64 (a + d), .int .u64 e, .int .u64 (n + d)] w fun x w' => x = .returned (.int .u64 C) ∧ Below w.heap.size w w'))
    (k5 : Hid (∀ w, Calls Try.prog 8 #[.int .u64 a, .int .u64 e, .int .u64 n] w fun x w' => x = .returned (.tuple #[.int .u64 0, .bool false]) ∧ Below w.heap.size w w'))
    (k6 : Hid (∀ w, Calls Try.prog 8 #[.int .u64 (a + d), .int .u64 e, .int .u64 (n + d)] w fun x w' => x = .returned (.tuple #[.int .u64 0, .bool false]) ∧ Below w.heap.size w w')) :
    Calls Try.prog 6 #[.int .u64 a, .int .u64 e, .agg #[.int .u64 n, .int .u64 d]] w fun x w' => x = .returned (.bool true) ∧ Below w.heap.size w w' := by
  obtain ⟨a0, a1⟩ := ha
  obtain ⟨n0, n1⟩ := hn
  obtain ⟨d0, d1⟩ := hd
  have e1 : decide (18446744073709551615 - a < d) = false := decide_eq_false h1
  have e2 : decide (18446744073709551615 - n < d) = false := decide_eq_false h2
  have e3 : (C != C) = false := by simp
  have e4 : (L + d != L + d) = false := by simp
  go_enter Try.func6, Try.ntmps6
  go_wp2_with fail
  refine (k1.out _).mono ?_
  rintro x w1 ⟨rfl, hB1⟩
  go_wp2_with fail
  refine (k2.out _).mono ?_
  rintro x w2 ⟨rfl, hB2⟩
  go_wp2_with fail
  refine (k3.out _).mono ?_
  rintro x w3 ⟨rfl, hB3⟩
  go_wp2_with fail
  refine (k4.out _).mono ?_
  rintro x w4 ⟨rfl, hB4⟩
  go_wp2_with fail
  refine (k5.out _).mono ?_
  rintro x w5 ⟨rfl, hB5⟩
  go_wp2_with fail
  refine (k6.out _).mono ?_
  rintro x w6 ⟨rfl, hB6⟩
  go_wp2_with fail
  refine (alive_any _).mono ?_
  rintro x w7 ⟨rfl, hB7⟩
  go_wp2
  go_ret
  exact ⟨rfl, ((Below.refl _ w).alloc (Nat.le_refl _) _).trans ((hB1.trans ((hB2.trans ((hB3.trans ((hB4.trans ((hB5.trans ((hB6.trans ((hB7).mono hB6.size)).mono hB5.size)).mono hB4.size)).mono hB3.size)).mono hB2.size)).mono hB1.size)).mono ((Below.refl _ w).alloc (Nat.le_refl _) _).size)⟩
set_option maxRecDepth 100000 in
set_option maxHeartbeats 2000000 in
theorem moves_over (a e n d C : Int) (L X : Int) (hL0 : 0 ≤ L) (hL : L ≤ n) (hX0 : 0 ≤ X) (hX1 : X < 18446744073709551616) (hX : 18446744073709551615 - X < d) (w : World) (ha : U a) (hn : U n) (hd : U d) (h1 : ¬ 18446744073709551615 - a < d) (h2 : ¬ 18446744073709551615 - n < d)
    (k1 : Hid (∀ w, Calls Try.prog 10 #[.int .u64 a, .int .u64 e, .int .u64 n] w fun x w' => x = .returned (.tuple #[.int .u64 L, .bool true]) ∧ Below w.heap.size w w'))
    (k2 : Hid (∀ w, Calls Try.prog 10 #[.int .u64 (a + d), .int .u64 e, .int .u64 (n + d)] w fun x w' => x = .returned (.tuple #[.int .u64 (L + d), .bool true]) ∧ Below w.heap.size w w'))
    (k3 : Hid (∀ w, Calls Try.prog 15 #[.int .u64 a, .int .u64 e, .int .u64 n] w fun x w' => x = .returned (.int .u64 C) ∧ Below w.heap.size w w'))
    (k4 : Hid (∀ w, Calls Try.prog 15 #[.int .u64 (a + d), .int .u64 e, .int .u64 (n + d)] w fun x w' => x = .returned (.int .u64 C) ∧ Below w.heap.size w w'))
    (k5 : Hid (∀ w, Calls Try.prog 8 #[.int .u64 a, .int .u64 e, .int .u64 n] w fun x w' => x = .returned (.tuple #[.int .u64 X, .bool true]) ∧ Below w.heap.size w w'))
    (k6 : Hid (∀ w, Calls Try.prog 8 #[.int .u64 (a + d), .int .u64 e, .int .u64 (n + d)] w fun x w' => x = .returned (.tuple #[.int .u64 0, .bool false]) ∧ Below w.heap.size w w')) :
    Calls Try.prog 6 #[.int .u64 a, .int .u64 e, .agg #[.int .u64 n, .int .u64 d]] w fun x w' => x = .returned (.bool true) ∧ Below w.heap.size w w' := by
  obtain ⟨a0, a1⟩ := ha
  obtain ⟨n0, n1⟩ := hn
  obtain ⟨d0, d1⟩ := hd
  have e1 : decide (18446744073709551615 - a < d) = false := decide_eq_false h1
  have e2 : decide (18446744073709551615 - n < d) = false := decide_eq_false h2
  have e3 : (C != C) = false := by simp
  have e4 : (L + d != L + d) = false := by simp
  have e5 : decide (18446744073709551615 - X < d) = true := decide_eq_true hX
  go_enter Try.func6, Try.ntmps6
  go_wp2_with fail
  refine (k1.out _).mono ?_
  rintro x w1 ⟨rfl, hB1⟩
  go_wp2_with fail
  refine (k2.out _).mono ?_
  rintro x w2 ⟨rfl, hB2⟩
  go_wp2_with fail
  refine (k3.out _).mono ?_
  rintro x w3 ⟨rfl, hB3⟩
  go_wp2_with fail
  refine (k4.out _).mono ?_
  rintro x w4 ⟨rfl, hB4⟩
  go_wp2_with fail
  refine (k5.out _).mono ?_
  rintro x w5 ⟨rfl, hB5⟩
  go_wp2_with fail
  refine (k6.out _).mono ?_
  rintro x w6 ⟨rfl, hB6⟩
  go_wp2_with fail
  refine (alive_any _).mono ?_
  rintro x w7 ⟨rfl, hB7⟩
  go_wp2
  go_ret
  exact ⟨rfl, ((Below.refl _ w).alloc (Nat.le_refl _) _).trans ((hB1.trans ((hB2.trans ((hB3.trans ((hB4.trans ((hB5.trans ((hB6.trans ((hB7).mono hB6.size)).mono hB5.size)).mono hB4.size)).mono hB3.size)).mono hB2.size)).mono hB1.size)).mono ((Below.refl _ w).alloc (Nat.le_refl _) _).size)⟩
set_option maxRecDepth 100000 in
set_option maxHeartbeats 2000000 in
theorem moves_more (a e n d C : Int) (L X : Int) (hL0 : 0 ≤ L) (hL : L ≤ n) (hX0 : 0 ≤ X) (hX1 : X < 18446744073709551616) (hX : ¬ 18446744073709551615 - X < d) (w : World) (ha : U a) (hn : U n) (hd : U d) (h1 : ¬ 18446744073709551615 - a < d) (h2 : ¬ 18446744073709551615 - n < d)
    (k1 : Hid (∀ w, Calls Try.prog 10 #[.int .u64 a, .int .u64 e, .int .u64 n] w fun x w' => x = .returned (.tuple #[.int .u64 L, .bool true]) ∧ Below w.heap.size w w'))
    (k2 : Hid (∀ w, Calls Try.prog 10 #[.int .u64 (a + d), .int .u64 e, .int .u64 (n + d)] w fun x w' => x = .returned (.tuple #[.int .u64 (L + d), .bool true]) ∧ Below w.heap.size w w'))
    (k3 : Hid (∀ w, Calls Try.prog 15 #[.int .u64 a, .int .u64 e, .int .u64 n] w fun x w' => x = .returned (.int .u64 C) ∧ Below w.heap.size w w'))
    (k4 : Hid (∀ w, Calls Try.prog 15 #[.int .u64 (a + d), .int .u64 e, .int .u64 (n + d)] w fun x w' => x = .returned (.int .u64 C) ∧ Below w.heap.size w w'))
    (k5 : Hid (∀ w, Calls Try.prog 8 #[.int .u64 a, .int .u64 e, .int .u64 n] w fun x w' => x = .returned (.tuple #[.int .u64 X, .bool true]) ∧ Below w.heap.size w w'))
    (k6 : Hid (∀ w, Calls Try.prog 8 #[.int .u64 (a + d), .int .u64 e, .int .u64 (n + d)] w fun x w' => x = .returned (.tuple #[.int .u64 (X + d), .bool true]) ∧ Below w.heap.size w w')) :
    Calls Try.prog 6 #[.int .u64 a, .int .u64 e, .agg #[.int .u64 n, .int .u64 d]] w fun x w' => x = .returned (.bool true) ∧ Below w.heap.size w w' := by
  obtain ⟨a0, a1⟩ := ha
  obtain ⟨n0, n1⟩ := hn
  obtain ⟨d0, d1⟩ := hd
  have e1 : decide (18446744073709551615 - a < d) = false := decide_eq_false h1
  have e2 : decide (18446744073709551615 - n < d) = false := decide_eq_false h2
  have e3 : (C != C) = false := by simp
  have e4 : (L + d != L + d) = false := by simp
  have e5 : decide (18446744073709551615 - X < d) = false := decide_eq_false hX
  have e6 : (X + d == X + d) = true := by simp
  go_enter Try.func6, Try.ntmps6
  go_wp2_with fail
  refine (k1.out _).mono ?_
  rintro x w1 ⟨rfl, hB1⟩
  go_wp2_with fail
  refine (k2.out _).mono ?_
  rintro x w2 ⟨rfl, hB2⟩
  go_wp2_with fail
  refine (k3.out _).mono ?_
  rintro x w3 ⟨rfl, hB3⟩
  go_wp2_with fail
  refine (k4.out _).mono ?_
  rintro x w4 ⟨rfl, hB4⟩
  go_wp2_with fail
  refine (k5.out _).mono ?_
  rintro x w5 ⟨rfl, hB5⟩
  go_wp2_with fail
  refine (k6.out _).mono ?_
  rintro x w6 ⟨rfl, hB6⟩
  go_wp2_with fail
  refine (alive_any _).mono ?_
  rintro x w7 ⟨rfl, hB7⟩
  go_wp2
  go_ret
  exact ⟨rfl, ((Below.refl _ w).alloc (Nat.le_refl _) _).trans ((hB1.trans ((hB2.trans ((hB3.trans ((hB4.trans ((hB5.trans ((hB6.trans ((hB7).mono hB6.size)).mono hB5.size)).mono hB4.size)).mono hB3.size)).mono hB2.size)).mono hB1.size)).mono ((Below.refl _ w).alloc (Nat.le_refl _) _).size)⟩
theorem moves_walk (a e n d : Int) (w : World) (ha : U a) (he : U e) (hn : U n) (hd : U d) :
    Calls Try.prog 6 #[.int .u64 a, .int .u64 e, .agg #[.int .u64 n, .int .u64 d]] w fun x w' => x = .returned (.bool true) ∧ Below w.heap.size w w' := by
  by_cases h1 : 18446744073709551615 - a < d
  · exact moves_out a e n d w ha hn hd (.inl h1)
  · by_cases h2 : 18446744073709551615 - n < d
    · exact moves_out a e n d w ha hn hd (.inr ⟨h1, h2⟩)
    · have ha' : U (a + d) := ⟨by have := ha.1; have := hd.1; omega, by omega⟩
      have hn' : U (n + d) := ⟨by have := hn.1; have := hd.1; omega, by omega⟩
      have k1 := last_any a e n ha he hn
      have k2 := last_any (a + d) e (n + d) ha' he hn'
      have k3 := count_any a e n ha he hn
      have k4 := count_any (a + d) e (n + d) ha' he hn'
      have k5 := next_any a e n ha he hn
      have k6 := next_any (a + d) e (n + d) ha' he hn'
      rw [cnt_by] at k4
      by_cases h : n < a
      · have h' : n + d < a + d := by omega
        rw [show lst a e n = 0 from if_pos h, show (!decide (n < a)) = false from by simp [h]] at k1
        rw [show lst (a + d) e (n + d) = 0 from if_pos h', show (!decide (n + d < a + d)) = false from by simp [h']] at k2
        rw [show nxt a e n = a from if_pos h, show isN a e n = true from by simp [isN, h]] at k5
        rw [show nxt (a + d) e (n + d) = a + d from if_pos h', show isN (a + d) e (n + d) = true from by simp [isN, h']] at k6
        exact moves_ahead a e n d _ w ha hn hd h1 h2 ⟨k1⟩ ⟨k2⟩ ⟨k3⟩ ⟨k4⟩ ⟨k5⟩ ⟨k6⟩
      · have h' : ¬ n + d < a + d := by omega
        obtain ⟨b1, b2, b3, b4, b5, b6⟩ := bey_bd ha he hn h
        have hb := bey_by a e n d
        have a0 := ha.1
        have e0 := he.1
        have d0 := hd.1
        have n1 := hn.2
        rw [show lst a e n = n - bey a e n from if_neg h, show (!decide (n < a)) = true from by simp [h]] at k1
        rw [show lst (a + d) e (n + d) = n + d - bey (a + d) e (n + d) from if_neg h', show (!decide (n + d < a + d)) = true from by simp [h'], hb, show n + d - bey a e n = n - bey a e n + d from by omega] at k2
        by_cases hl : e = 0 ∨ 18446744073709551615 - (n - bey a e n) < e
        · have hl' : e = 0 ∨ 18446744073709551615 - (n + d - bey (a + d) e (n + d)) < e := by rw [hb]; omega
          rw [show nxt a e n = 0 from by rw [nxt, if_neg h, if_pos hl], show isN a e n = false from by simp [isN, h]; omega] at k5
          rw [show nxt (a + d) e (n + d) = 0 from by rw [nxt, if_neg h', if_pos hl'], show isN (a + d) e (n + d) = false from by simp [isN]; omega] at k6
          exact moves_last a e n d _ (n - bey a e n) (by omega) (by omega) w ha hn hd h1 h2 ⟨k1⟩ ⟨k2⟩ ⟨k3⟩ ⟨k4⟩ ⟨k5⟩ ⟨k6⟩
        · rw [show nxt a e n = n - bey a e n + e from by rw [nxt, if_neg h, if_neg hl], show isN a e n = true from by simp [isN, h]; omega] at k5
          by_cases hX : 18446744073709551615 - (n - bey a e n + e) < d
          · have hl' : e = 0 ∨ 18446744073709551615 - (n + d - bey (a + d) e (n + d)) < e := by rw [hb]; omega
            rw [show nxt (a + d) e (n + d) = 0 from by rw [nxt, if_neg h', if_pos hl'], show isN (a + d) e (n + d) = false from by simp [isN]; omega] at k6
            exact moves_over a e n d _ (n - bey a e n) (n - bey a e n + e) (by omega) (by omega) (by omega) (by omega) hX w ha hn hd h1 h2 ⟨k1⟩ ⟨k2⟩ ⟨k3⟩ ⟨k4⟩ ⟨k5⟩ ⟨k6⟩
          · have hl' : ¬ (e = 0 ∨ 18446744073709551615 - (n + d - bey (a + d) e (n + d)) < e) := by rw [hb]; omega
            rw [show nxt (a + d) e (n + d) = n + d - bey (a + d) e (n + d) + e from by rw [nxt, if_neg h', if_neg hl'], show isN (a + d) e (n + d) = true from by simp [isN]; omega, hb, show n + d - bey a e n + e = n - bey a e n + e + d from by omega] at k6
            exact moves_more a e n d _ (n - bey a e n) (n - bey a e n + e) (by omega) (by omega) (by omega) (by omega) hX w ha hn hd h1 h2 ⟨k1⟩ ⟨k2⟩ ⟨k3⟩ ⟨k4⟩ ⟨k5⟩ ⟨k6⟩
end Go.Proofs.Ytecngalecbeajaa
