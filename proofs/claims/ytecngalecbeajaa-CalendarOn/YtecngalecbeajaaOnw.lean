/- The walk of the law CalendarOn: whatever the deadline, the step and the number, it answers true, and nothing that lay in memory has turned. -/
import Derived.Test.YtecngalecbeajaaBetw
namespace Go.Proofs.Ytecngalecbeajaa
open Go.RowKit Go.IntWalk
set_option linter.unusedVariables false

theorem occ_bey {a e T j : Int} (he : U e) (hj : 0 ≤ j) (hT : T = a + e * j) : bey a e T = 0 ∧ ¬ T < a := by
  subst hT
  have h3 : 0 ≤ e * j := Int.mul_nonneg he.1 hj
  refine ⟨?_, by omega⟩
  by_cases h0 : e = 0
  · subst h0
    exact (if_pos rfl : bey a 0 (a + 0 * j) = a + 0 * j - a).trans (by rw [Int.zero_mul]; omega)
  · exact (ahd_occ (by have := he.1; omega)).2
/-- Next of an occurrence that is the last one. -/
theorem next_occ_end {a e T j : Int} (ha : U a) (he : U e) (hU : U T) (hj : 0 ≤ j) (hT : T = a + e * j) (hl : e = 0 ∨ 18446744073709551615 - T < e) (w : World) :
    Calls Try.prog 8 #[.int .u64 a, .int .u64 e, .int .u64 T] w fun x w' => x = .returned (.tuple #[.int .u64 0, .bool false]) ∧ Below w.heap.size w w' := by
  obtain ⟨hb, hn⟩ := occ_bey he hj hT
  have k := next_any a e T ha he hU w
  have hl' : e = 0 ∨ 18446744073709551615 - (T - bey a e T) < e := by rw [hb, Int.sub_zero]; exact hl
  rwa [show nxt a e T = 0 from by rw [nxt, if_neg hn, if_pos hl'], show isN a e T = false from by simp [isN, hn]; omega] at k
/-- Next of an occurrence that is not. -/
theorem next_occ_more {a e T j : Int} (ha : U a) (he : U e) (hU : U T) (hj : 0 ≤ j) (hT : T = a + e * j) (hl : ¬ (e = 0 ∨ 18446744073709551615 - T < e)) (w : World) :
    Calls Try.prog 8 #[.int .u64 a, .int .u64 e, .int .u64 T] w fun x w' => x = .returned (.tuple #[.int .u64 (T + e), .bool true]) ∧ Below w.heap.size w w' := by
  obtain ⟨hb, hn⟩ := occ_bey he hj hT
  have k := next_any a e T ha he hU w
  have hl' : ¬ (e = 0 ∨ 18446744073709551615 - (T - bey a e T) < e) := by rw [hb, Int.sub_zero]; exact hl
  rw [show nxt a e T = T - bey a e T + e from by rw [nxt, if_neg hn, if_neg hl'], show isN a e T = true from by simp [isN, hn]; omega, hb, Int.sub_zero] at k
  exact k
/-- Index of an occurrence. -/
theorem index_occ {a e T j : Int} (ha : U a) (he : U e) (h0 : 0 < e) (hU : U T) (hj : 0 ≤ j) (hT : T = a + e * j) (w : World) :
    Calls Try.prog 12 #[.int .u64 a, .int .u64 e, .int .u64 T] w fun x w' => x = .returned (.tuple #[.int .u64 j, .bool true]) ∧ Below w.heap.size w w' := by
  have k := index_any a e T ha he hU w
  rw [hT, (idx_occ h0 hj).1, (idx_occ h0 hj).2] at k
  rw [hT]
  exact k
set_option maxRecDepth 100000 in
set_option maxHeartbeats 2000000 in
theorem on_out (a e n : Int) (w : World) (h : decide (n < 0) = true ∨ (decide (n < 0) = false ∧ decide (100 < n) = true)) :
    Calls Try.prog 5 #[.int .u64 a, .int .u64 e, .int .i64 n] w fun x w' => x = .returned (.bool true) ∧ Below w.heap.size w w' := by
  rcases h with h1 | ⟨h1, h2⟩
  all_goals
    go_enter Try.func5, Try.ntmps5
    go_wp2_with fail
    refine (alive_any w).mono ?_
    rintro x w1 ⟨rfl, hB1⟩
    go_wp2
    go_ret
    exact ⟨rfl, hB1⟩
set_option maxRecDepth 100000 in
set_option maxHeartbeats 2000000 in
theorem on_in (a e n : Int) (w : World) (ha : U a) (he : U e) (h0 : 0 ≤ n) (h1 : n ≤ 100) :
    Calls Try.prog 5 #[.int .u64 a, .int .u64 e, .int .i64 n] w fun x w' => x = .returned (.bool true) ∧ Below w.heap.size w w' := by
  have he0 := he.1
  have he1 := he.2
  have ha0 := ha.1
  have ha1 := ha.2
  go_enter Try.func5, Try.ntmps5
  go_wp2
  go_loopw [7, 8] (fun t i wr => ∃ (k T : Int), 1 ≤ k ∧ k ≤ n + 1 ∧ i = .int .i64 k ∧ t = .int .u64 T ∧ 0 ≤ T ∧ T < 18446744073709551616 ∧ Hid (T = a + e * (k - 1)) ∧ Below w.heap.size w wr) (fun _ i _ => (n + 1 - intOf i).toNat)
  case atStart => exact ⟨1, a, by omega, by omega, rfl, rfl, ha0, ha1, ⟨by omega⟩, Below.refl _ _⟩
  case round =>
    obtain ⟨k, T, hk0, hk1, rfl, rfl, hT0, hT1, hT, hB⟩ := hrel
    by_cases hlt : k ≤ n
    · have hU : U T := ⟨hT0, hT1⟩
      by_cases hl : e = 0 ∨ 18446744073709551615 - T < e
      · by_cases hz : e = 0
        · have d1 : (e == 0) = true := beq_iff_eq.2 hz
          have d2 : decide (0 < e) = false := decide_eq_false (by omega)
          replace hz := Hid.mk hz
          replace hl := Hid.mk hl
          go_wp2_with fail
          refine (next_occ_end ha he hU (by omega) hT.out hl.out _).mono ?_
          rintro x w1 ⟨rfl, hB1⟩
          go_wp2_with fail
          refine (alive_any _).mono ?_
          rintro x w2 ⟨rfl, hB2⟩
          go_wp2
          go_ret
          exact ⟨rfl, hB.trans ((hB1.trans (hB2.mono hB1.size)).mono hB.size)⟩
        · have d1 : (e == 0) = false := beq_eq_false_iff_ne.2 hz
          have d2 : decide (0 < e) = true := decide_eq_true (by omega)
          have d3 : decide (e ≤ 18446744073709551615 - T) = false := decide_eq_false (by omega)
          have d4 : pls T e = 18446744073709551615 := if_pos (by omega)
          have kp := plus_any T e hU he
          rw [d4] at kp
          replace kp := Hid.mk kp
          replace hl := Hid.mk hl
          clear d4
          go_wp2_with fail
          refine (next_occ_end ha he hU (by omega) hT.out hl.out _).mono ?_
          rintro x w1 ⟨rfl, hB1⟩
          go_wp2_with fail
          refine (alive_any _).mono ?_
          rintro x w2 ⟨rfl, hB2⟩
          go_wp2_with fail
          refine (kp.out _).mono ?_
          rintro x w3 ⟨rfl, rfl⟩
          go_wp2
          go_ret
          exact ⟨rfl, hB.trans ((hB1.trans (hB2.mono hB1.size)).mono hB.size)⟩
      · have hz : ¬ e = 0 := by omega
        have d2 : decide (0 < e) = true := decide_eq_true (by omega)
        have d3 : decide (e ≤ 18446744073709551615 - T) = true := decide_eq_true (by omega)
        have d4 : pls T e = T + e := if_neg (by omega)
        have hT' : T + e = a + e * k := by
          have h1 := hT.out
          rw [Int.mul_sub, Int.mul_one] at h1
          omega
        have hU' : U (T + e) := ⟨by omega, by omega⟩
        have ki := index_occ ha he (by omega) hU' (by omega) hT'
        have kp := plus_any T e hU he
        rw [d4] at kp
        replace kp := Hid.mk kp
        replace ki := Hid.mk ki
        have hl' := Hid.mk hl
        replace hT' := Hid.mk hT'
        have d5 : (k != k) = false := by simp
        have d6 : (T + e != T + e) = false := by simp
        clear d4
        go_wp2_with fail
        refine (next_occ_more ha he hU (by omega) hT.out hl'.out _).mono ?_
        rintro x w1 ⟨rfl, hB1⟩
        go_wp2_with fail
        refine (ki.out _).mono ?_
        rintro x w2 ⟨rfl, hB2⟩
        go_wp2_with fail
        refine (kp.out _).mono ?_
        rintro x w3 ⟨rfl, rfl⟩
        go_wp2
        go_roundw
        case rel => exact ⟨k + 1, T + e, by omega, by omega, by go_num, rfl, hU'.1, hU'.2, ⟨by rw [hT'.out, show k + 1 - 1 = k from by omega]⟩, hB.trans ((hB1.trans (hB2.mono hB1.size)).mono hB.size)⟩
        case measure => simp [intOf]; omega
    · go_wp2_with fail
      refine (alive_any _).mono ?_
      rintro x w2 ⟨rfl, hB2⟩
      go_wp2
      go_ret
      exact ⟨rfl, hB.trans (hB2.mono hB.size)⟩
theorem on_walk (a e n : Int) (w : World) (ha : U a) (he : U e) :
    Calls Try.prog 5 #[.int .u64 a, .int .u64 e, .int .i64 n] w fun x w' => x = .returned (.bool true) ∧ Below w.heap.size w w' := by
  by_cases h1 : n < 0
  · exact on_out a e n w (.inl (decide_eq_true h1))
  · by_cases h2 : 100 < n
    · exact on_out a e n w (.inr ⟨decide_eq_false h1, decide_eq_true h2⟩)
    · exact on_in a e n w ha he (by omega) (by omega)
end Go.Proofs.Ytecngalecbeajaa
