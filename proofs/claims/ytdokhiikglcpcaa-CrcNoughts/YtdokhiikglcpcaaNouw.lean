/- The walk of the law CrcNoughts: whatever the sum and the two numbers, it answers true, and nothing that lay in memory has turned. -/
import Derived.Test.YtdokhiikglcpcaaRefs
namespace Go.Proofs.Ytdokhiikglcpcaa
open Go.RowKit Go.IntWalk Crcm
set_option linter.unusedVariables false

set_option maxRecDepth 100000 in
set_option maxHeartbeats 2000000 in
theorem noughts_out (s n m : Int) (x : BitVec 32) (hs : Hid (s = U x)) (w : World)
    (h : decide (n < 0) = true ∨ (decide (n < 0) = false ∧ decide (3000 < n) = true) ∨ (decide (n < 0) = false ∧ decide (3000 < n) = false ∧ decide (m < 0) = true) ∨ (decide (n < 0) = false ∧ decide (3000 < n) = false ∧ decide (m < 0) = false ∧ decide (3000 < m) = true)) :
    Calls Try.prog 6 #[.int .u32 s, .int .i64 n, .int .i64 m] w fun e w' => e = .returned (.bool true) ∧ Below w.heap.size w w' := by
  rcases h with h1 | ⟨h1, h2⟩ | ⟨h1, h2, h3⟩ | ⟨h1, h2, h3, h4⟩
  all_goals
    go_enter Try.func6, Try.ntmps6
    go_wp2_with fail
    refine (alive_any w).mono ?_
    rintro e w1 ⟨rfl, hB1⟩
    go_wp2_with fail
    refine (noughts_any s (-1) x hs (by decide) w1).mono ?_
    rintro e w2 ⟨d, rfl, hd, rfl⟩
    have e1 : d = s := by rw [hd.out, hs.out]; exact congrArg U (noughts_zero x)
    subst e1
    go_wp2
    go_ret
    exact ⟨rfl, hB1⟩

set_option maxRecDepth 100000 in
set_option maxHeartbeats 2000000 in
theorem noughts_in (s n m : Int) (x : BitVec 32) (hs : Hid (s = U x)) (w : World)
    (h1 : 0 ≤ n) (h2 : n ≤ 3000) (h3 : 0 ≤ m) (h4 : m ≤ 3000) :
    Calls Try.prog 6 #[.int .u32 s, .int .i64 n, .int .i64 m] w fun e w' => e = .returned (.bool true) ∧ Below w.heap.size w w' := by
  go_enter Try.func6, Try.ntmps6
  go_wp2_with fail
  refine (alive_any w).mono ?_
  rintro e w1 ⟨rfl, hB1⟩
  go_wp2_with fail
  refine (noughts_any s n x hs (by omega) w1).mono ?_
  rintro e w2 ⟨d1, rfl, hd1, rfl⟩
  go_wp2_with fail
  refine (noughts_any d1 m _ hd1 (by omega) w1).mono ?_
  rintro e w2 ⟨d2, rfl, hd2, rfl⟩
  go_wp2_with fail
  refine (noughts_any s (n + m) x hs (by omega) w1).mono ?_
  rintro e w2 ⟨d3, rfl, hd3, rfl⟩
  have e1 : d3 = d2 := by rw [hd3.out, hd2.out, noughts_add, show (n + m).toNat = n.toNat + m.toNat from by omega]
  subst e1
  go_wp2_with fail
  refine (noughts_any s 0 x hs (by decide) w1).mono ?_
  rintro e w2 ⟨d4, rfl, hd4, rfl⟩
  have e2 : d4 = s := by rw [hd4.out, hs.out]; exact congrArg U (noughts_zero x)
  subst e2
  obtain ⟨v5, w5, hrun5, hb5, hB5⟩ := made w1 n h1 h2
  go_wp2_with fail
  refine (more_any d4 x hs v5 _ w5 hb5).mono ?_
  rintro e w6 ⟨d5, rfl, hd5, hB6⟩
  go_wp2_with fail
  refine (noughts_any d4 n x hs (by omega) w6).mono ?_
  rintro e w7 ⟨d6, rfl, hd6, rfl⟩
  have e3 : d6 = d5 := by rw [hd6.out, hd5.out, noughts_more, bts_noughts]
  subst e3
  go_wp2
  go_ret
  exact ⟨rfl, hB1.trans ((hB5.trans (hB6.mono hB5.size)).mono hB1.size)⟩
theorem noughts_walk (s n m : Int) (w : World) (h0 : 0 ≤ s) (h1 : s < 4294967296) :
    Calls Try.prog 6 #[.int .u32 s, .int .i64 n, .int .i64 m] w fun e w' => e = .returned (.bool true) ∧ Below w.heap.size w w' := by
  obtain ⟨x, hx⟩ := U_of h0 h1
  by_cases c1 : n < 0
  · exact noughts_out s n m x hx w (.inl (by simpa using c1))
  · by_cases c2 : 3000 < n
    · exact noughts_out s n m x hx w (.inr (.inl ⟨by simpa using c1, by simpa using c2⟩))
    · by_cases c3 : m < 0
      · exact noughts_out s n m x hx w (.inr (.inr (.inl ⟨by simpa using c1, by simpa using c2, by simpa using c3⟩)))
      · by_cases c4 : 3000 < m
        · exact noughts_out s n m x hx w (.inr (.inr (.inr ⟨by simpa using c1, by simpa using c2, by simpa using c3, by simpa using c4⟩)))
        · exact noughts_in s n m x hx w (by omega) (by omega) (by omega) (by omega)
end Go.Proofs.Ytdokhiikglcpcaa
