/- The walk of the law CalendarTells: whatever the deadline, the step and the tick, it answers true, and nothing that lay in memory has turned. -/
import Derived.Test.YtecngalecbeajaaLive
namespace Go.Proofs.Ytecngalecbeajaa
open Go.RowKit Go.IntWalk
set_option linter.unusedVariables false

set_option maxRecDepth 100000 in
set_option maxHeartbeats 2000000 in
theorem tells_walk (a e n : Int) (w : World) (ha : U a) (he : U e) (hn : U n) :
    Calls Try.prog 3 #[.int .u64 a, .int .u64 e, .int .u64 n] w fun x w' => x = .returned (.bool true) ∧ Below w.heap.size w w' := by
  obtain ⟨N, hN⟩ : ∃ N, Hid (nxt a e n = N) := ⟨_, ⟨rfl⟩⟩
  obtain ⟨iN, hiN⟩ : ∃ N, Hid (isN a e n = N) := ⟨_, ⟨rfl⟩⟩
  obtain ⟨L, hL⟩ : ∃ N, Hid (lst a e n = N) := ⟨_, ⟨rfl⟩⟩
  obtain ⟨iL, hiL⟩ : ∃ N, Hid ((!decide (n < a)) = N) := ⟨_, ⟨rfl⟩⟩
  obtain ⟨I, hI⟩ : ∃ N, Hid (idx a e n = N) := ⟨_, ⟨rfl⟩⟩
  obtain ⟨iI, hiI⟩ : ∃ N, Hid (isI a e n = N) := ⟨_, ⟨rfl⟩⟩
  obtain ⟨C, hC⟩ : ∃ N, Hid (cnt a e n = N) := ⟨_, ⟨rfl⟩⟩
  obtain ⟨P, hP⟩ : ∃ N, Hid (pls a e = N) := ⟨_, ⟨rfl⟩⟩
  have k1 := next_any a e n ha he hn
  have k2 := rnext_any a e n ha he hn
  have k3 := last_any a e n ha he hn
  have k4 := rlast_any a e n ha he hn
  have k5 := index_any a e n ha he hn
  have k6 := rindex_any a e n ha he hn
  have k7 := count_any a e n ha he hn
  have k8 := rcount_any a e n ha he hn
  have k9 := plus_any a e ha he
  have k10 := rplus_any a e ha he
  rw [hN.out, hiN.out] at k1 k2
  rw [hL.out, hiL.out] at k3 k4
  rw [hI.out, hiI.out] at k5 k6
  rw [hC.out] at k7 k8
  rw [hP.out] at k9 k10
  replace k1 := Hid.mk k1
  replace k2 := Hid.mk k2
  replace k3 := Hid.mk k3
  replace k4 := Hid.mk k4
  replace k5 := Hid.mk k5
  replace k6 := Hid.mk k6
  replace k7 := Hid.mk k7
  replace k8 := Hid.mk k8
  replace k9 := Hid.mk k9
  replace k10 := Hid.mk k10
  clear hN hiN hL hiL hI hiI hC hP
  have q1 : (N == N) = true := beq_self_eq_true _
  have q2 : (iN == iN) = true := beq_self_eq_true _
  have q3 : (L == L) = true := beq_self_eq_true _
  have q4 : (iL == iL) = true := beq_self_eq_true _
  have q5 : (I == I) = true := beq_self_eq_true _
  have q6 : (iI == iI) = true := beq_self_eq_true _
  have q7 : (C == C) = true := beq_self_eq_true _
  have q8 : (P == P) = true := beq_self_eq_true _
  go_enter Try.func3, Try.ntmps3
  go_wp2_with fail
  refine (k1.out _).mono ?_
  rintro x w1 ⟨rfl, hB1⟩
  go_wp2_with fail
  refine (k2.out _).mono ?_
  rintro x w0 ⟨rfl, rfl⟩
  go_wp2_with fail
  refine (k3.out _).mono ?_
  rintro x w2 ⟨rfl, hB2⟩
  go_wp2_with fail
  refine (k4.out _).mono ?_
  rintro x w0 ⟨rfl, rfl⟩
  go_wp2_with fail
  refine (k5.out _).mono ?_
  rintro x w3 ⟨rfl, hB3⟩
  go_wp2_with fail
  refine (k6.out _).mono ?_
  rintro x w0 ⟨rfl, rfl⟩
  go_wp2_with fail
  refine (alive_any _).mono ?_
  rintro x w4 ⟨rfl, hB4⟩
  go_wp2_with fail
  refine (k7.out _).mono ?_
  rintro x w5 ⟨rfl, hB5⟩
  go_wp2_with fail
  refine (k8.out _).mono ?_
  rintro x w0 ⟨rfl, rfl⟩
  go_wp2_with fail
  refine (k9.out _).mono ?_
  rintro x w0 ⟨rfl, rfl⟩
  go_wp2_with fail
  refine (k10.out _).mono ?_
  rintro x w0 ⟨rfl, rfl⟩
  go_wp2
  go_ret
  exact ⟨rfl, hB1.trans ((hB2.trans ((hB3.trans ((hB4.trans ((hB5).mono hB4.size)).mono hB3.size)).mono hB2.size)).mono hB1.size)⟩
end Go.Proofs.Ytecngalecbeajaa
