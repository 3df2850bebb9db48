/- The walk of the law CalendarCounts: whatever the deadline, the step and the two ticks, it answers true, and nothing that lay in memory has turned. -/
import Derived.Test.YtecngalecbeajaaBetw
namespace Go.Proofs.Ytecngalecbeajaa
open Go.RowKit Go.IntWalk
set_option linter.unusedVariables false

theorem pls_U {a b : Int} (ha : U a) (hb : U b) : U (pls a b) := by
  obtain ⟨a0, a1⟩ := ha
  obtain ⟨b0, b1⟩ := hb
  unfold pls
  split
  · exact ⟨by decide, by decide⟩
  · exact ⟨by omega, by omega⟩
theorem pls_le {a b : Int} (ha : U a) (hb : U b) : a ≤ pls a b := by
  obtain ⟨a0, a1⟩ := ha
  obtain ⟨b0, b1⟩ := hb
  unfold pls
  split <;> omega
theorem pls_comm (a b : Int) : pls a b = pls b a := by
  unfold pls
  split <;> split <;> omega
theorem pls_assoc {a b c : Int} (ha : U a) (hb : U b) (hc : U c) : pls (pls a b) c = pls a (pls b c) := by
  obtain ⟨a0, a1⟩ := ha
  obtain ⟨b0, b1⟩ := hb
  obtain ⟨c0, c1⟩ := hc
  unfold pls
  repeat' split
  all_goals omega
theorem cnt_U {a e n : Int} (ha : U a) (he : U e) (hn : U n) : U (cnt a e n) := by
  unfold cnt
  split
  · exact ⟨by decide, by decide⟩
  · obtain ⟨b1, b2, b3, b4, b5, b6⟩ := bey_bd ha he hn (by omega)
    exact pls_U ⟨b3, by have := hn.2; have := ha.1; omega⟩ ⟨by decide, by decide⟩
theorem cnt_some {a e n : Int} (h : ¬ n < a) (h1 : cnt a e n < 18446744073709551615) : cnt a e n = ahd a e n + 1 := by
  rw [show cnt a e n = pls (ahd a e n) 1 from if_neg h] at h1 ⊢
  unfold pls at h1 ⊢
  split <;> simp_all
theorem cnt_pos {a e n : Int} (ha : U a) (he : U e) (hn : U n) (h : ¬ n < a) : 0 < cnt a e n := by
  obtain ⟨b1, b2, b3, b4, b5, b6⟩ := bey_bd ha he hn h
  rw [show cnt a e n = pls (ahd a e n) 1 from if_neg h]
  unfold pls
  split <;> omega
theorem ahd_mono {a e n m : Int} (ha : U a) (he : U e) (h : n ≤ m) : ahd a e n ≤ ahd a e m := by
  unfold ahd
  split
  · exact Int.le_refl _
  · exact Int.ediv_le_ediv (by have := he.1; omega) (by omega)
/-- At a later tick no fewer have passed. -/
theorem cnt_mono {a e n m : Int} (ha : U a) (he : U e) (hn : U n) (hm : U m) (h : n ≤ m) : cnt a e n ≤ cnt a e m := by
  by_cases h1 : n < a
  · rw [show cnt a e n = 0 from if_pos h1]
    exact (cnt_U ha he hm).1
  · have h2 : ¬ m < a := by omega
    rw [show cnt a e n = pls (ahd a e n) 1 from if_neg h1, show cnt a e m = pls (ahd a e m) 1 from if_neg h2]
    have := ahd_mono ha he h
    unfold pls
    split <;> split <;> omega
/-- Where more are to come, the next one does, and it is the one behind. -/
theorem nxt_comes {a e T b : Int} (ha : U a) (he : U e) (hT : U T) (hb : U b) (h : T ≤ b) (h1 : cnt a e T < cnt a e b) (h2 : cnt a e b < 18446744073709551615) :
    isN a e T = true ∧ nxt a e T ≤ b ∧ U (nxt a e T) ∧ cnt a e (nxt a e T) = cnt a e T + 1 := by
  have a0 := ha.1
  have b1 := hb.2
  by_cases hTa : T < a
  · have hba : ¬ b < a := fun hba => by
      rw [show cnt a e b = 0 from if_pos hba] at h1
      have := (cnt_U ha he hT).1
      omega
    rw [show nxt a e T = a from if_pos hTa, show cnt a e T = 0 from if_pos hTa]
    refine ⟨by simp [isN, hTa], by omega, ha, ?_⟩
    have haa : ¬ a < a := by omega
    have hq : ahd a e a = 0 := by
      unfold ahd
      rw [show a - a = 0 from by omega, Int.zero_ediv]
      simp
    rw [show cnt a e a = pls (ahd a e a) 1 from if_neg haa, hq]
    decide
  · have hba : ¬ b < a := by omega
    have e1 := cnt_some (e := e) hTa (by omega)
    have e2 := cnt_some hba h2
    obtain ⟨p1, p2, p3, p4, p5, p6⟩ := bey_bd ha he hT hTa
    obtain ⟨q1, q2, q3, q4, q5, q6⟩ := bey_bd ha he hb hba
    have h0 : ¬ e = 0 := fun h0 => by
      subst h0
      have z1 : ahd a 0 T = 0 := if_pos rfl
      have z2 : ahd a 0 b = 0 := if_pos rfl
      omega
    have hp : 0 < e := by have := he.1; omega
    have hm : e * (ahd a e T + 1) ≤ e * ahd a e b := Int.mul_le_mul_of_nonneg_left (by omega) (by omega)
    rw [Int.mul_add, Int.mul_one] at hm
    have hl : ¬ (e = 0 ∨ 18446744073709551615 - (T - bey a e T) < e) := by omega
    have hx : nxt a e T = T - bey a e T + e := by rw [nxt, if_neg hTa, if_neg hl]
    have hx' : nxt a e T = a + e * (ahd a e T + 1) := by rw [hx, Int.mul_add, Int.mul_one]; omega
    refine ⟨by simp [isN]; omega, by omega, ⟨by omega, by omega⟩, ?_⟩
    have hxa : ¬ nxt a e T < a := by omega
    rw [show cnt a e (nxt a e T) = pls (ahd a e (nxt a e T)) 1 from if_neg hxa, hx', (ahd_occ hp).1, e1]
    exact if_neg (by omega)
/-- Where no more are to come, none does. -/
theorem nxt_beyond {a e T b : Int} (ha : U a) (he : U e) (hT : U T) (hb : U b) (h : T ≤ b) (h1 : cnt a e T = cnt a e b) (h2 : cnt a e b < 18446744073709551615) (hN : isN a e T = true) : b < nxt a e T := by
  by_cases hTa : T < a
  · rw [show nxt a e T = a from if_pos hTa]
    rw [show cnt a e T = 0 from if_pos hTa] at h1
    by_cases hba : b < a
    · exact hba
    · have := cnt_pos ha he hb hba
      omega
  · have hba : ¬ b < a := by omega
    have e1 := cnt_some (e := e) hTa (by omega)
    have e2 := cnt_some hba h2
    obtain ⟨p1, p2, p3, p4, p5, p6⟩ := bey_bd ha he hT hTa
    obtain ⟨q1, q2, q3, q4, q5, q6⟩ := bey_bd ha he hb hba
    have hl : ¬ (e = 0 ∨ 18446744073709551615 - (T - bey a e T) < e) := by simpa [isN, hTa] using hN
    have hx : nxt a e T = T - bey a e T + e := by rw [nxt, if_neg hTa, if_neg hl]
    have h3 : ahd a e T = ahd a e b := by omega
    rw [h3] at p5
    have := q6 (by have := he.1; omega)
    omega
set_option maxRecDepth 100000 in
set_option maxHeartbeats 2000000 in
theorem counts_in (a e A B : Int) (w : World) (ha : U a) (he : U e) (hA : U A) (hB : U B) :
    Calls Try.prog 7 #[.int .u64 a, .int .u64 e, .agg #[.int .u64 A, .int .u64 B]] w fun x w' => x = .returned (.bool true) ∧ Below w.heap.size w w' := by
  have hw0 := (Below.refl w.heap.size w).alloc (Nat.le_refl _) (.cells #[.int .u64 A, .int .u64 B] 30)
  obtain ⟨b, hb⟩ : ∃ b, Hid (pls A B = b) := ⟨_, ⟨rfl⟩⟩
  have hbU : U b := hb.out ▸ pls_U hA hB
  have hAb : A ≤ b := hb.out ▸ pls_le hA hB
  obtain ⟨n, hn⟩ : ∃ n, Hid (cnt a e A = n) := ⟨_, ⟨rfl⟩⟩
  obtain ⟨m, hm⟩ : ∃ m, Hid (cnt a e b = m) := ⟨_, ⟨rfl⟩⟩
  have hnU : U n := hn.out ▸ cnt_U ha he hA
  have hmU : U m := hm.out ▸ cnt_U ha he hbU
  have hnm : n ≤ m := by rw [← hn.out, ← hm.out]; exact cnt_mono ha he hA hbU hAb
  obtain ⟨P, hP⟩ : ∃ P, Hid (pls a e = P) := ⟨_, ⟨rfl⟩⟩
  have hPU : U P := hP.out ▸ pls_U ha he
  obtain ⟨R, hR⟩ : ∃ R, Hid (pls e A = R) := ⟨_, ⟨rfl⟩⟩
  have hRU : U R := hR.out ▸ pls_U he hA
  obtain ⟨S, hS⟩ : ∃ S, Hid (pls P A = S) := ⟨_, ⟨rfl⟩⟩
  have hS' : pls a R = S := by rw [← hS.out, ← hP.out, ← hR.out]; exact (pls_assoc ha he hA).symm
  have k1 := plus_any A B hA hB
  rw [hb.out] at k1
  replace k1 := Hid.mk k1
  have k2 := count_any a e A ha he hA
  rw [hn.out] at k2
  replace k2 := Hid.mk k2
  have k3 := count_any a e b ha he hbU
  rw [hm.out] at k3
  replace k3 := Hid.mk k3
  have k4 := plus_any a e ha he
  rw [hP.out] at k4
  replace k4 := Hid.mk k4
  have k5 := plus_any e a he ha
  rw [pls_comm e a, hP.out] at k5
  replace k5 := Hid.mk k5
  have k6 := plus_any P A hPU hA
  rw [hS.out] at k6
  replace k6 := Hid.mk k6
  have k7 := plus_any e A he hA
  rw [hR.out] at k7
  replace k7 := Hid.mk k7
  have k8 := plus_any a R ha hRU
  rw [hS'] at k8
  replace k8 := Hid.mk k8
  clear hS'
  have c1 : decide (m < n) = false := decide_eq_false (by omega)
  have c2 : (P != P) = false := by simp
  have c3 : (S != S) = false := by simp
  obtain ⟨n0, n1⟩ := hnU
  obtain ⟨m0, m1⟩ := hmU
  have hUU : Hid (U a ∧ U e ∧ U A ∧ U B ∧ U b) := ⟨ha, he, hA, hB, hbU⟩
  obtain ⟨a0, a1⟩ := ha
  obtain ⟨e0, e1⟩ := he
  obtain ⟨A0, A1⟩ := hA
  obtain ⟨b0, b1⟩ := hbU
  replace hPU := Hid.mk hPU
  replace hRU := Hid.mk hRU
  by_cases g1 : 50 < m - n ∨ m = 18446744073709551615
  · have g : decide (50 < m - n) = true ∨ (decide (50 < m - n) = false ∧ m = 18446744073709551615) := by
      by_cases g2 : 50 < m - n
      · exact .inl (decide_eq_true g2)
      · exact .inr ⟨decide_eq_false g2, by omega⟩
    clear g1
    rcases g with g | ⟨g, g2⟩
    · skip
      go_enter Try.func7, Try.ntmps7
      go_wp2_with fail
      refine (k1.out _).mono ?_
      rintro x w1 ⟨rfl, rfl⟩
      go_wp2_with fail
      refine (k2.out _).mono ?_
      rintro x w2 ⟨rfl, hB2⟩
      go_wp2_with fail
      refine (k3.out _).mono ?_
      rintro x w3 ⟨rfl, hB3⟩
      have hB4 := hw0.trans ((hB2.trans (hB3.mono hB2.size)).mono hw0.size)
      go_wp2_with fail
      refine (k4.out _).mono ?_
      rintro x w9 ⟨rfl, rfl⟩
      go_wp2_with fail
      refine (k5.out _).mono ?_
      rintro x w9 ⟨rfl, rfl⟩
      go_wp2_with fail
      refine (k4.out _).mono ?_
      rintro x w9 ⟨rfl, rfl⟩
      go_wp2_with fail
      refine (k6.out _).mono ?_
      rintro x w9 ⟨rfl, rfl⟩
      go_wp2_with fail
      refine (k7.out _).mono ?_
      rintro x w9 ⟨rfl, rfl⟩
      go_wp2_with fail
      refine (k8.out _).mono ?_
      rintro x w9 ⟨rfl, rfl⟩
      go_wp2_with fail
      refine (alive_any _).mono ?_
      rintro x w5 ⟨rfl, hB5⟩
      go_wp2
      go_ret
      exact ⟨rfl, hB4.trans (hB5.mono hB4.size)⟩
    · have g3 : (m == 18446744073709551615) = true := beq_iff_eq.2 g2
      clear g2
      go_enter Try.func7, Try.ntmps7
      go_wp2_with fail
      refine (k1.out _).mono ?_
      rintro x w1 ⟨rfl, rfl⟩
      go_wp2_with fail
      refine (k2.out _).mono ?_
      rintro x w2 ⟨rfl, hB2⟩
      go_wp2_with fail
      refine (k3.out _).mono ?_
      rintro x w3 ⟨rfl, hB3⟩
      have hB4 := hw0.trans ((hB2.trans (hB3.mono hB2.size)).mono hw0.size)
      go_wp2_with fail
      refine (k4.out _).mono ?_
      rintro x w9 ⟨rfl, rfl⟩
      go_wp2_with fail
      refine (k5.out _).mono ?_
      rintro x w9 ⟨rfl, rfl⟩
      go_wp2_with fail
      refine (k4.out _).mono ?_
      rintro x w9 ⟨rfl, rfl⟩
      go_wp2_with fail
      refine (k6.out _).mono ?_
      rintro x w9 ⟨rfl, rfl⟩
      go_wp2_with fail
      refine (k7.out _).mono ?_
      rintro x w9 ⟨rfl, rfl⟩
      go_wp2_with fail
      refine (k8.out _).mono ?_
      rintro x w9 ⟨rfl, rfl⟩
      go_wp2_with fail
      refine (alive_any _).mono ?_
      rintro x w5 ⟨rfl, hB5⟩
      go_wp2
      go_ret
      exact ⟨rfl, hB4.trans (hB5.mono hB4.size)⟩
  · have g2 : decide (50 < m - n) = false := decide_eq_false (by omega)
    have g3 : (m == 18446744073709551615) = false := beq_eq_false_iff_ne.2 (by omega)
    have hmt : m < 18446744073709551615 := by omega
    clear g1
    go_enter Try.func7, Try.ntmps7
    go_wp2_with fail
    refine (k1.out _).mono ?_
    rintro x w1 ⟨rfl, rfl⟩
    go_wp2_with fail
    refine (k2.out _).mono ?_
    rintro x w2 ⟨rfl, hB2⟩
    go_wp2_with fail
    refine (k3.out _).mono ?_
    rintro x w3 ⟨rfl, hB3⟩
    have hB4 := hw0.trans ((hB2.trans (hB3.mono hB2.size)).mono hw0.size)
    go_wp2_with fail
    refine (k4.out _).mono ?_
    rintro x w9 ⟨rfl, rfl⟩
    go_wp2_with fail
    refine (k5.out _).mono ?_
    rintro x w9 ⟨rfl, rfl⟩
    go_wp2_with fail
    refine (k4.out _).mono ?_
    rintro x w9 ⟨rfl, rfl⟩
    go_wp2_with fail
    refine (k6.out _).mono ?_
    rintro x w9 ⟨rfl, rfl⟩
    go_wp2_with fail
    refine (k7.out _).mono ?_
    rintro x w9 ⟨rfl, rfl⟩
    go_wp2_with fail
    refine (k8.out _).mono ?_
    rintro x w9 ⟨rfl, rfl⟩
    go_wp2
    go_loopw [11, 12] (fun t i wr => ∃ (k T : Int), n ≤ k ∧ k ≤ m ∧ i = .int .u64 k ∧ t = .int .u64 T ∧ 0 ≤ T ∧ T ≤ b ∧ Hid (cnt a e T = k) ∧ Below w.heap.size w wr) (fun _ i _ => (m - intOf i).toNat)
    case atStart => exact ⟨n, A, by omega, by omega, rfl, rfl, A0, hAb, hn, hB4⟩
    case round =>
      obtain ⟨k, T, hk0, hk1, rfl, rfl, hT0, hT1, hT, hB⟩ := hrel
      obtain ⟨ha, he, hA, hB', hbU⟩ := hUU.out
      have hTU : U T := ⟨hT0, by omega⟩
      by_cases hlt : k < m
      · obtain ⟨x1, x2, x3, x4⟩ := nxt_comes ha he hTU hbU hT1 (by rw [hT.out, hm.out]; exact hlt) (by rw [hm.out]; exact hmt)
        rw [hT.out] at x4
        have kn := next_any a e T ha he hTU
        rw [x1] at kn
        obtain ⟨X, hX⟩ : ∃ X, Hid (nxt a e T = X) := ⟨_, ⟨rfl⟩⟩
        rw [hX.out] at kn x2 x3 x4
        replace kn := Hid.mk kn
        replace x4 := Hid.mk x4
        clear x1 hX
        obtain ⟨X0, X1⟩ := x3
        have y1 : decide (b < X) = false := decide_eq_false (by omega)
        replace ha := Hid.mk ha
        replace he := Hid.mk he
        go_wp2_with fail
        refine (kn.out _).mono ?_
        rintro x w5 ⟨rfl, hB5⟩
        go_wp2
        go_roundw
        case rel => exact ⟨k + 1, X, by omega, by omega, by go_num, rfl, X0, x2, x4, hB.trans (hB5.mono hB.size)⟩
        case measure => simp [intOf]; omega
      · have hkm : k = m := by omega
        have y0 : decide (k < m) = false := decide_eq_false hlt
        have kn := next_any a e T ha he hTU
        have hNb : isN a e T = true → b < nxt a e T := nxt_beyond ha he hTU hbU hT1 (by rw [hT.out, hm.out]; exact hkm) (by rw [hm.out]; exact hmt)
        obtain ⟨X, hX⟩ : ∃ X, Hid (nxt a e T = X) := ⟨_, ⟨rfl⟩⟩
        rw [hX.out] at kn hNb
        clear hkm hX
        cases hs : isN a e T
        · rw [hs] at kn
          clear hNb hs
          replace kn := Hid.mk kn
          go_wp2_with fail
          refine (kn.out _).mono ?_
          rintro x w5 ⟨rfl, hB5⟩
          go_wp2_with fail
          refine (alive_any _).mono ?_
          rintro x w6 ⟨rfl, hB6⟩
          go_wp2
          go_ret
          exact ⟨rfl, hB.trans ((hB5.trans (hB6.mono hB5.size)).mono hB.size)⟩
        · rw [hs] at kn
          have y1 : decide (b < X) = true := decide_eq_true (hNb hs)
          clear hNb hs
          replace kn := Hid.mk kn
          go_wp2_with fail
          refine (kn.out _).mono ?_
          rintro x w5 ⟨rfl, hB5⟩
          go_wp2_with fail
          refine (alive_any _).mono ?_
          rintro x w6 ⟨rfl, hB6⟩
          go_wp2
          go_ret
          exact ⟨rfl, hB.trans ((hB5.trans (hB6.mono hB5.size)).mono hB.size)⟩
end Go.Proofs.Ytecngalecbeajaa
