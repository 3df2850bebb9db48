/- The document's sums: belfryref09.Sum. -/
import Derived.Test.YtmahpceokpajgaaDoorRnm
namespace Go.Proofs.YtmahpceokpajgaaDoor
open Go.RowKit Go.IntWalk Go.Maps Go.Shelf
set_option linter.unusedVariables false
set_option linter.unusedSimpArgs false
set_option maxRecDepth 100000 in
set_option maxHeartbeats 4000000 in
theorem rsum_any (w : World) (k : K) (hk : k.length ≤ 1000000) (n : Int) (hn : In64 n) {o : Option Int} (ho : Hid (numOf k = o)) :
    Calls Tryd.prog 15 #[.string (bt k), .int .i64 n] w fun e w' => e = .returned (.tuple #[.string (bt (sumK o n)), .int .i64 (sumE o n)]) ∧ w' = w := by
  have hc := rnum_any w k hk
  cases o with
  | none =>
    have e1 : bt (sumK none n) = ⟨#[]⟩ := rfl
    have e2 : sumE none n = 92 := rfl
    rw [e1, e2]
    go_enter Tryd.func15, Tryd.ntmps15
    go_wp2_with fail
    refine hc.mono ?_
    rintro e w1 ⟨⟨x, b, rfl, hx, h1, h2⟩, rfl⟩
    obtain rfl := h2 ho.out
    clear h1 h2 hc
    go_wp2
    go_ret2
    exact ⟨rfl, rfl⟩
  | some m =>
    by_cases hin : In64 (m + n)
    · have e1 : sumK (some m) n = Lib.itoa (m + n) := if_pos hin
      have e2 : sumE (some m) n = 0 := if_pos hin
      rw [e1, e2]
      have ht := text_any w (m + n) hin
      obtain ⟨y, hy⟩ : ∃ y, m + n = y := ⟨_, rfl⟩
      rw [hy] at ht ⊢
      have hw : wrap64 (m + n) = y := wrp _ _ (.inl (by omega)) (hy ▸ hin)
      have hwi : IntKind.i64.wrap (m + n) = y := by rw [IntKind.wrap_i64]; obtain ⟨a, b⟩ := hin; omega
      have hg : (!(decide (0 ≤ m) == decide (0 ≤ n))) || (decide (0 ≤ y) == decide (0 ≤ m)) := by
        by_cases a : 0 ≤ m <;> by_cases b : 0 ≤ n <;> by_cases c : 0 ≤ y <;> simp [a, b, c] <;> omega
      have hcs : (decide (0 ≤ m) = true ∧ decide (0 ≤ n) = true ∧ decide (0 ≤ y) = true) ∨ (decide (0 ≤ m) = false ∧ decide (0 ≤ n) = false ∧ decide (0 ≤ y) = false) ∨ (decide (0 ≤ m) = true ∧ decide (0 ≤ n) = false) ∨ (decide (0 ≤ m) = false ∧ decide (0 ≤ n) = true) := by
        by_cases a : 0 ≤ m <;> by_cases b : 0 ≤ n <;> by_cases c : 0 ≤ y <;> simp [a, b, c] <;> omega
      replace hy := Hid.mk hy
      replace hin := Hid.mk hin
      clear hg e1 e2
      rcases hcs with ⟨d1, d2, d3⟩ | ⟨d1, d2, d3⟩ | ⟨d1, d2⟩ | ⟨d1, d2⟩
      all_goals
        go_enter Tryd.func15, Tryd.ntmps15
        go_wp2_with fail
        refine hc.mono ?_
        rintro e w1 ⟨⟨x, b, rfl, hx, h1, h2⟩, rfl⟩
        obtain ⟨rfl, rfl⟩ := h1 m ho.out
        clear h1 h2 hc
        go_wp2_with fail
        refine ht.mono ?_
        rintro e w2 ⟨rfl, rfl⟩
        go_wp2
        go_ret2
        exact ⟨rfl, rfl⟩
    · have e1 : bt (sumK (some m) n) = ⟨#[]⟩ := congrArg bt (if_neg hin)
      have e2 : sumE (some m) n = 93 := if_neg hin
      rw [e1, e2]
      have hm := (num_some ho.out).2.2
      obtain ⟨y, hy⟩ : ∃ y, wrap64 (m + n) = y := ⟨_, rfl⟩
      have hcs : (decide (0 ≤ m) = true ∧ decide (0 ≤ n) = true ∧ decide (0 ≤ y) = false) ∨ (decide (0 ≤ m) = false ∧ decide (0 ≤ n) = false ∧ decide (0 ≤ y) = true) := by
        obtain ⟨m0, m1⟩ := hm
        obtain ⟨n0, n1⟩ := hn
        by_cases a : 0 ≤ m
        · have hb : y = m + n - 18446744073709551616 := by
            rw [← hy]
            by_cases b : 9223372036854775808 ≤ m + n
            · exact wrp _ _ (.inr (.inr (by omega))) ⟨by omega, by omega⟩
            · exact absurd ⟨by omega, by omega⟩ hin
          have h3 : ¬ (m + n < 9223372036854775808) := fun h => hin ⟨by omega, by omega⟩
          exact .inl ⟨by simpa using a, by simp; omega, by simp; omega⟩
        · have hb : y = m + n + 18446744073709551616 := by
            rw [← hy]
            by_cases b : m + n < -9223372036854775808
            · exact wrp _ _ (.inr (.inl (by omega))) ⟨by omega, by omega⟩
            · exact absurd ⟨by omega, by omega⟩ hin
          have h3 : ¬ (-9223372036854775808 ≤ m + n) := fun h => hin ⟨by omega, by omega⟩
          exact .inr ⟨by simpa using a, by simp; omega, by simp; omega⟩
      replace hin := Hid.mk hin
      clear e1 e2
      rcases hcs with ⟨d1, d2, d3⟩ | ⟨d1, d2, d3⟩
      all_goals
        go_enter Tryd.func15, Tryd.ntmps15
        go_wp2_with fail
        refine hc.mono ?_
        rintro e w1 ⟨⟨x, b, rfl, hx, h1, h2⟩, rfl⟩
        obtain ⟨rfl, rfl⟩ := h1 m ho.out
        clear h1 h2 hc
        go_wp2
        go_ret2
        exact ⟨rfl, rfl⟩
end Go.Proofs.YtmahpceokpajgaaDoor
