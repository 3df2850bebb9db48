/- Sum. -/
import Derived.Test.YtmahpceokpajgaaDoorNmb
namespace Go.Proofs.YtmahpceokpajgaaDoor
open Go.RowKit Go.IntWalk Go.Maps Go.Shelf
set_option linter.unusedVariables false
/-- What Sum answers: a text, and an error. -/
def sumK (o : Option Int) (n : Int) : K := match o with
  | some m => if In64 (m + n) then Lib.itoa (m + n) else []
  | none => []
def sumE (o : Option Int) (n : Int) : Int := match o with
  | some m => if In64 (m + n) then 0 else 93
  | none => 92
theorem wrp (x : Int) (s : Int) (h : s - x = 0 ∨ s - x = 18446744073709551616 ∨ s - x = -18446744073709551616) (hs : In64 s) : wrap64 x = s := by
  unfold wrap64
  have h1 := hs.1
  have h2 := hs.2
  omega
set_option maxRecDepth 100000 in
set_option maxHeartbeats 1000000 in
theorem sum_any {w : World} (h : Dr w) (k : K) (hk : k.length ≤ 1000000) (n : Int) (hn : In64 n) {o : Option Int} (ho : Hid (numOf k = o)) :
    Calls Tryd.prog 14 #[.string (bt k), .int .i64 n] w fun e w' => e = .returned (.tuple #[.string (bt (sumK o n)), .int .i64 (sumE o n)]) ∧ w.grownBy w' none := by
  have c1 := number_any h k hk ho
  cases o with
  | none =>
    simp only [numV] at c1
    go_enter Tryd.func14, Tryd.ntmps14
    go_wp2_with (go_at_call 31; refine c1.mono ?_; rintro e w1 ⟨rfl, hg1⟩)
    go_ret2
    exact ⟨rfl, hg1⟩
  | some m =>
    have hm := (numOf_some ho.out).2
    simp only [numV] at c1
    replace h : Hid _ := ⟨h⟩
    have hm0 := hm.1
    have hm1 := hm.2
    have hn0 := hn.1
    have hn1 := hn.2
    by_cases hin : In64 (m + n)
    · have hin0 := hin
      have e1 : sumK (some m) n = Lib.itoa (m + n) := by simp only [sumK]; rw [if_pos hin]
      have e2 : sumE (some m) n = 0 := by simp only [sumE]; rw [if_pos hin]
      rw [e1, e2]
      obtain ⟨s, hs⟩ : ∃ s, Hid (m + n = s) := ⟨_, ⟨rfl⟩⟩
      rw [hs.out] at hin ⊢
      have hso := hs.out
      have hw : wrap64 (m + n) = s := wrp _ _ (by omega) hin
      clear hin0
      replace hin : Hid _ := ⟨hin⟩
      go_enter Tryd.func14, Tryd.ntmps14
      by_cases h0 : n < 0
      · have d0 : decide (n < 0) = true := by simpa using h0
        have d1 : decide (s < m) = true := by simp; omega
        clear hso
        go_wp2_with (go_at_call 31; refine c1.mono ?_; rintro e w1 ⟨rfl, hg1⟩; refine Hid.out ?_)
        refine ⟨?_⟩
        have c2 := fmt_any (h.out.keep hg1) s hin.out
        replace hg1 : Hid _ := ⟨hg1⟩
        go_wp2_with (go_at_call 32; refine c2.mono ?_; rintro e w2 ⟨rfl, hg2⟩)
        go_ret2
        exact ⟨rfl, grown_none hg1.out hg2⟩
      · have d0 : decide (n < 0) = false := by simpa using h0
        have d1 : decide (s < m) = false := by simp; omega
        clear hso
        go_wp2_with (go_at_call 31; refine c1.mono ?_; rintro e w1 ⟨rfl, hg1⟩; refine Hid.out ?_)
        refine ⟨?_⟩
        have c2 := fmt_any (h.out.keep hg1) s hin.out
        replace hg1 : Hid _ := ⟨hg1⟩
        go_wp2_with (go_at_call 32; refine c2.mono ?_; rintro e w2 ⟨rfl, hg2⟩)
        go_ret2
        exact ⟨rfl, grown_none hg1.out hg2⟩
    · have e1 : sumK (some m) n = [] := by simp only [sumK]; rw [if_neg hin]
      have e2 : sumE (some m) n = 93 := by simp only [sumE]; rw [if_neg hin]
      rw [e1, e2]
      go_enter Tryd.func14, Tryd.ntmps14
      by_cases h0 : n < 0
      · obtain ⟨s, hs⟩ : ∃ s, s = m + n + 18446744073709551616 := ⟨_, rfl⟩
        have hw : wrap64 (m + n) = s := wrp _ _ (by omega) (by constructor <;> omega)
        have d0 : decide (n < 0) = true := by simpa using h0
        have d1 : decide (s < m) = false := by simp; omega
        clear hs hin
        go_wp2_with (go_at_call 31; refine c1.mono ?_; rintro e w1 ⟨rfl, hg1⟩)
        go_ret2
        exact ⟨rfl, hg1⟩
      · obtain ⟨s, hs⟩ : ∃ s, s = m + n - 18446744073709551616 := ⟨_, rfl⟩
        have hw : wrap64 (m + n) = s := wrp _ _ (by omega) (by constructor <;> omega)
        have d0 : decide (n < 0) = false := by simpa using h0
        have d1 : decide (s < m) = true := by simp; omega
        clear hs hin
        go_wp2_with (go_at_call 31; refine c1.mono ?_; rintro e w1 ⟨rfl, hg1⟩)
        go_ret2
        exact ⟨rfl, hg1⟩
end Go.Proofs.YtmahpceokpajgaaDoor
