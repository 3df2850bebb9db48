/- Occurrences: plain facts on After. -/
import Derived.Test.YtblnhcnfeagjhaaGreatDoorRsr
namespace Go.Proofs.YtblnhcnfeagjhaaGreatDoor.V
open Go.RowKit Go.IntWalk
set_option linter.unusedVariables false
/-- What an occurrence is. -/
theorem ahd_occ {a e k : Int} (he : 0 < e) : ahd a e (a + e * k) = k ∧ bey a e (a + e * k) = 0 := by
  have h0 : ¬ e = 0 := by omega
  rw [ahd, bey, if_neg h0, if_neg h0, show a + e * k - a = e * k from by omega]
  exact ⟨Int.mul_ediv_cancel_left k h0, Int.mul_emod_right e k⟩
theorem idx_occ {a e k : Int} (he : 0 < e) (hk : 0 ≤ k) : idx a e (a + e * k) = k ∧ isI a e (a + e * k) = true := by
  obtain ⟨h1, h2⟩ := ahd_occ (a := a) (k := k) he
  have h3 : 0 ≤ e * k := Int.mul_nonneg (by omega) hk
  have h4 : ¬ a + e * k < a := by omega
  exact ⟨by rw [idx, if_neg h4, if_pos h2, h1], by simp [isI, h2]; omega⟩
/-- The last occurrence is one. -/
theorem idx_last {a e n : Int} (ha : U a) (he : U e) (hn : U n) (h : ¬ n < a) : idx a e (n - bey a e n) = ahd a e n ∧ isI a e (n - bey a e n) = true := by
  obtain ⟨k1, k2, k3, k4, k5, k6⟩ := bey_bd ha he hn h
  by_cases h0 : e = 0
  · subst h0
    have e1 : bey a 0 n = n - a := if_pos rfl
    have e2 : ahd a 0 n = 0 := if_pos rfl
    rw [e1, e2, show n - (n - a) = a from by omega]
    have e3 : bey a 0 a = 0 := (if_pos rfl : bey a 0 a = a - a).trans (by omega)
    have e4 : ahd a 0 a = 0 := if_pos rfl
    have e5 : ¬ a < a := by omega
    exact ⟨by rw [idx, if_neg e5, if_pos e3, e4], by simp [isI, e3]⟩
  · have hp : 0 < e := by have := he.1; omega
    rw [show n - bey a e n = a + e * ahd a e n from by omega]
    exact idx_occ hp k3
/-- So is the next one. -/
theorem idx_next {a e n : Int} (ha : U a) (he : U e) (hn : U n) (h : ¬ n < a) (h0 : ¬ e = 0) : idx a e (n - bey a e n + e) = ahd a e n + 1 ∧ isI a e (n - bey a e n + e) = true := by
  obtain ⟨k1, k2, k3, k4, k5, k6⟩ := bey_bd ha he hn h
  have hp : 0 < e := by have := he.1; omega
  have : n - bey a e n + e = a + e * (ahd a e n + 1) := by rw [Int.mul_add, Int.mul_one]; omega
  rw [this]
  exact idx_occ hp (by omega)
theorem idx_at {a e : Int} (he : U e) : idx a e a = 0 ∧ isI a e a = true := by
  have e5 : ¬ a < a := by omega
  by_cases h0 : e = 0
  · subst h0
    have e3 : bey a 0 a = 0 := (if_pos rfl : bey a 0 a = a - a).trans (by omega)
    exact ⟨by rw [idx, if_neg e5, if_pos e3]; exact if_pos rfl, by simp [isI, e3]⟩
  · have hp : 0 < e := by have := he.1; omega
    have := idx_occ (a := a) (k := 0) hp (by omega)
    rwa [Int.mul_zero, Int.add_zero] at this
end Go.Proofs.YtblnhcnfeagjhaaGreatDoor.V
namespace Go.Proofs.YtblnhcnfeagjhaaGreatDoor
open Go.RowKit Go.IntWalk Go.Maps Go.Shelf
set_option linter.unusedVariables false
theorem aft_occ {a e n : Int} (ha : V.U a) (he : V.U e) (hn : V.U n) (h : V.isN a e n = true) : V.isI a e (V.nxt a e n) = true ∧ n < V.nxt a e n ∧ V.U (V.nxt a e n) := by
  by_cases h1 : n < a
  · have e1 : V.nxt a e n = a := if_pos h1
    rw [e1]
    exact ⟨(V.idx_at he).2, h1, ha⟩
  · simp only [V.isN, h1, decide_false, Bool.false_or, Bool.not_eq_true', Bool.or_eq_false_iff, decide_eq_false_iff_not] at h
    obtain ⟨h2, h3⟩ := h
    have e1 : V.nxt a e n = n - V.bey a e n + e := by
      unfold V.nxt
      rw [if_neg h1, if_neg (by omega)]
    obtain ⟨k1, k2, k3, k4, k5, k6⟩ := V.bey_bd ha he hn h1
    rw [e1]
    refine ⟨(V.idx_next ha he hn h1 h2).2, ?_, ?_⟩
    · have := k6 (by have := he.1; omega)
      omega
    · have := he.1
      have := hn.1
      constructor <;> omega
theorem aft_no {x : Tmr} {n : Int} (h : aft x n = false) : ¬ (n < x.at_ ∧ x.at_ ≤ 4611686018427387904) := by
  rintro ⟨h1, h2⟩
  have e1 : V.nxt x.at_ x.ev n = x.at_ := if_pos h1
  simp [aft, V.isN, h1, e1, h2] at h
theorem aft_self {x : Tmr} (ha : V.U x.at_) (he : V.U x.ev) : (aft x x.at_ = true ↔ 0 < x.ev ∧ x.at_ ≤ 4611686018427387904 ∧ x.ev ≤ 4611686018427387904 - x.at_) ∧ (aft x x.at_ = true → V.nxt x.at_ x.ev x.at_ = x.at_ + x.ev) := by
  have h1 : ¬ x.at_ < x.at_ := by omega
  have hb : V.bey x.at_ x.ev x.at_ = 0 := by
    unfold V.bey
    split <;> simp
  have hn : V.nxt x.at_ x.ev x.at_ = if x.ev = 0 ∨ 18446744073709551615 - x.at_ < x.ev then 0 else x.at_ + x.ev := by
    unfold V.nxt
    rw [if_neg h1, hb, Int.sub_zero]
  have hi : V.isN x.at_ x.ev x.at_ = !(decide (x.ev = 0) || decide (18446744073709551615 - x.at_ < x.ev)) := by
    unfold V.isN
    rw [hb, Int.sub_zero]
    simp
  have a1 := ha.1
  have a2 := ha.2
  have b1 := he.1
  have b2 := he.2
  have hiff : aft x x.at_ = true ↔ 0 < x.ev ∧ x.at_ ≤ 4611686018427387904 ∧ x.ev ≤ 4611686018427387904 - x.at_ := by
    rw [aft, hn, hi]
    by_cases h2 : x.ev = 0 ∨ 18446744073709551615 - x.at_ < x.ev
    · rw [if_pos h2]
      rcases h2 with h2 | h2
      · simp [h2]
      · simp [h2]; omega
    · rw [if_neg h2]
      have h3 : ¬ x.ev = 0 := fun e => h2 (.inl e)
      have h4 : ¬ 18446744073709551615 - x.at_ < x.ev := fun e => h2 (.inr e)
      simp [h3, h4]
      omega
  refine ⟨hiff, fun h => ?_⟩
  obtain ⟨k1, k2, k3⟩ := hiff.1 h
  rw [hn, if_neg (by omega)]
end Go.Proofs.YtblnhcnfeagjhaaGreatDoor
