/- A use is right: quota.Right. -/
import Derived.Test.YtlnikgejcogkeaaBase
namespace Go.Proofs.Ytlnikgejcogkeaa
open Go.RowKit Go.IntWalk
set_option linter.unusedVariables false
/-- Is a use right? -/
def rgt (k r t : Int) : Bool := decide (0 ≤ k) && (decide (0 ≤ r) && (decide (0 ≤ t) && decide (ovr k r t = 0)))
theorem rgt_iff {k r t : Int} : rgt k r t = true ↔ Rgt k r t := by
  unfold rgt Rgt
  simp only [Bool.and_eq_true, decide_eq_true_eq, ovr_zero]
  omega
theorem rgt_false {k r t : Int} (h : ¬ Rgt k r t) : rgt k r t = false := by
  cases e : rgt k r t with
  | false => rfl
  | true => exact absurd (rgt_iff.1 e) h
set_option maxRecDepth 100000 in
set_option maxHeartbeats 1000000 in
/-- quota.Right. -/
theorem right_any (k r t : Int) (w : World) :
    Calls Try.prog 12 #[.agg #[.int .i64 k, .int .i64 r, .int .i64 t]] w fun e w' => e = .returned (.bool (rgt k r t)) ∧ Below w.heap.size w w' := by
  by_cases h1 : 0 ≤ k
  · by_cases h2 : 0 ≤ r
    · by_cases h3 : 0 ≤ t
      · have e : rgt k r t = decide (ovr k r t = 0) := by simp [rgt, h1, h2, h3]
        rw [e]
        generalize ho : ovr k r t = o
        have ho' := Hid.mk ho
        clear ho
        go_enter Try.func12, Try.ntmps12
        go_wp2_with fail
        refine (over_any k r t _).mono ?_
        rintro x w1 ⟨rfl, hB⟩
        rw [ho'.out]
        go_wp2
        go_ret
        refine ⟨by by_cases h : o = 0 <;> simp [h], ?_⟩
        exact ((Below.refl _ _).alloc (Nat.le_refl _) _).trans (hB.mono (by simp))
      · have e : rgt k r t = false := by simp [rgt, h3]
        rw [e]
        go_enter Try.func12, Try.ntmps12
        go_wp2
        go_ret
        exact ⟨rfl, (Below.refl _ _).alloc (Nat.le_refl _) _⟩
    · have e : rgt k r t = false := by simp [rgt, h2]
      rw [e]
      go_enter Try.func12, Try.ntmps12
      go_wp2
      go_ret
      exact ⟨rfl, (Below.refl _ _).alloc (Nat.le_refl _) _⟩
  · have e : rgt k r t = false := by simp [rgt, h1]
    rw [e]
    go_enter Try.func12, Try.ntmps12
    go_wp2
    go_ret
    exact ⟨rfl, (Below.refl _ _).alloc (Nat.le_refl _) _⟩
end Go.Proofs.Ytlnikgejcogkeaa
