/- strings.HasPrefix. -/
import Derived.Test.YtpcdmjalfabbmaaNew
namespace Go.Proofs.Ytpcdmjalfabbmaa
open Go.RowKit Go.IntWalk Go.Maps
set_option linter.unusedVariables false
theorem pre_take {p s : K} : p <+: s ↔ p.length ≤ s.length ∧ s.take p.length = p := by
  constructor
  · intro h
    exact ⟨h.length_le, (List.prefix_iff_eq_take.1 h).symm⟩
  · rintro ⟨_, h⟩
    rw [List.prefix_iff_eq_take]
    exact h.symm
set_option maxRecDepth 100000 in
set_option maxHeartbeats 1000000 in
theorem slhas_any (w : World) (s p : K) {b : Bool} (hb : Hid (decide (p <+: s) = b)) : Calls Try.prog 47 #[.string (bt s), .string (bt p)] w fun r w' => r = .returned (.bool b) ∧ w' = w := by
  have ss := bt_size s
  have sp := bt_size p
  have ht := bt_take s
  have tl := bt_toList
  by_cases hl : p.length ≤ s.length
  · have hb2 : (s.take p.length == p) = b := by
      rw [← hb.out, Bool.eq_iff_iff]
      simp only [beq_iff_eq, decide_eq_true_eq, pre_take]
      exact ⟨fun h => ⟨hl, h⟩, fun h => h.2⟩
    have hd : decide ((s.length : Int) ≥ p.length) = true := by simp; omega
    clear hb
    go_enter Try.func47, Try.ntmps47
    go_wp2
    go_ret
    exact ⟨rfl, rfl⟩
  · have hb2 : b = false := by
      rw [← hb.out]
      simp only [decide_eq_false_iff_not]
      exact fun h => hl h.length_le
    subst hb2
    have hd : decide ((s.length : Int) ≥ p.length) = false := by simp; omega
    clear hb
    go_enter Try.func47, Try.ntmps47
    go_wp2
    go_ret
    exact ⟨rfl, rfl⟩
set_option maxRecDepth 100000 in
set_option maxHeartbeats 1000000 in
/-- strings.HasPrefix. -/
theorem has_any (w : World) (s p : K) {b : Bool} (hb : Hid (decide (p <+: s) = b)) : Calls Try.prog 42 #[.string (bt s), .string (bt p)] w fun r w' => r = .returned (.bool b) ∧ w' = w := by
  go_enter Try.func42, Try.ntmps42
  go_wp2_with fail
  refine (slhas_any w s p hb).mono ?_
  rintro r w1 ⟨rfl, rfl⟩
  go_wp2
  go_ret
  exact ⟨rfl, rfl⟩
end Go.Proofs.Ytpcdmjalfabbmaa
