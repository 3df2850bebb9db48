/- Uses of a shard: what quota's small functions answer, whatever they are asked. -/
import Derived.WalkKit
import Derived.WalkSpells
import Derived.WalkLawsBesides
import Derived.Outline
import Derived.Laws.ResultCell
import Derived.Lib.SliceRun
import Derived.Deep.RegionHeld3
import Derived.RegionTactic
import Derived.BigQuiet
import Derived.Test.YtlnikgejcogkeaaProg
namespace Go.Proofs.Ytlnikgejcogkeaa
open Go.RowKit Go.IntWalk
set_option linter.unusedVariables false

/-- Told, and kept from the walk. -/
structure Hid (p : Prop) : Prop where
  out : p
theorem results_cell1 {fn : Func} {p : Tmp} {ty : TypeId} (h : fn.results = #[.cell p ty]) (tmps : Array Value) (P : Program) (w : World) :
    (results fn tmps).run P w = ((asAddr (tmps.getD p undef)).run P w).andThen fun a w₁ => (loadVar ty a).run P w₁ := by
  simp only [results, h]
  simp [Sem.run_bind, Result.andThen]
/-- What is too much in a use. -/
def ovr (k r t : Int) : Int := if 100 < k then 111 else if 4000 < r then 112 else if 50 < t then 113 else 0
/-- Is a use right? -/
def Rgt (k r t : Int) : Prop := (0 ≤ k ∧ k ≤ 100) ∧ (0 ≤ r ∧ r ≤ 4000) ∧ 0 ≤ t ∧ t ≤ 50
instance (k r t : Int) : Decidable (Rgt k r t) := by unfold Rgt; infer_instance
theorem ovr_zero {k r t : Int} : ovr k r t = 0 ↔ k ≤ 100 ∧ r ≤ 4000 ∧ t ≤ 50 := by
  unfold ovr
  constructor
  · intro h
    split at h
    · omega
    · split at h
      · omega
      · split at h <;> omega
  · rintro ⟨a, b, c⟩
    rw [if_neg (by omega), if_neg (by omega), if_neg (by omega)]
set_option maxRecDepth 100000 in
set_option maxHeartbeats 1000000 in
/-- quota.Over. -/
theorem over_any (k r t : Int) (w : World) :
    Calls Try.prog 20 #[.agg #[.int .i64 k, .int .i64 r, .int .i64 t]] w fun e w' => e = .returned (.int .i64 (ovr k r t)) ∧ Below w.heap.size w w' := by
  by_cases h1 : 100 < k
  · rw [show ovr k r t = 111 from if_pos h1]
    go_enter Try.func20, Try.ntmps20
    go_wp2
    go_ret
    exact ⟨rfl, (Below.refl _ _).alloc (Nat.le_refl _) _⟩
  · by_cases h2 : 4000 < r
    · rw [show ovr k r t = 112 from (if_neg h1).trans (if_pos h2)]
      go_enter Try.func20, Try.ntmps20
      go_wp2
      go_ret
      exact ⟨rfl, (Below.refl _ _).alloc (Nat.le_refl _) _⟩
    · by_cases h3 : 50 < t
      · rw [show ovr k r t = 113 from (if_neg h1).trans ((if_neg h2).trans (if_pos h3))]
        go_enter Try.func20, Try.ntmps20
        go_wp2
        go_ret
        exact ⟨rfl, (Below.refl _ _).alloc (Nat.le_refl _) _⟩
      · rw [show ovr k r t = 0 from (if_neg h1).trans ((if_neg h2).trans (if_neg h3))]
        go_enter Try.func20, Try.ntmps20
        go_wp2
        go_ret
        exact ⟨rfl, (Below.refl _ _).alloc (Nat.le_refl _) _⟩
end Go.Proofs.Ytlnikgejcogkeaa
