/- QuotaBack: the walk, all cases together. -/
import Derived.Test.YtlnikgejcogkeaaBky
import Derived.Test.YtlnikgejcogkeaaBkz
import Derived.Test.YtlnikgejcogkeaaBkt
namespace Go.Proofs.Ytlnikgejcogkeaa
open Go.RowKit Go.IntWalk
set_option linter.unusedVariables false
theorem back_walk (w : World) {k r t ky was vl : Int} (hk : I64 k ∧ I64 r ∧ I64 t) (hs : I64 ky ∧ I64 was ∧ I64 vl) :
    Calls Try.prog 4 #[uV k r t, sV ky was vl] w fun e w' => e = .returned (.bool true) ∧ Below w.heap.size w w' := by
  by_cases h : Rgt k r t
  · by_cases z1 : putN k r t ky 0 vl = 0
    · by_cases z2 : putH k r t ky was vl = 0
      · by_cases z3 : cg k r t 0 0 0 0 0 1 = 0
        · exact back_yyy w hk hs h z1 z2 z3
        · exact back_yyn w hk hs h z1 z2 z3
      · by_cases z3 : cg k r t 0 0 0 0 0 1 = 0
        · exact back_yny w hk hs h z1 z2 z3
        · exact back_ynn w hk hs h z1 z2 z3
    · by_cases z2 : putH k r t ky was vl = 0
      · by_cases z3 : cg k r t 0 0 0 0 0 1 = 0
        · exact back_nyy w hk hs h z1 z2 z3
        · exact back_nyn w hk hs h z1 z2 z3
      · by_cases z3 : cg k r t 0 0 0 0 0 1 = 0
        · exact back_nny w hk hs h z1 z2 z3
        · exact back_nnn w hk hs h z1 z2 z3
  · exact back_bad w hk hs h
end Go.Proofs.Ytlnikgejcogkeaa
