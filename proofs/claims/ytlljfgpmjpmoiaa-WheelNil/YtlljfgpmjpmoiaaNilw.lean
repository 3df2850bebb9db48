/- The walk of WheelNil. -/
import Derived.Test.YtlljfgpmjpmoiaaLive
namespace Go.Proofs.Ytlljfgpmjpmoiaa
open Go.RowKit Go.IntWalk Go.Maps Go.Shelf
set_option linter.unusedVariables false
set_option maxRecDepth 100000 in
set_option maxHeartbeats 2000000 in
theorem nil_walk (x : Ac) (W : World) : Calls Try.prog 7 #[.agg #[.int .i64 x.kd, .string x.nm, .int .u64 x.at_, .int .u64 x.by_]] W fun e W' => e = .returned (.bool true) ∧ Below W.heap.size W W' := by
  have h0 := (St.start W).box (.cells #[.int .i64 x.kd, .string x.nm, .int .u64 x.at_, .int .u64 x.by_] 31)
  go_enter Try.func7, Try.ntmps7
  go_wp2_with fail
  refine (soon_nil _).mono ?_
  rintro r w1 ⟨rfl, rfl⟩
  go_wp2_with fail
  refine (alive_s h0).mono ?_
  rintro r w2 ⟨rfl, h2⟩
  obtain ⟨c0, c1, c2, c3⟩ := own_4 h2.b
  go_wp2_with fail
  refine (put_nil _ x.nm x.at_).mono ?_
  rintro r w3 ⟨rfl, rfl⟩
  go_wp2_with fail
  refine (drop_nil _ x.nm).mono ?_
  rintro r w4 ⟨rfl, rfl⟩
  go_wp2_with fail
  refine (adv_nil _ x.at_).mono ?_
  rintro r w5 ⟨rfl, rfl⟩
  go_wp2_with fail
  refine (clock_nil _).mono ?_
  rintro r w6 ⟨rfl, rfl⟩
  go_wp2_with fail
  refine (len_nil _).mono ?_
  rintro r w7 ⟨rfl, rfl⟩
  go_wp2_with fail
  refine (slot_nil _ 0 0).mono ?_
  rintro r w8 ⟨rfl, rfl⟩
  go_wp2_with fail
  refine (far_nil _).mono ?_
  rintro r w9 ⟨rfl, rfl⟩
  go_wp2
  go_ret
  exact ⟨rfl, h2.2⟩
end Go.Proofs.Ytlljfgpmjpmoiaa
