/- The walk of QueueNil. -/
import Derived.Test.YtipcoghhnbgalaaArg
namespace Go.Proofs.Ytipcoghhnbgalaa
open Go.RowKit Go.IntWalk Go.Maps
set_option linter.unusedVariables false
theorem own_3 {w : World} {k : Nat} {a b c : Value} {t : TypeId} (hb : w.heap[k]? = some (.cells #[a, b, c] t (0, 0))) : w.cell? ⟨k, 0, none⟩ = some a ∧ w.cell? ⟨k, 1, none⟩ = some b ∧ w.cell? ⟨k, 2, none⟩ = some c :=
  ⟨by simp [World.cell?, hb], by simp [World.cell?, hb], by simp [World.cell?, hb]⟩
set_option maxRecDepth 100000 in
set_option maxHeartbeats 2000000 in
theorem nil_walk (x : Ac) (W : World) : Calls Try.prog 7 #[.agg #[.int .i64 x.kd, .string x.nm, .int .u64 x.at_]] W fun e W' => e = .returned (.bool true) ∧ Below W.heap.size W W' := by
  have h0 := (St.start W).box (.cells #[.int .i64 x.kd, .string x.nm, .int .u64 x.at_] 28)
  go_enter Try.func7, Try.ntmps7
  go_wp2_with fail
  refine (at_nil _ x.nm).mono ?_
  rintro r w1 ⟨rfl, rfl⟩
  go_wp2_with fail
  refine (front_nil _).mono ?_
  rintro r w2 ⟨rfl, hg2⟩
  have h2 := h0.grown hg2
  obtain ⟨c0, c1, c2⟩ := own_3 h2.b
  go_wp2_with fail
  have hg3 := World.grownBy_alloc w2 (.cells #[.string ⟨#[]⟩, .int .u64 0] 36) none
  refine (pop_nil _).mono ?_
  rintro r w4 ⟨rfl, hg4⟩
  have h4 := (h2.grown hg3).grown hg4
  clear c0 c1 c2
  obtain ⟨c0, c1, c2⟩ := own_3 h4.b
  go_wp2_with fail
  have hg5 := World.grownBy_alloc w4 (.cells #[.string ⟨#[]⟩, .int .u64 0] 36) none
  refine (alive_s (h4.grown hg5)).mono ?_
  rintro r w6 ⟨rfl, h6⟩
  clear c0 c1 c2
  obtain ⟨c0, c1, c2⟩ := own_3 h6.b
  go_wp2_with fail
  refine (put_nil _ x.nm x.at_).mono ?_
  rintro r w7 ⟨rfl, rfl⟩
  go_wp2_with fail
  refine (drop_nil _ x.nm).mono ?_
  rintro r w8 ⟨rfl, rfl⟩
  go_wp2_with fail
  refine (due_nil _ x.at_).mono ?_
  rintro r w9 ⟨rfl, hg9⟩
  have h9 := h6.grown hg9
  go_wp2_with fail
  refine (len_nil _).mono ?_
  rintro r w10 ⟨rfl, rfl⟩
  go_wp2
  go_ret
  exact ⟨rfl, h9.2⟩
end Go.Proofs.Ytipcoghhnbgalaa
