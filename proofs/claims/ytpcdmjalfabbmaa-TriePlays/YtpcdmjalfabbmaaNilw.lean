/- The walk of TrieNil. -/
import Derived.Test.YtpcdmjalfabbmaaArg
import Derived.Test.YtpcdmjalfabbmaaLnn
namespace Go.Proofs.Ytpcdmjalfabbmaa
open Go.RowKit Go.IntWalk Go.Maps Go.Shelf
set_option linter.unusedVariables false
theorem below_of {w w' : World} (h : w.grownBy w' none) : Below w.heap.size w w' := ⟨h.os, h.tape, h.output, h.size, fun j hj => h.block j hj (by simp)⟩
theorem cell_new (W : World) (cs : Array Value) (t : TypeId) {i : Nat} {v : Value} (h : cs[i]? = some v) : (W.alloc (.cells cs t)).cell? ⟨W.heap.size, i, none⟩ = some v := by
  have := World.alloc_heap_new W (.cells cs t)
  simp only [World.cell?, this]
  exact h
set_option maxRecDepth 100000 in
set_option maxHeartbeats 2000000 in
theorem nil_walk (x : Ac) (y : Oq) (W : World) : Calls Try.prog 7 #[.agg #[.int .i64 x.kd, .string (bt x.ky), .string x.vl], .agg #[.string (bt y.pf), .int .i64 y.mo, .string (bt y.ky)]] W fun e W' => e = .returned (.bool true) ∧ Below W.heap.size W W' := by
  obtain ⟨N, hN⟩ : ∃ N, W.heap.size = N := ⟨_, rfl⟩
  have g0 := grown_none (World.grownBy_alloc W (.cells #[.int .i64 x.kd, .string (bt x.ky), .string x.vl] 30) none) (World.grownBy_alloc _ (.cells #[.string (bt y.pf), .int .i64 y.mo, .string (bt y.ky)] 24) none)
  have hsz : (W.alloc (.cells #[.int .i64 x.kd, .string (bt x.ky), .string x.vl] 30)).heap.size = N + 1 := by simp [hN]
  have c1 := grown_cell (World.grownBy_alloc _ (.cells #[.string (bt y.pf), .int .i64 y.mo, .string (bt y.ky)] 24) none) (cell_new W #[.int .i64 x.kd, .string (bt x.ky), .string x.vl] 30 (i := 1) rfl)
  have c2 := grown_cell (World.grownBy_alloc _ (.cells #[.string (bt y.pf), .int .i64 y.mo, .string (bt y.ky)] 24) none) (cell_new W #[.int .i64 x.kd, .string (bt x.ky), .string x.vl] 30 (i := 2) rfl)
  have d0 := cell_new (W.alloc (.cells #[.int .i64 x.kd, .string (bt x.ky), .string x.vl] 30)) #[.string (bt y.pf), .int .i64 y.mo, .string (bt y.ky)] 24 (i := 0) rfl
  have d1 := cell_new (W.alloc (.cells #[.int .i64 x.kd, .string (bt x.ky), .string x.vl] 30)) #[.string (bt y.pf), .int .i64 y.mo, .string (bt y.ky)] 24 (i := 1) rfl
  rw [hN] at c1 c2
  rw [hsz] at d0 d1
  replace g0 : Hid _ := ⟨g0⟩
  go_enter Try.func7, Try.ntmps7
  go_wp2_with fail
  refine (put_nil _ (bt x.ky) x.vl).mono ?_
  rintro r w1 ⟨rfl, rfl⟩
  go_wp2_with fail
  refine (drop_nil _ x.ky).mono ?_
  rintro r w2 ⟨rfl, hg2⟩
  have c1 := grown_cell hg2 c1
  have d0 := grown_cell hg2 d0
  have d1 := grown_cell hg2 d1
  have g2 : Hid _ := ⟨grown_none g0.out hg2⟩
  clear hg2 c2
  go_wp2_with fail
  refine (get_nil _ x.ky).mono ?_
  rintro r w3 ⟨rfl, hg3⟩
  have c1 := grown_cell hg3 c1
  have d0 := grown_cell hg3 d0
  have d1 := grown_cell hg3 d1
  have g3 : Hid _ := ⟨grown_none g2.out hg3⟩
  clear hg3
  go_wp2_with fail
  refine (longest_nil _ x.ky).mono ?_
  rintro r w4 ⟨rfl, hg4⟩
  have hg4 := grown_none hg4 (World.grownBy_alloc w4 (.cells #[.string (bt []), .string (bt [])] 46) none)
  have d0 := grown_cell hg4 d0
  have d1 := grown_cell hg4 d1
  have g4 : Hid _ := ⟨grown_none g3.out hg4⟩
  clear hg4 c1
  go_wp2_with fail
  refine (alive_any _).mono ?_
  rintro r w5 ⟨rfl, hg5⟩
  have d0 := grown_cell hg5 d0
  have d1 := grown_cell hg5 d1
  have g5 : Hid _ := ⟨grown_none g4.out hg5⟩
  clear hg5
  go_wp2_with fail
  refine (walk_nil _ y.pf y.mo).mono ?_
  rintro r w6 ⟨rfl, hg6⟩
  have g6 : Hid _ := ⟨grown_none g5.out hg6⟩
  clear hg6
  go_wp2_with fail
  refine (len_nil _).mono ?_
  rintro r w7 ⟨rfl, rfl⟩
  go_wp2_with fail
  refine (nodes_nil _).mono ?_
  rintro r w8 ⟨rfl, rfl⟩
  go_wp2_with fail
  refine (copy_nil _).mono ?_
  rintro r w9 ⟨rfl, rfl⟩
  go_wp2
  go_ret
  exact ⟨rfl, below_of g6.out⟩
end Go.Proofs.Ytpcdmjalfabbmaa
