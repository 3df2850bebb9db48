/- The walk of the law DiskNil. -/
import Derived.Test.YtmhpbemfejkdaaaLive
namespace Go.Proofs.Ytmhpbemfejkdaaa
open Go.RowKit Go.IntWalk Go.Maps Go.Sort
set_option linter.unusedVariables false

theorem grown_below {w w' : World} (h : w.grownBy w' none) : Below w.heap.size w w' := ⟨h.os, h.tape, h.output, h.size, fun k hk => h.block k hk (by simp)⟩
set_option maxRecDepth 100000 in
set_option maxHeartbeats 4000000 in
theorem nil_walk (kd s n : Int) (a : Option Addr) (len cap : Nat) (ka : Option Addr) (klen kcap : Nat) (W : World) :
    Calls Try.prog 6 #[.agg #[.int .i64 kd, .int .i64 s, .int .i64 n, .slice a len cap, .slice ka klen kcap]] W fun e w' => e = .returned (.bool true) ∧ Below W.heap.size W w' := by
  have hgA := World.grownBy_alloc W (.cells #[.int .i64 kd, .int .i64 s, .int .i64 n, .slice a len cap, .slice ka klen kcap] 32) none
  go_enter Try.func6, Try.ntmps6
  go_wp2_with fail
  refine (read_nil _ s).mono ?_
  rintro r w1 ⟨v1, rfl, hb1, hg1⟩
  obtain ⟨a1, cap1, rfl⟩ := hb1.1.shape
  dsimp only [List.length_nil]
  go_wp2_with fail
  refine (alive_any w1).mono ?_
  rintro r w2 ⟨rfl, hg2⟩
  have hg02 := grown_none hg1 hg2
  have k0 : w2.cell? ⟨W.heap.size, 0, none⟩ = some (.int .i64 kd) := grown_cell hg02 (by simp)
  have k1 : w2.cell? ⟨W.heap.size, 1, none⟩ = some (.int .i64 s) := grown_cell hg02 (by simp)
  have k2 : w2.cell? ⟨W.heap.size, 2, none⟩ = some (.int .i64 n) := grown_cell hg02 (by simp)
  have k3 : w2.cell? ⟨W.heap.size, 3, none⟩ = some (.slice a len cap) := grown_cell hg02 (by simp)
  have k4 : w2.cell? ⟨W.heap.size, 4, none⟩ = some (.slice ka klen kcap) := grown_cell hg02 (by simp)
  go_wp2_with fail
  refine (append_nil w2 s _).mono ?_
  rintro r w3 ⟨rfl, rfl⟩
  go_wp2_with fail
  refine (sync_core w2 _ s 1 (by decide) (find_nil w2 s)).mono ?_
  rintro r w4 ⟨rfl, hg4⟩
  have k1 := grown_cell hg4 k1
  have k2 := grown_cell hg4 k2
  have k3 := grown_cell hg4 k3
  have k4 := grown_cell hg4 k4
  go_wp2_with fail
  refine (cut_core w4 _ s n 1 (by decide) (find_nil w4 s)).mono ?_
  rintro r w5 ⟨rfl, hg5⟩
  have k1 := grown_cell hg5 k1
  have k3 := grown_cell hg5 k3
  have k4 := grown_cell hg5 k4
  go_wp2_with fail
  refine (remove_core w5 _ s 1 (by decide) (find_nil w5 s)).mono ?_
  rintro r w6 ⟨rfl, hg6⟩
  have k1 := grown_cell hg6 k1
  have k3 := grown_cell hg6 k3
  have k4 := grown_cell hg6 k4
  go_wp2_with fail
  refine (swap_nil w6 _).mono ?_
  rintro r w7 ⟨rfl, rfl⟩
  go_wp2_with fail
  refine (safe_nil w6 s).mono ?_
  rintro r w8 ⟨rfl, hg8⟩
  have k4 := grown_cell hg8 k4
  go_wp2_with fail
  refine (segments_nil w8).mono ?_
  rintro r w9 ⟨rfl, rfl⟩
  go_wp2_with fail
  refine (root_nil w8).mono ?_
  rintro r w9 ⟨rfl, rfl⟩
  go_wp2_with fail
  refine (power_nil w8 _).mono ?_
  rintro r w9 ⟨rfl, rfl⟩
  go_wp2
  go_ret
  exact ⟨rfl, grown_below (grown_none (grown_none (grown_none (grown_none (grown_none hgA hg02) hg4) hg5) hg6) hg8)⟩
end Go.Proofs.Ytmhpbemfejkdaaa
