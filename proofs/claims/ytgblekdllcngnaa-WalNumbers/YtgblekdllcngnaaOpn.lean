/- What Open does to a disk with nothing on it. -/
import Derived.Test.YtgblekdllcngnaaRdd
import Derived.Test.YtgblekdllcngnaaDeca
namespace Go.Proofs.Ytgblekdllcngnaa
open Go.RowKit Go.Shelf Plain Go.IntWalk
set_option linter.unusedVariables false

set_option maxRecDepth 100000 in
set_option maxHeartbeats 1000000 in
/-- readRoot of no bytes. -/
theorem readRoot_empty (v : Value) (w : World) (hb : Bts w.heap.size w v []) :
    Calls Try.prog 22 #[v] w fun e w' => e = .returned (.tuple #[.int .i64 0, .int .i64 0]) ∧ Below w.heap.size w w' := by
  go_enter Try.func22, Try.ntmps22
  go_wp2_with fail
  refine (decSaid v [] w hb).mono ?_
  rintro e w1 ⟨⟨u, xs, rfl, hF, hz, ho⟩ | ⟨_, hno⟩, hB⟩
  rotate_left
  · exact absurd rfl (hno [] rfl)
  have hx : xs = [] := by
    cases xs with
    | nil => rfl
    | cons x xs => simp [encL, encF] at hz
  subst hx
  obtain ⟨a, cap, rfl⟩ : ∃ a cap, u = .slice a 0 cap := by
    obtain ⟨⟨rfl | ⟨ad, cap, rfl⟩, _⟩ | ⟨b, off, cap, rfl, _⟩, _⟩ := hF
    · exact ⟨_, _, rfl⟩
    · exact ⟨_, _, rfl⟩
    · exact ⟨_, _, rfl⟩
  go_wp2
  go_ret2
  exact ⟨rfl, hB⟩
section
variable {M : Nat → Prop} {lb sb bm : Nat} {sv : Value} {l : List Sg} {root : List Int} {seg : Int} {size next forced : Int}
set_option maxRecDepth 100000 in
set_option maxHeartbeats 2000000 in
theorem findRecords_none (w : World) (h : Lgd M w lb sb bm sv l root seg [] size next forced) (h0 : 0 ≤ seg) (h1 : seg ≤ 1000000000000000) (hx : getS seg l = none) :
    Calls Try.prog 24 #[.pointer (some ⟨lb, 0, none⟩)] w fun e w' => e = .returned (.tuple #[]) ∧ w.grownBy w' none := by
  obtain ⟨sa, scap, rfl, _⟩ := own_shape h.row
  have c0 := h.c0
  have c1 := h.c1
  have c2 := h.c2
  have hk := h.keep (grown_drew w)
  simp only [List.length_nil] at c2 hk
  have hw0 : IntKind.i64.wrap seg = seg := by rw [IntKind.wrap_i64]; omega
  have hw1 : IntKind.i64.wrap (seg + 0) = seg := by rw [IntKind.wrap_i64]; omega
  have hw2 : IntKind.i64.wrap (seg + ((0 : Nat) : Int)) = seg := by rw [IntKind.wrap_i64]; omega
  have hkc : Hid (∀ w', w.drew.grownBy w' none → w'.cell? ⟨lb, 0, none⟩ = some (.pointer (some ⟨sb, 0, none⟩)) ∧ w'.cell? ⟨lb, 1, none⟩ = some (.int .i64 seg) ∧ w'.cell? ⟨lb, 2, none⟩ = some (.slice sa 0 scap)) := fun w' hg => ⟨(hk.keep hg).c0, (hk.keep hg).c1, (hk.keep hg).c2⟩
  go_enter Try.func24, Try.ntmps24
  go_wp2_with fail
  refine wp_loop_rounds 1 ?_
  rw [rounds_succ]
  go_wp2_with fail
  go_region_held3 (fun w' => w'.cell? ⟨lb, 0, none⟩ = some (.pointer (some ⟨sb, 0, none⟩)) ∧ w'.cell? ⟨lb, 1, none⟩ = some (.int .i64 seg) ∧ w'.cell? ⟨lb, 2, none⟩ = some (.slice sa 0 scap))
    (first
      | go_keep
      | exact hkc.out _ hg4)
    ((go_at_call 27
      refine (read_none _ hk.dsk (by omega) (by omega) hx).mono ?_
      rintro e w4 ⟨v4, rfl, hb4, hg4⟩
      obtain ⟨a4, cap4, rfl⟩ := hb4.1.shape))
  have hm := measure_any a4 0 cap4 [] w4 hb4.1 (by simp)
  have e1 : cnt [] = 0 := by unfold cnt; rw [frs_none fsz_nil]; rfl
  have e2 : msz [] = 0 := by unfold msz; rw [frs_none fsz_nil]; rfl
  rw [e1, e2] at hm
  go_wp2_with fail
  refine hm.mono ?_
  rintro e w5 ⟨rfl, hB5⟩
  go_wp2
  refine bodyPost_ret (results_none rfl _ _ _) rfl ?_
  exact ⟨rfl, grown_none (grown_none (grown_drew w) hg4) (below_grown hB5)⟩
set_option maxRecDepth 100000 in
set_option maxHeartbeats 2000000 in
theorem removeOthers_none (w : World) {st : List Int} (h : Lgd M w lb sb bm sv [] root seg st size next forced) :
    Calls Try.prog 25 #[.pointer (some ⟨lb, 0, none⟩)] w fun e w' => e = .returned (.tuple #[]) ∧ w.grownBy w' none := by
  have c0 := h.c0
  go_enter Try.func25, Try.ntmps25
  go_wp2_with fail
  refine (segments_any w h.dsk).mono ?_
  rintro e w1 ⟨g, cap, rfl, hrow, hg⟩
  go_wp2_with fail
  refine wp_loop_rounds 1 ?_
  rw [rounds_succ]
  go_wp2
  go_end0
  exact ⟨rfl, hg⟩
set_option maxRecDepth 100000 in
set_option maxHeartbeats 2000000 in
theorem makeSafe_none (w : World) (h : Lgd M w lb sb bm sv l root seg [] size next forced) :
    Calls Try.prog 26 #[.pointer (some ⟨lb, 0, none⟩)] w fun e w' => e = .returned (.tuple #[]) ∧ w' = w := by
  obtain ⟨sa, scap, rfl, _⟩ := own_shape h.row
  have c2 := h.c2
  simp only [List.length_nil] at c2
  go_enter Try.func26, Try.ntmps26
  go_wp2_with fail
  refine wp_loop_rounds 1 ?_
  rw [rounds_succ]
  go_wp2
  go_end0
  exact ⟨rfl, rfl⟩
end
set_option maxRecDepth 100000 in
set_option maxHeartbeats 2000000 in
/-- Open of a disk with nothing on it. -/
theorem open_fresh (w : World) {sb bm : Nat} (M : Nat → Prop) (hm : ∀ k, M k → k < w.heap.size) (m2 : ¬ M sb) (m3 : ¬ M bm) (h : Dsk w sb bm (fun k => k ≠ sb ∧ k ≠ bm) [] []) :
    Calls Try.prog 8 #[.pointer (some ⟨sb, 0, none⟩)] w fun e w' => ∃ lb sv, e = .returned (.tuple #[.pointer (some ⟨lb, 0, none⟩), .int .i64 0]) ∧ w.heap.size ≤ lb ∧ Lgd M w' lb sb bm sv [] [] 0 [] 0 0 0 ∧ Kpt M w w' := by
  replace h : Dsk w sb bm (fun k => k ≠ sb ∧ k ≠ bm ∧ ¬ M k) [] [] := by
    obtain ⟨rv, r1, r2⟩ := h.c1
    exact ⟨h.c0, ⟨rv, r1, r2.1, fun _ _ _ _ _ hz => absurd rfl hz⟩, h.f1, fun e => e.1 rfl, fun e => e.2.1 rfl, h.mp, h.up, h.len, (fun x hx => by cases hx), h.rl⟩
  go_enter Try.func8, Try.ntmps8
  go_wp2_with fail
  refine (root_any w h).mono ?_
  rintro e w1 ⟨v1, rfl, hb1, hg1⟩
  obtain ⟨a1, cap1, rfl⟩ := hb1.1.shape
  go_wp2_with fail
  refine (readRoot_empty _ w1 hb1.1).mono ?_
  rintro e w2 ⟨rfl, hB2⟩
  have hg2 := below_grown hB2
  have hg02 := grown_none hg1 hg2
  have hga := World.grownBy_alloc w2 (.cells #[.pointer (some ⟨sb, 0, none⟩), .int .i64 0, .slice none 0 0, .int .i64 0, .int .i64 0, .int .i64 0] 57) none
  have hgA := grown_none hg02 hga
  have hs2 := hg02.size
  have hsb := h.sbl
  have hbm := h.bml
  have hL : Lgd M (w2.alloc (.cells #[.pointer (some ⟨sb, 0, none⟩), .int .i64 0, .slice none 0 0, .int .i64 0, .int .i64 0, .int .i64 0] 57)) w2.heap.size sb bm (.slice none 0 0) [] [] 0 [] 0 0 0 := by
    refine ⟨heap_alloc_new w2 _, World.ownsRow_nil _ _ _ _, ?_, by omega, by omega, fun k hk => by simp [Value.ownBlock] at hk, fun e => by have := hm _ e; omega, m2, m3, fun k hk => by have := hm k hk; simp; omega⟩
    refine (h.low.grown0 hgA).mono (fun k hk => ⟨by omega, hk.1.1, hk.1.2.1, by simp [Value.ownBlock], hk.1.2.2⟩) (fun e => e.2.1 rfl) (fun e => e.2.2.1 rfl)
  have hK : Kpt M w (w2.alloc (.cells #[.pointer (some ⟨sb, 0, none⟩), .int .i64 0, .slice none 0 0, .int .i64 0, .int .i64 0, .int .i64 0] 57)) := Kpt.of hgA hm (by simp)
  go_wp2_with fail
  refine (findRecords_none _ hL (by omega) (by omega) rfl).mono ?_
  rintro e w3 ⟨rfl, hg3⟩
  have hL3 := hL.keep hg3
  have hK3 := hK.trans (hL.kpt0 hg3)
  go_wp2_with fail
  refine (removeOthers_none _ hL3).mono ?_
  rintro e w4 ⟨rfl, hg4⟩
  have hL4 := hL3.keep hg4
  have hK4 := hK3.trans (hL3.kpt0 hg4)
  go_wp2_with fail
  refine (makeSafe_none _ hL4).mono ?_
  rintro e w5 ⟨rfl, rfl⟩
  have c4 := hL4.c4
  have f5 := hL4.fz 5
  have c5 := hL4.c5
  have hc := hL4.cell 5 (.int .i64 0) (seg' := 0) (size' := 0) (next' := 0) (forced' := 0) rfl
  go_wp2
  go_ret2
  exact ⟨_, _, rfl, hs2, hc.1, hK4.trans hc.2⟩
set_option maxRecDepth 100000 in
set_option maxHeartbeats 1000000 in
theorem open_nil (w : World) : Calls Try.prog 8 #[.pointer none] w fun e w' => e = .returned (.tuple #[.pointer none, .int .i64 1]) ∧ w' = w := by
  go_enter Try.func8, Try.ntmps8
  go_wp2
  go_ret2
  exact ⟨rfl, rfl⟩
end Go.Proofs.Ytgblekdllcngnaa
