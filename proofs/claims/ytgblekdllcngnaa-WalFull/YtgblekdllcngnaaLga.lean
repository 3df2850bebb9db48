/- What the log's small functions answer: First, Next, Forced, Segments, lastSegment; Force; diskTakes; putInLast; putInNext. -/
import Derived.Test.YtgblekdllcngnaaLgm
import Derived.Deep.RegionHeld3
namespace Go.Proofs.Ytgblekdllcngnaa
open Go.RowKit Go.IntWalk Go.Maps
set_option linter.unusedVariables false

section
variable {M : Nat → Prop} {lb sb bm : Nat} {sv : Value} {l : List Sg} {root : List Int} {seg : Int} {st : List Int} {size next forced : Int}
set_option maxRecDepth 100000 in
set_option maxHeartbeats 1000000 in
theorem next_any (w : World) (h : Lgd M w lb sb bm sv l root seg st size next forced) :
    Calls Try.prog 16 #[.pointer (some ⟨lb, 0, none⟩)] w fun r w' => r = .returned (.int .i64 next) ∧ w' = w := by
  have c4 := h.c4
  go_enter Try.func16, Try.ntmps16
  go_wp2
  go_ret
  exact ⟨rfl, rfl⟩
set_option maxRecDepth 100000 in
set_option maxHeartbeats 1000000 in
theorem forced_any (w : World) (h : Lgd M w lb sb bm sv l root seg st size next forced) :
    Calls Try.prog 18 #[.pointer (some ⟨lb, 0, none⟩)] w fun r w' => r = .returned (.int .i64 forced) ∧ w' = w := by
  have c5 := h.c5
  go_enter Try.func18, Try.ntmps18
  go_wp2
  go_ret
  exact ⟨rfl, rfl⟩
set_option maxRecDepth 100000 in
set_option maxHeartbeats 1000000 in
theorem lsegs_any (w : World) (h : Lgd M w lb sb bm sv l root seg st size next forced) :
    Calls Try.prog 20 #[.pointer (some ⟨lb, 0, none⟩)] w fun r w' => r = .returned (.int .i64 st.length) ∧ w' = w := by
  have c2 := h.c2
  obtain ⟨a, cap, rfl, hl⟩ := own_shape h.row
  go_enter Try.func20, Try.ntmps20
  go_wp2
  go_ret
  exact ⟨rfl, rfl⟩
set_option maxRecDepth 100000 in
set_option maxHeartbeats 1000000 in
theorem first_none (w : World) (h : Lgd M w lb sb bm sv l root seg [] size next forced) :
    Calls Try.prog 14 #[.pointer (some ⟨lb, 0, none⟩)] w fun r w' => r = .returned (.int .i64 next) ∧ w' = w := by
  have c2 := h.c2
  have c4 := h.c4
  obtain ⟨a, cap, rfl, hl⟩ := own_shape h.row
  simp only [List.length_nil] at c2
  go_enter Try.func14, Try.ntmps14
  go_wp2
  go_ret
  exact ⟨rfl, rfl⟩
set_option maxRecDepth 100000 in
set_option maxHeartbeats 1000000 in
theorem first_some (w : World) (z : Int) (h : Lgd M w lb sb bm sv l root seg (z :: st) size next forced) :
    Calls Try.prog 14 #[.pointer (some ⟨lb, 0, none⟩)] w fun r w' => r = .returned (.int .i64 z) ∧ w' = w := by
  have c2 := h.c2
  have hrow := h.row
  rcases hrow.2 with ⟨rfl, h0⟩ | ⟨g, cap, cur, rfl, hb, hg, hn, hm, hs, ht⟩
  · simp at h0
  · have hc : w.cell? ⟨g, 0, none⟩ = some (.int .i64 z) := hrow.cells (g := g) rfl 0 _ rfl
    have hl0 : (0 : Int) < ((z :: st).length : Int) := by simp
    have hne : (((z :: st).length : Int) == 0) = false := by simp; omega
    generalize (z :: st).length = k at *
    go_enter Try.func14, Try.ntmps14
    go_wp2
    go_ret
    exact ⟨rfl, rfl⟩
/-- First. -/
def fst (st : List Int) (next : Int) : Int := st.headD next
theorem lfirst_any (w : World) (h : Lgd M w lb sb bm sv l root seg st size next forced) :
    Calls Try.prog 14 #[.pointer (some ⟨lb, 0, none⟩)] w fun r w' => r = .returned (.int .i64 (fst st next)) ∧ w' = w := by
  cases st with
  | nil => exact first_none w h
  | cons z st => exact first_some w z h
set_option maxRecDepth 100000 in
set_option maxHeartbeats 1000000 in
theorem last_any (w : World) (h : Lgd M w lb sb bm sv l root seg st size next forced) (h0 : -1000000000000000 ≤ seg) (h1 : seg ≤ 1000000000000000) (hl : st.length ≤ 100000) :
    Calls Try.prog 32 #[.pointer (some ⟨lb, 0, none⟩)] w fun r w' => ∃ k, r = .returned (.int .i64 k) ∧ Hid (k = seg + st.length - 1) ∧ w.grownBy w' none := by
  have c1 := h.c1
  have c2 := h.c2
  obtain ⟨a, cap, rfl, _⟩ := own_shape h.row
  go_enter Try.func32, Try.ntmps32
  go_wp2_with fail
  go_region
  all_goals
    go_wp2
    go_ret
    exact ⟨_, rfl, rfl, grown_drew w⟩
set_option maxRecDepth 100000 in
set_option maxHeartbeats 1000000 in
theorem force_none (w : World) (h : Lgd M w lb sb bm sv l root seg [] size next forced) :
    Calls Try.prog 12 #[.pointer (some ⟨lb, 0, none⟩)] w fun r w' => r = .returned (.int .i64 0) ∧ Lgd M w' lb sb bm sv l root seg [] size next next ∧ Kpt M w w' := by
  have c2 := h.c2
  have c4 := h.c4
  have c5 := h.c5
  have f5 := h.fz 5
  obtain ⟨a, cap, rfl, hl⟩ := own_shape h.row
  simp only [List.length_nil] at c2
  have hc := h.cell 5 (.int .i64 next) (seg' := seg) (size' := size) (next' := next) (forced' := next) rfl
  go_enter Try.func12, Try.ntmps12
  go_wp2
  go_ret
  exact ⟨rfl, hc⟩
/-- All of a segment is safe. -/
def syncS (n : Int) (x : Sg) (l : List Sg) : List Sg := putS ⟨n, x.v, x.b, x.b.length⟩ l
set_option maxRecDepth 100000 in
set_option maxHeartbeats 1000000 in
theorem force_some (w : World) (h : Lgd M w lb sb bm sv l root seg st size next forced) (h0 : -1000000000000000 ≤ seg) (h1 : seg ≤ 1000000000000000) (hl0 : 0 < st.length) (hl : st.length ≤ 100000) {x : Sg} (hx : getS (seg + st.length - 1) l = some x) :
    Calls Try.prog 12 #[.pointer (some ⟨lb, 0, none⟩)] w fun r w' => r = .returned (.int .i64 0) ∧ Lgd M w' lb sb bm sv (syncS (seg + st.length - 1) x l) root seg st size next next ∧ Kpt M w w' := by
  have c0 := h.c0
  have c2 := h.c2
  obtain ⟨a, cap, rfl, _⟩ := own_shape h.row
  have hd : decide ((st.length : Int) > 0) = true := by simp; omega
  have hk0 := h.keep (grown_drew w)
  go_enter Try.func12, Try.ntmps12
  go_wp2_with fail
  go_region_held3 (fun w' => w'.cell? ⟨lb, 0, none⟩ = some (.pointer (some ⟨sb, 0, none⟩)))
    (first
      | go_keep
      | exact (hk0.keep hg1).c0
      | exact hL2.c0)
    (first
      | (go_at_call 32
         refine (last_any _ hk0 h0 h1 hl).mono ?_
         rintro r w1 ⟨k, rfl, hk, hg1⟩)
      | (go_at_call 31
         rw [hk.out]
         refine (sync_some w1 (hk0.keep hg1).dsk hx).mono ?_
         rintro r w2 ⟨rfl, hD2, hg2⟩
         have hL2 := (hk0.keep hg1).disk hg2 (hD2.wide' hg2 (hk0.keep hg1))
         have hK2 := ((h.kpt0 (grown_drew w)).trans (hk0.kpt0 hg1)).trans ((hk0.keep hg1).kptm hg2)))
  all_goals
    have c4 := hL2.c4
    have c5 := hL2.c5
    have f5 := hL2.fz 5
    have hc := hL2.cell 5 (.int .i64 next) (seg' := seg) (size' := size) (next' := next) (forced' := next) rfl
    go_wp2
    go_ret
    exact ⟨rfl, hc.1, hK2.trans hc.2⟩
end
end Go.Proofs.Ytgblekdllcngnaa
