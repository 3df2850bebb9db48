/- belfryref09.Same, belfryref10.Same. -/
import Derived.Test.YtblnhcnfeagjhaaGreatDoorFit
namespace Go.Proofs.YtblnhcnfeagjhaaGreatDoor
open Go.RowKit Go.IntWalk Go.Maps Go.Shelf
set_option linter.unusedVariables false
set_option maxRecDepth 100000 in
set_option maxHeartbeats 4000000 in
/-- Same, of an action and itself. -/
theorem same_any (w : World) {v u : Value} {xs : List Sp} (h : Sps w.heap.size w v xs) (k : Sps w.heap.size w u xs) : Calls Tryz.prog 57 #[v, u] w fun e w' => e = .returned (.bool true) ∧ w.grownBy w' none := by
  obtain ⟨a, cap, rfl, hxl⟩ := h.shape
  obtain ⟨a2, cap2, rfl, _⟩ := k.shape
  unfold maxLen at hxl
  go_enter Tryz.func57, Tryz.ntmps57
  go_wp2_with fail
  go_loopw [5] (fun iv wr => ∃ i : Nat, iv = .int .i64 i ∧ i ≤ xs.length ∧ Hid (w.grownBy wr none))
    (fun iv _ => xs.length - (intOf iv).toNat)
  case atStart => exact ⟨0, rfl, by omega, ⟨grown_refl w⟩⟩
  case round =>
    obtain ⟨i, rfl, hi, hg⟩ := hrel
    by_cases hlt : i < xs.length
    · have hdi : decide ((i : Int) < xs.length) = true := by simp; omega
      obtain ⟨x, hx⟩ : ∃ x, xs[i]? = some x := ⟨_, List.getElem?_eq_getElem hlt⟩
      obtain ⟨b, off, rfl, hb, hok, c0, c1, c2, c3⟩ := (h.keep hg.out (Nat.le_refl _)).at hx
      obtain ⟨b2, off2, rfl, hb2, -, e0, e1, e2, e3⟩ := (k.keep hg.out (Nat.le_refl _)).at hx
      have hq0 : (x.kd != x.kd) = false := by simp
      have hq1 : ((bt x.ky).toList != (bt x.ky).toList) = false := by simp
      have hq2 : ((bt x.vl).toList != (bt x.vl).toList) = false := by simp
      have hq3 : (x.n != x.n) = false := by simp
      haveI := lat_nonempty wr
      have k0 := lat_cell c0
      have k1 := lat_cell c1
      have k2 := lat_cell c2
      have k3 := lat_cell c3
      have m0 := lat_cell e0
      have m1 := lat_cell e1
      have m2 := lat_cell e2
      have m3 := lat_cell e3
      clear hx c0 c1 c2 c3 e0 e1 e2 e3 hok
      go_wp2_with fail
      refine wp_region_lat (by kernel_rfl) (by kernel_rfl) ?_
      repeat (go_big_quiet_step (fail))
      refine wpQuiet_nil ?_
      intro _ hw'
      obtain ⟨q, hw''⟩ := hw'
      subst hw''
      have hg2 : Hid (w.grownBy q.W none) := ⟨grown_none hg.out q.h⟩
      clear k0 k1 k2 k3 m0 m1 m2 m3
      go_wp2_with fail
      exact ⟨⟨i + 1, by go_num, by omega, hg2⟩, by simp [intOf] <;> omega⟩
    · have hdi : decide ((i : Int) < xs.length) = false := by simp; omega
      go_wp2_with fail
      go_ret
      exact ⟨rfl, hg.out⟩
set_option maxRecDepth 100000 in
set_option maxHeartbeats 1000000 in
/-- .. of no steps and of some. -/
theorem same_nil (w : World) {v u : Value} {xs : List Sp} (h : Sps w.heap.size w v []) (k : Sps w.heap.size w u xs) : Calls Tryz.prog 57 #[v, u] w fun e w' => (∃ b, e = .returned (.bool b)) ∧ w.grownBy w' none := by
  obtain ⟨a, cap, rfl, _⟩ := h.shape
  obtain ⟨a2, cap2, rfl, hxl⟩ := k.shape
  unfold maxLen at hxl
  by_cases h0 : xs.length = 0
  · have hq : ((0 : Int) != (xs.length : Int)) = false := by simp; omega
    rw [h0]
    go_enter Tryz.func57, Tryz.ntmps57
    go_wp2_with fail
    go_loopw [5] (fun iv wr => iv = .int .i64 0 ∧ Hid (w.grownBy wr none)) (fun _ _ => 0)
    case atStart => exact ⟨rfl, ⟨grown_refl w⟩⟩
    case round =>
      obtain ⟨rfl, hg⟩ := hrel
      go_wp2_with fail
      go_ret
      exact ⟨⟨_, rfl⟩, hg.out⟩
  · have hq : ((0 : Int) != (xs.length : Int)) = true := by simp; omega
    have hq2 : ¬ (0 : Int) = (xs.length : Int) := by omega
    go_enter Tryz.func57, Tryz.ntmps57
    go_wp2
    go_ret
    exact ⟨⟨_, rfl⟩, grown_refl w⟩
set_option maxRecDepth 100000 in
set_option maxHeartbeats 1000000 in
/-- belfryref10.Same of a timer and the same, its steps elsewhere. -/
theorem tsame_any (w : World) (x : Tmr) {v u : Value} (h : Sps w.heap.size w v x.xs) (k : Sps w.heap.size w u x.xs) : Calls Tryz.prog 31 #[({ x with v := v } : Tmr).val, ({ x with v := u } : Tmr).val] w fun e w' => e = .returned (.bool true) ∧ w.grownBy w' none := by
  obtain ⟨nm, vr, a, ev, v0, xs⟩ := x
  simp only [Tmr.val] at h k ⊢
  obtain ⟨va, vc, rfl, _⟩ := h.shape
  obtain ⟨ua, uc, rfl, _⟩ := k.shape
  have hg := grown_none (World.grownBy_alloc w (bT nm vr a ev (.slice va xs.length vc)) none) (World.grownBy_alloc (w.alloc (bT nm vr a ev (.slice va xs.length vc))) (bT nm vr a ev (.slice ua xs.length uc)) none)
  have hs := same_any _ ((h.keep hg (Nat.le_refl _)).up hg.size) ((k.keep hg (Nat.le_refl _)).up hg.size)
  have hb1 : ((w.alloc (bT nm vr a ev (.slice va xs.length vc))).alloc (bT nm vr a ev (.slice ua xs.length uc))).heap[w.heap.size]? = some (bT nm vr a ev (.slice va xs.length vc)) := by
    rw [(World.grownBy_alloc (w.alloc (bT nm vr a ev (.slice va xs.length vc))) (bT nm vr a ev (.slice ua xs.length uc)) none).block w.heap.size (by simp) (by simp)]
    exact World.alloc_heap_new w _
  have hb2 : ((w.alloc (bT nm vr a ev (.slice va xs.length vc))).alloc (bT nm vr a ev (.slice ua xs.length uc))).heap[w.heap.size + 1]? = some (bT nm vr a ev (.slice ua xs.length uc)) := by simpa using World.alloc_heap_new (w.alloc (bT nm vr a ev (.slice va xs.length vc))) (bT nm vr a ev (.slice ua xs.length uc))
  replace hs : Hid _ := ⟨hs⟩
  replace hg : Hid _ := ⟨hg⟩
  have e0 : (nm.toList == nm.toList) = true := by simp
  go_enter Tryz.func31, Tryz.ntmps31
  go_wp2_with fail
  refine hs.out.mono ?_
  rintro r w1 ⟨rfl, hg1⟩
  have hb1 := (hg1.block w.heap.size (by simp; omega) (by simp)).trans hb1
  have hb2 := (hg1.block (w.heap.size + 1) (by simp) (by simp)).trans hb2
  obtain ⟨c0, c1, c2, c3, c4, _⟩ := own_five hb1
  obtain ⟨d0, d1, d2, d3, d4, _⟩ := own_five hb2
  have hfin : Hid _ := ⟨grown_none hg.out hg1⟩
  clear hs hg hg1 hb1 hb2
  go_wp2
  go_ret
  exact ⟨rfl, hfin.out⟩
set_option maxRecDepth 100000 in
set_option maxHeartbeats 2000000 in
/-- .. of no timer and any. -/
theorem tsame_nil (w : World) (x : Tmr) {v : Value} (h : Sps w.heap.size w v []) (k : Sps w.heap.size w x.v x.xs) : Calls Tryz.prog 31 #[({ zTm with v := v } : Tmr).val, x.val] w fun e w' => (∃ b, e = .returned (.bool b)) ∧ w.grownBy w' none := by
  obtain ⟨nm, vr, a, ev, v0, xs⟩ := x
  simp only [Tmr.val, zTm] at h k ⊢
  obtain ⟨va, vc, rfl, _⟩ := h.shape
  obtain ⟨ua, uc, rfl, _⟩ := k.shape
  have hg := grown_none (World.grownBy_alloc w (bT ⟨#[]⟩ 0 0 0 (.slice va 0 vc)) none) (World.grownBy_alloc (w.alloc (bT ⟨#[]⟩ 0 0 0 (.slice va 0 vc))) (bT nm vr a ev (.slice ua xs.length uc)) none)
  have hs := same_nil _ ((h.keep hg (Nat.le_refl _)).up hg.size) ((k.keep hg (Nat.le_refl _)).up hg.size)
  have hb1 : ((w.alloc (bT ⟨#[]⟩ 0 0 0 (.slice va 0 vc))).alloc (bT nm vr a ev (.slice ua xs.length uc))).heap[w.heap.size]? = some (bT ⟨#[]⟩ 0 0 0 (.slice va 0 vc)) := by
    rw [(World.grownBy_alloc (w.alloc (bT ⟨#[]⟩ 0 0 0 (.slice va 0 vc))) (bT nm vr a ev (.slice ua xs.length uc)) none).block w.heap.size (by simp) (by simp)]
    exact World.alloc_heap_new w _
  have hb2 : ((w.alloc (bT ⟨#[]⟩ 0 0 0 (.slice va 0 vc))).alloc (bT nm vr a ev (.slice ua xs.length uc))).heap[w.heap.size + 1]? = some (bT nm vr a ev (.slice ua xs.length uc)) := by simpa using World.alloc_heap_new (w.alloc (bT ⟨#[]⟩ 0 0 0 (.slice va 0 vc))) (bT nm vr a ev (.slice ua xs.length uc))
  replace hs : Hid _ := ⟨hs⟩
  replace hg : Hid _ := ⟨hg⟩
  go_enter Tryz.func31, Tryz.ntmps31
  go_wp2_with fail
  refine hs.out.mono ?_
  rintro r w1 ⟨⟨b, rfl⟩, hg1⟩
  have hb1 := (hg1.block w.heap.size (by simp; omega) (by simp)).trans hb1
  have hb2 := (hg1.block (w.heap.size + 1) (by simp) (by simp)).trans hb2
  obtain ⟨c0, c1, c2, c3, c4, _⟩ := own_five hb1
  obtain ⟨d0, d1, d2, d3, d4, _⟩ := own_five hb2
  have hfin : Hid _ := ⟨grown_none hg.out hg1⟩
  clear hs hg hg1 hb1 hb2
  cases e0 : (({ data := #[] } : ByteArray).toList == nm.toList) <;> cases e1 : ((0 : Int) == vr) <;> cases e2 : ((0 : Int) == a) <;> cases e3 : ((0 : Int) == ev)
  all_goals
    go_wp2
    all_goals
      go_ret
      exact ⟨⟨_, rfl⟩, hfin.out⟩
end Go.Proofs.YtblnhcnfeagjhaaGreatDoor
