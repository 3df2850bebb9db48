/- The least of timers: slices.MinFunc by compare. -/
import Derived.Test.YtblnhcnfeagjhaaGreatDoorWMb
namespace Go.Proofs.YtblnhcnfeagjhaaGreatDoor.W
open Go.RowKit Go.IntWalk Go.Maps Go.Shelf
set_option linter.unusedVariables false
theorem lat_compare {w : World} (a b : E) (p : Lat w) : Calls Tryz.prog 70 #[.agg #[.string a.n, .int .u64 a.at_], .agg #[.string b.n, .int .u64 b.at_]] p.W fun e w'' => e = .returned (.int .i64 (cfE a b)) ∧ ∃ p' : Lat w, w'' = p'.W :=
  (compare_any a b p.W).mono fun e w'' ⟨he, hB⟩ => ⟨he, ⟨w'', grown_none p.h (by rw [hB]; exact grown_none (World.grownBy_alloc _ _ none) (World.grownBy_alloc _ _ none))⟩, rfl⟩
theorem some_at {es : List E} {k : Nat} (h : k < es.length) : ∃ x, es[k]? = some x := ⟨es[k], List.getElem?_eq_getElem h⟩
theorem own_b {w : World} {k : Nat} {a b : Value} {t : TypeId} (hb : w.heap[k]? = some (.cells #[a, b] t (0, 0))) : w.cell? ⟨k, 0, none⟩ = some a ∧ w.cell? ⟨k, 1, none⟩ = some b ∧ ∀ i, w.frozen? ⟨k, i, none⟩ = false :=
  ⟨by simp [World.cell?, hb], by simp [World.cell?, hb], fun i => by simp [World.frozen?, hb]⟩
theorem set_two (w : World) (k : Nat) (u v : Value) : w.grownBy ((w.setCell ⟨k, 0, none⟩ u).setCell ⟨k, 1, none⟩ v) (some k) := (grown_setCell w ⟨k, 0, none⟩ u).andThen (grown_setCell _ ⟨k, 1, none⟩ v) fun j hj => .inr hj
/-- The least of the first k. -/
def Least (ss : List E) (k : Nat) (m : E) : Prop := m ∈ ss.take k ∧ ∀ y ∈ ss.take k, ¬ lt y m
theorem Least.one {ss : List E} {m : E} (h : ss[0]? = some m) : Least ss 1 m := by
  have : ss.take 1 = [m] := by
    cases ss with
    | nil => simp at h
    | cons a r => simp at h; simp [h]
  unfold Least
  rw [this]
  simp [lt_irrefl]
theorem Least.stay {ss : List E} {k : Nat} {m x : E} (h : Least ss k m) (hx : ss[k]? = some x) (hn : ¬ lt x m) : Least ss (k + 1) m := by
  unfold Least at *
  rw [List.take_add_one, hx]
  refine ⟨by simp [h.1], fun y hy => ?_⟩
  rcases List.mem_append.1 hy with hy | hy
  · exact h.2 y hy
  · simp at hy; subst hy; exact hn
theorem Least.turn {ss : List E} {k : Nat} {m x : E} (h : Least ss k m) (hx : ss[k]? = some x) (hn : lt x m) : Least ss (k + 1) x := by
  unfold Least at *
  rw [List.take_add_one, hx]
  refine ⟨by simp, fun y hy => ?_⟩
  rcases List.mem_append.1 hy with hy | hy
  · exact fun hl => h.2 y hy (lt_trans hl hn)
  · simp at hy; subst hy; exact lt_irrefl _
set_option maxRecDepth 100000 in
set_option maxHeartbeats 2000000 in
/-- slices.MinFunc by compare. -/
theorem min_any (w : World) {g cap : Nat} {ss : List E} (h : Rw 86 w (.slice (some ⟨g, 0, none⟩) ss.length cap) ss) (hl : ss.length ≤ 100000) (h0 : 0 < ss.length) :
    Calls Tryz.prog 80 #[.slice (some ⟨g, 0, none⟩) ss.length cap, .func (.func 70) #[] #[]] w fun r w' => ∃ m, r = .returned (.agg #[.string m.n, .int .u64 m.at_]) ∧ Least ss ss.length m ∧ w.grownBy w' none := by
  obtain ⟨f, hf⟩ := some_at h0
  obtain ⟨g', e', hgl, _, k1, k2, _⟩ := h.at hf
  simp only [Option.some.injEq, Addr.mk.injEq] at e'
  obtain ⟨rfl, _⟩ := e'
  simp only [Nat.zero_mul, Nat.zero_add] at k1 k2
  have hz : decide ((ss.length : Int) < 1) = false := by simp; omega
  have k1' := fun o => grown_cell (World.grownBy_alloc w o none) k1
  have k2' := fun o => grown_cell (World.grownBy_alloc w o none) k2
  go_enter Tryz.func80, Tryz.ntmps80
  go_wp2_with fail
  have hg1 := World.grownBy_alloc w (.cells #[.string ⟨#[]⟩, .int .u64 0] 86) none
  have hg2 := World.grownBy_alloc (w.alloc (.cells #[.string ⟨#[]⟩, .int .u64 0] 86)) (.cells #[.string f.n, .int .u64 f.at_] 86) none
  have hb1 := heap_alloc_new w (.cells #[.string ⟨#[]⟩, .int .u64 0] 86)
  have hb2 := heap_alloc_new (w.alloc (.cells #[.string ⟨#[]⟩, .int .u64 0] 86)) (.cells #[.string f.n, .int .u64 f.at_] 86)
  go_loopw [6] (fun i wr => ∃ (k : Nat) (m : E), 1 ≤ k ∧ k ≤ ss.length ∧ i = .int .i64 k ∧ Hid (Least ss k m) ∧ Hid (Rw 86 wr (.slice (some ⟨g, 0, none⟩) ss.length cap) ss) ∧ Hid (w.grownBy wr none) ∧
      Hid (wr.heap[w.heap.size]? = some (.cells #[.string ⟨#[]⟩, .int .u64 0] 86 (0, 0))) ∧ Hid (wr.heap[w.heap.size + 1]? = some (.cells #[.string m.n, .int .u64 m.at_] 86 (0, 0))))
    (fun i _ => ss.length - (intOf i).toNat)
  case atStart =>
    refine ⟨1, f, by omega, by omega, rfl, ⟨Least.one hf⟩, ⟨World.ownsRow.kept h (grown_none hg1 hg2) (Classical.em _)⟩, ⟨grown_none hg1 hg2⟩, ⟨?_⟩, ⟨by simpa using hb2⟩⟩
    rw [hg2.block w.heap.size (by simp) (by simp)]
    exact hb1
  case round =>
    obtain ⟨k, m, hk1, hk2, rfl, hLe, hR, hG, hB1, hB2⟩ := hrel
    by_cases hlt : k < ss.length
    · have hd : decide ((k : Int) < ss.length) = true := by simp; omega
      obtain ⟨x, hx⟩ := some_at hlt
      obtain ⟨g', e', _, _, c1, c2, _⟩ := hR.out.at hx
      simp only [Option.some.injEq, Addr.mk.injEq] at e'
      obtain ⟨rfl, _⟩ := e'
      obtain ⟨d1, d2, dz⟩ := own_b hB2.out
      haveI := lat_nonempty wr
      have kk1 := lat_cell c1
      have kk2 := lat_cell c2
      have kk3 := lat_cell d1
      have kk4 := lat_cell d2
      have ka := fun p : Lat wr => lat_compare x m p
      have hgne : g ≠ w.heap.size + 1 := by omega
      by_cases hxm : lt x m
      · have hc : cfE x m = -1 := by unfold cfE c3; rw [ltb_iff.2 hxm]; rfl
        have hL2 : Hid (Least ss (k + 1) x) := ⟨hLe.out.turn hx hxm⟩
        rw [hc] at ka
        clear hxm hc k1' k2' k1 k2
        replace hx : Hid _ := ⟨hx⟩
        replace hf : Hid _ := ⟨hf⟩
        go_wp2_with fail
        refine wp_region_lat (by kernel_rfl) (by kernel_rfl) ?_
        repeat (go_big_quiet_step (fail))
        go_big_quiet_step ((go_at_call 70; exact ka _))
        repeat (go_big_quiet_step (fail))
        refine wpQuiet_nil ?_
        intro _ hw'
        obtain ⟨p, hw''⟩ := hw'
        subst hw''
        have q1 := grown_cell p.h c1
        have q2 := grown_cell p.h c2
        have hfz : ∀ i, p.W.frozen? ⟨w.heap.size + 1, i, none⟩ = false := fun i => by rw [grown_frozen p.h (by have := (Array.getElem?_eq_some_iff.1 hB2.out).1; simpa using this)]; exact dz i
        have hb3 := (p.h.block (w.heap.size + 1) ((Array.getElem?_eq_some_iff.1 hB2.out).1) (by simp)).trans hB2.out
        obtain ⟨e1, e2, _⟩ := own_b hb3
        replace hb3 : Hid _ := ⟨hb3⟩
        clear ka kk1 kk2 kk3 kk4
        go_wp2_with fail
        go_roundw
        case rel =>
          have hg4 := set_two p.W (w.heap.size + 1) (.string x.n) (.int .u64 x.at_)
          refine ⟨k + 1, x, by omega, by omega, by go_num, hL2, ⟨World.ownsRow.kept (World.ownsRow.kept hR.out p.h (Classical.em _)) hg4 (.inr (by simp [Value.ownBlock]; omega))⟩, ⟨grown_new (grown_none hG.out p.h) hg4 (by omega)⟩, ⟨?_⟩, ⟨?_⟩⟩
          · rw [hg4.block w.heap.size (Nat.lt_of_lt_of_le ((Array.getElem?_eq_some_iff.1 hB1.out).1) p.h.size) (by simp), p.h.block w.heap.size ((Array.getElem?_eq_some_iff.1 hB1.out).1) (by simp)]
            exact hB1.out
          · rw [heap_set (heap_set hb3.out 0 _) 1 _]; rfl
        case measure => simp [intOf]; omega
      · have hc : decide (cfE x m < 0) = false := by
          unfold cfE c3
          rw [ltb_f hxm]
          cases ltb m x <;> simp
        have hL2 : Hid (Least ss (k + 1) m) := ⟨hLe.out.stay hx hxm⟩
        generalize cfE x m = cv at ka hc
        clear hxm k1' k2' k1 k2
        replace hx : Hid _ := ⟨hx⟩
        replace hf : Hid _ := ⟨hf⟩
        go_wp2_with fail
        refine wp_region_lat (by kernel_rfl) (by kernel_rfl) ?_
        repeat (go_big_quiet_step (fail))
        go_big_quiet_step ((go_at_call 70; exact ka _))
        repeat (go_big_quiet_step (fail))
        refine wpQuiet_nil ?_
        intro _ hw'
        obtain ⟨p, hw''⟩ := hw'
        subst hw''
        have hb3 := (p.h.block (w.heap.size + 1) ((Array.getElem?_eq_some_iff.1 hB2.out).1) (by simp)).trans hB2.out
        have hb4 := (p.h.block (w.heap.size) ((Array.getElem?_eq_some_iff.1 hB1.out).1) (by simp)).trans hB1.out
        replace hb3 : Hid _ := ⟨hb3⟩
        replace hb4 : Hid _ := ⟨hb4⟩
        clear ka kk1 kk2 kk3 kk4
        go_wp2_with fail
        go_roundw
        case rel =>
          exact ⟨k + 1, m, by omega, by omega, by go_num, hL2, ⟨World.ownsRow.kept hR.out p.h (Classical.em _)⟩, ⟨grown_none hG.out p.h⟩, hb4, hb3⟩
        case measure => simp [intOf]; omega
    · have hd : decide ((k : Int) < ss.length) = false := by simp; omega
      have hke : k = ss.length := by omega
      subst hke
      obtain ⟨d1, d2, _⟩ := own_b hB2.out
      obtain ⟨e1, e2, ez⟩ := own_b hB1.out
      clear k1' k2' k1 k2
      replace hf : Hid _ := ⟨hf⟩
      go_wp2_with fail
      have hb5 := heap_set (heap_set hB1.out 0 (.string m.n)) 1 (.int .u64 m.at_)
      obtain ⟨f1, f2, _⟩ := own_b (w := (wr.setCell ⟨w.heap.size, 0, none⟩ (.string m.n)).setCell ⟨w.heap.size, 1, none⟩ (.int .u64 m.at_)) (k := w.heap.size) (a := .string m.n) (b := .int .u64 m.at_) (t := 86) (by rw [hb5]; rfl)
      refine bodyPost_ret (v := .agg #[.string m.n, .int .u64 m.at_]) (by rw [results_cell1 rfl]; go_simp) rfl ?_
      exact ⟨m, rfl, hLe.out, grown_new hG.out (set_two wr w.heap.size _ _) (Nat.le_refl _)⟩
end Go.Proofs.YtblnhcnfeagjhaaGreatDoor.W
