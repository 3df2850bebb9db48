/- The walk of ActionLast. -/
import Derived.Test.YtmahpceokpajgaaDoorLap
import Derived.Test.YtmahpceokpajgaaDoorSuw
namespace Go.Proofs.YtmahpceokpajgaaDoor
open Go.RowKit Go.IntWalk Go.Maps Go.Shelf
set_option linter.unusedVariables false
/-- A row of keys with one in it. -/
theorem one_key {w : World} {base : Nat} {v : Value} {k : K} (h : w.ownsRow base 9 1 v 1 (cellsK [k])) : ∃ g c, v = .slice (some ⟨g, 0, none⟩) 1 c ∧ w.cell? ⟨g, 0, none⟩ = some (.string (bt k)) := by
  rcases id h.2 with ⟨e1, h0⟩ | ⟨g, c, cur, e1, hge, hg, hc⟩
  · omega
  · subst e1
    have k0 := h.cells (g := g) rfl 0 (.string (bt k)) rfl
    rw [addr_add, Nat.zero_add] at k0
    exact ⟨g, c, rfl, k0⟩
/-- The law's steps in memory. -/
theorem las_sps (w : World) (k : K) (x y : Int) (d : Bool) (hk : k.length ≤ 16) (hx : In64 x) (hy : In64 y) (u : Value) (hu : u = .string (bt (if d then [] else Lib.itoa x))) (t : Int) (ht : t = if d then 2 else 1) :
    Sps (w.alloc (.cells #[.int .i64 1, .string (bt k), .string (bt [102, 105, 114, 115, 116]), .int .i64 0, .int .i64 t, .string (bt k), u, .int .i64 0, .int .i64 3, .string (bt k), .string (bt []), .int .i64 y, .int .i64 4, .string (bt k), .string (bt []), .int .i64 0] 36)).heap.size
     (w.alloc (.cells #[.int .i64 1, .string (bt k), .string (bt [102, 105, 114, 115, 116]), .int .i64 0, .int .i64 t, .string (bt k), u, .int .i64 0, .int .i64 3, .string (bt k), .string (bt []), .int .i64 y, .int .i64 4, .string (bt k), .string (bt []), .int .i64 0] 36)) (.slice (some ⟨w.heap.size, 0, none⟩) 4 4) (lasS k x y d) := by
  have hl := itoa_len hx
  refine .inr ⟨w.heap.size, 0, 4, by simp [lasS], by simp, by simp [lasS], by unfold maxLen; omega, fun j s hj => ?_⟩
  have z : In64 0 := by constructor <;> decide
  have i1 : In64 1 := by constructor <;> decide
  have i2 : In64 2 := by constructor <;> decide
  have i3 : In64 3 := by constructor <;> decide
  have i4 : In64 4 := by constructor <;> decide
  subst hu ht
  match j, hj with
  | 0, hj =>
    simp [lasS] at hj
    subst hj
    exact ⟨⟨i1, by simp [maxLen]; omega, by simp [maxLen], z⟩, cell_new w _ 36 (i := 0) rfl, cell_new w _ 36 (i := 1) rfl, cell_new w _ 36 (i := 2) rfl, cell_new w _ 36 (i := 3) rfl⟩
  | 1, hj =>
    cases d
    · simp [lasS] at hj
      subst hj
      exact ⟨⟨i1, by simp [maxLen]; omega, by simp [maxLen]; omega, z⟩, cell_new w _ 36 (i := 4) rfl, cell_new w _ 36 (i := 5) rfl, cell_new w _ 36 (i := 6) rfl, cell_new w _ 36 (i := 7) rfl⟩
    · simp [lasS] at hj
      subst hj
      exact ⟨⟨i2, by simp [maxLen]; omega, by simp [maxLen], z⟩, cell_new w _ 36 (i := 4) rfl, cell_new w _ 36 (i := 5) rfl, cell_new w _ 36 (i := 6) rfl, cell_new w _ 36 (i := 7) rfl⟩
  | 2, hj =>
    simp [lasS] at hj
    subst hj
    exact ⟨⟨i3, by simp [maxLen]; omega, by simp [maxLen], hy⟩, cell_new w _ 36 (i := 8) rfl, cell_new w _ 36 (i := 9) rfl, cell_new w _ 36 (i := 10) rfl, cell_new w _ 36 (i := 11) rfl⟩
  | 3, hj =>
    simp [lasS] at hj
    subst hj
    exact ⟨⟨i4, by simp [maxLen]; omega, by simp [maxLen], z⟩, cell_new w _ 36 (i := 12) rfl, cell_new w _ 36 (i := 13) rfl, cell_new w _ 36 (i := 14) rfl, cell_new w _ 36 (i := 15) rfl⟩
  | j + 4, hj => simp [lasS] at hj
set_option maxRecDepth 100000 in
set_option maxHeartbeats 4000000 in
theorem last_bad (k : K) (x y : Int) (d : Bool) (W : World) (hD : Dr W) (hx : In64 x) (hy : In64 y) (hk : ¬ (1 ≤ k.length ∧ k.length ≤ 16)) :
    Calls Tryd.prog 6 #[.string (bt k), .agg #[.int .i64 x, .int .i64 y], .bool d] W fun e W' => e = .returned (.bool true) ∧ Below W.heap.size W W' := by
  have hsz := bt_size k
  replace hD : Hid _ := ⟨hD⟩
  have hga := World.grownBy_alloc W (.cells #[.int .i64 x, .int .i64 y] 42) none
  have hnew := new_any (W.alloc (.cells #[.int .i64 x, .int .i64 y] 42))
  replace hnew : Hid _ := ⟨hnew⟩
  by_cases h0 : k.length < 1
  · have q1 : decide ((k.length : Int) < 1) = true := by simp; omega
    go_enter Tryd.func6, Tryd.ntmps6
    go_wp2_with fail
    refine hnew.out.mono ?_
    rintro e w1 ⟨tb, rfl, hT, hg⟩
    have hg1 : Hid _ := ⟨below_of' (grown_none hga hg)⟩
    clear hnew hT hg hga
    go_wp2
    go_ret
    exact ⟨rfl, hg1.out⟩
  · have q1 : decide ((k.length : Int) < 1) = false := by simp; omega
    have q2 : decide ((k.length : Int) > 16) = true := by simp; omega
    have q3 : decide (16 < (k.length : Int)) = true := by simp; omega
    go_enter Tryd.func6, Tryd.ntmps6
    go_wp2_with fail
    refine hnew.out.mono ?_
    rintro e w1 ⟨tb, rfl, hT, hg⟩
    have hg1 : Hid _ := ⟨below_of' (grown_none hga hg)⟩
    clear hnew hT hg hga
    go_wp2
    go_ret
    exact ⟨rfl, hg1.out⟩
set_option maxRecDepth 100000 in
set_option maxHeartbeats 4000000 in
/-- case c1 -/
theorem last_c1 (k : K) (x y : Int) (W : World) (hD : Dr W) (hx : In64 x) (hy : In64 y) (hk : 1 ≤ k.length ∧ k.length ≤ 16) (hin : In64 (x + y)) :
    Calls Tryd.prog 6 #[.string (bt k), .agg #[.int .i64 x, .int .i64 y], .bool false] W fun e W' => e = .returned (.bool true) ∧ Below W.heap.size W W' := by
  have hsz := bt_size k
  have htl := bt_toList
  have hdo := las_do (k := k) (y := y) (d := false) hx
  have hwr := las_wr (k := k) (y := y) (d := false) hk hx
  have hll := las_all k x y false
  rw [show lasM x false = x from rfl, sumE_in hin, if_pos rfl] at hdo
  rw [show lasM x false = x from rfl] at hll
  obtain ⟨s, hs⟩ : ∃ s, Hid (sumK (some (x)) y = s) := ⟨_, ⟨rfl⟩⟩
  rw [hs.out] at hll
  have hgt : Hid (gt [(⟨k, bt s⟩ : E)] k = some (bt s)) := ⟨las_gt k _⟩
  obtain ⟨u, hu⟩ : ∃ u, Hid (Lib.itoa x = u) := ⟨_, ⟨rfl⟩⟩
  obtain ⟨mt, hmt⟩ : ∃ u, Hid (Lib.itoa (x) = u) := ⟨_, ⟨rfl⟩⟩
  have hno : Hid (numOf mt = some (x)) := ⟨by rw [← hmt.out]; exact numOf_itoa (by first | exact hx | (constructor <;> decide))⟩
  have hml : mt.length ≤ 21 := by rw [← hmt.out]; exact itoa_len (by first | exact hx | (constructor <;> decide))
  have htx := fun w => text_any w x hx
  have htm := fun w => text_any w (x) (by first | exact hx | (constructor <;> decide))
  rw [hu.out] at htx
  rw [hmt.out] at htm
  have hE : Hid (sumE (some (x)) y = 0) := ⟨sumE_in hin⟩
  have q1 : decide ((k.length : Int) < 1) = false := by simp; omega
  have q2 : decide ((k.length : Int) > 16) = false := by simp; omega
  have q3 : decide (16 < (k.length : Int)) = false := by simp; omega
  replace hD : Hid _ := ⟨hD⟩
  replace hdo : Hid _ := ⟨hdo⟩
  replace hwr : Hid _ := ⟨hwr⟩
  replace hll : Hid _ := ⟨hll⟩
  replace hin : Hid _ := ⟨hin⟩
  have hga := World.grownBy_alloc W (.cells #[.int .i64 x, .int .i64 y] 42) none
  have b0 : (W.alloc (.cells #[.int .i64 x, .int .i64 y] 42)).cell? ⟨W.heap.size, 0, none⟩ = some (.int .i64 x) := cell_new W _ 42 (i := 0) rfl
  have b1 : (W.alloc (.cells #[.int .i64 x, .int .i64 y] 42)).cell? ⟨W.heap.size, 1, none⟩ = some (.int .i64 y) := cell_new W _ 42 (i := 1) rfl
  have hnew := new_any (W.alloc (.cells #[.int .i64 x, .int .i64 y] 42))
  replace hnew : Hid _ := ⟨hnew⟩
  replace htx : Hid _ := ⟨htx⟩
  replace htm : Hid _ := ⟨htm⟩
  go_enter Tryd.func6, Tryd.ntmps6
  go_wp2_with fail
  refine hnew.out.mono ?_
  rintro e w1 ⟨tb, rfl, hT, hg⟩
  have b0 := grown_cell hg b0
  have b1 := grown_cell hg b1
  have hg1 := grown_none hga hg
  have hs1 := hg.size
  simp at hs1
  replace hT : Hid _ := ⟨hT⟩
  replace hg1 : Hid _ := ⟨hg1⟩
  clear hnew hg hga
  have ga := World.grownBy_alloc w1 (.cells #[.int .i64 1, .string (bt k), .string ⟨#[102, 105, 114, 115, 116]⟩, .int .i64 0] 36) none
  have b0a := grown_cell ga b0
  have b1a := grown_cell ga b1
  go_wp2_with fail
  refine (htx.out _).mono ?_
  rintro e w2 ⟨rfl, rfl⟩
  have gb := World.grownBy_alloc (w1.alloc (.cells #[.int .i64 1, .string (bt k), .string ⟨#[102, 105, 114, 115, 116]⟩, .int .i64 0] 36)) (.cells #[.int .i64 1, .string (bt k), .string (bt u), .int .i64 0] 36) none
  have b1b := grown_cell gb b1a
  go_wp2_with fail
  have hgd : w1.grownBy ((((w1.alloc (.cells #[.int .i64 1, .string (bt k), .string ⟨#[102, 105, 114, 115, 116]⟩, .int .i64 0] 36)).alloc (.cells #[.int .i64 1, .string (bt k), .string (bt u), .int .i64 0] 36)).alloc (.cells #[.int .i64 3, .string (bt k), .string ⟨#[]⟩, .int .i64 y] 36)).alloc (.cells #[.int .i64 1, .string (bt k), .string ⟨#[102, 105, 114, 115, 116]⟩, .int .i64 0, .int .i64 1, .string (bt k), .string (bt u), .int .i64 0, .int .i64 3, .string (bt k), .string ⟨#[]⟩, .int .i64 y, .int .i64 4, .string (bt k), .string ⟨#[]⟩, .int .i64 0] 36)) none := grown_none (grown_none (grown_none (World.grownBy_alloc _ _ none) (World.grownBy_alloc _ _ none)) (World.grownBy_alloc _ _ none)) (World.grownBy_alloc _ _ none)
  have hsp : Sps ((((w1.alloc (.cells #[.int .i64 1, .string (bt k), .string ⟨#[102, 105, 114, 115, 116]⟩, .int .i64 0] 36)).alloc (.cells #[.int .i64 1, .string (bt k), .string (bt u), .int .i64 0] 36)).alloc (.cells #[.int .i64 3, .string (bt k), .string ⟨#[]⟩, .int .i64 y] 36)).alloc (.cells #[.int .i64 1, .string (bt k), .string ⟨#[102, 105, 114, 115, 116]⟩, .int .i64 0, .int .i64 1, .string (bt k), .string (bt u), .int .i64 0, .int .i64 3, .string (bt k), .string ⟨#[]⟩, .int .i64 y, .int .i64 4, .string (bt k), .string ⟨#[]⟩, .int .i64 0] 36)).heap.size ((((w1.alloc (.cells #[.int .i64 1, .string (bt k), .string ⟨#[102, 105, 114, 115, 116]⟩, .int .i64 0] 36)).alloc (.cells #[.int .i64 1, .string (bt k), .string (bt u), .int .i64 0] 36)).alloc (.cells #[.int .i64 3, .string (bt k), .string ⟨#[]⟩, .int .i64 y] 36)).alloc (.cells #[.int .i64 1, .string (bt k), .string ⟨#[102, 105, 114, 115, 116]⟩, .int .i64 0, .int .i64 1, .string (bt k), .string (bt u), .int .i64 0, .int .i64 3, .string (bt k), .string ⟨#[]⟩, .int .i64 y, .int .i64 4, .string (bt k), .string ⟨#[]⟩, .int .i64 0] 36)) (.slice (some ⟨w1.heap.size + 1 + 1 + 1, 0, none⟩) (lasS k x y false).length 4) (lasS k x y false) := by
    have h := las_sps (((w1.alloc (.cells #[.int .i64 1, .string (bt k), .string ⟨#[102, 105, 114, 115, 116]⟩, .int .i64 0] 36)).alloc (.cells #[.int .i64 1, .string (bt k), .string (bt u), .int .i64 0] 36)).alloc (.cells #[.int .i64 3, .string (bt k), .string ⟨#[]⟩, .int .i64 y] 36)) k x y false hk.2 hx hy (.string (bt u)) (by rw [hu.out]; rfl) 1 rfl
    have e : (((w1.alloc (.cells #[.int .i64 1, .string (bt k), .string ⟨#[102, 105, 114, 115, 116]⟩, .int .i64 0] 36)).alloc (.cells #[.int .i64 1, .string (bt k), .string (bt u), .int .i64 0] 36)).alloc (.cells #[.int .i64 3, .string (bt k), .string ⟨#[]⟩, .int .i64 y] 36)).heap.size = w1.heap.size + 1 + 1 + 1 := by simp
    rw [e] at h
    exact h
  have hgW := grown_none hg1.out hgd
  have hS : ∀ j, ((W.alloc (.cells #[.int .i64 x, .int .i64 y] 42)).heap.size ≤ j ∧ j < w1.heap.size) → j < ((((w1.alloc (.cells #[.int .i64 1, .string (bt k), .string ⟨#[102, 105, 114, 115, 116]⟩, .int .i64 0] 36)).alloc (.cells #[.int .i64 1, .string (bt k), .string (bt u), .int .i64 0] 36)).alloc (.cells #[.int .i64 3, .string (bt k), .string ⟨#[]⟩, .int .i64 y] 36)).alloc (.cells #[.int .i64 1, .string (bt k), .string ⟨#[102, 105, 114, 115, 116]⟩, .int .i64 0, .int .i64 1, .string (bt k), .string (bt u), .int .i64 0, .int .i64 3, .string (bt k), .string ⟨#[]⟩, .int .i64 y, .int .i64 4, .string (bt k), .string ⟨#[]⟩, .int .i64 0] 36)).heap.size := fun j hj => Nat.lt_of_lt_of_le hj.2 hgd.size
  have hdoc := do_any ((((w1.alloc (.cells #[.int .i64 1, .string (bt k), .string ⟨#[102, 105, 114, 115, 116]⟩, .int .i64 0] 36)).alloc (.cells #[.int .i64 1, .string (bt k), .string (bt u), .int .i64 0] 36)).alloc (.cells #[.int .i64 3, .string (bt k), .string ⟨#[]⟩, .int .i64 y] 36)).alloc (.cells #[.int .i64 1, .string (bt k), .string ⟨#[102, 105, 114, 115, 116]⟩, .int .i64 0, .int .i64 1, .string (bt k), .string (bt u), .int .i64 0, .int .i64 3, .string (bt k), .string ⟨#[]⟩, .int .i64 y, .int .i64 4, .string (bt k), .string ⟨#[]⟩, .int .i64 0] 36)) (hT.out.kept fun j _ hl => hgd.block j hl (by simp)) hS (hD.out.keep hgW) hsp (by simp) (by simp)
  have b0d := grown_cell hgd b0
  have b1d := grown_cell hgd b1
  have hbx : Hid (∀ w9, Kp (fun j => (W.alloc (.cells #[.int .i64 x, .int .i64 y] 42)).heap.size ≤ j ∧ j < w1.heap.size) ((((w1.alloc (.cells #[.int .i64 1, .string (bt k), .string ⟨#[102, 105, 114, 115, 116]⟩, .int .i64 0] 36)).alloc (.cells #[.int .i64 1, .string (bt k), .string (bt u), .int .i64 0] 36)).alloc (.cells #[.int .i64 3, .string (bt k), .string ⟨#[]⟩, .int .i64 y] 36)).alloc (.cells #[.int .i64 1, .string (bt k), .string ⟨#[102, 105, 114, 115, 116]⟩, .int .i64 0, .int .i64 1, .string (bt k), .string (bt u), .int .i64 0, .int .i64 3, .string (bt k), .string ⟨#[]⟩, .int .i64 y, .int .i64 4, .string (bt k), .string ⟨#[]⟩, .int .i64 0] 36)) w9 → w9.cell? ⟨W.heap.size, 0, none⟩ = some (.int .i64 x) ∧ w9.cell? ⟨W.heap.size, 1, none⟩ = some (.int .i64 y) ∧ W.grownBy w9 none) := ⟨fun w9 hk9 => by
    have hlt : W.heap.size < ((((w1.alloc (.cells #[.int .i64 1, .string (bt k), .string ⟨#[102, 105, 114, 115, 116]⟩, .int .i64 0] 36)).alloc (.cells #[.int .i64 1, .string (bt k), .string (bt u), .int .i64 0] 36)).alloc (.cells #[.int .i64 3, .string (bt k), .string ⟨#[]⟩, .int .i64 y] 36)).alloc (.cells #[.int .i64 1, .string (bt k), .string ⟨#[102, 105, 114, 115, 116]⟩, .int .i64 0, .int .i64 1, .string (bt k), .string (bt u), .int .i64 0, .int .i64 3, .string (bt k), .string ⟨#[]⟩, .int .i64 y, .int .i64 4, .string (bt k), .string ⟨#[]⟩, .int .i64 0] 36)).heap.size := by have := hgd.size; omega
    have hb := hk9.block W.heap.size hlt (by simp; omega)
    refine ⟨(World.cell?_of_block hb).trans b0d, (World.cell?_of_block hb).trans b1d, hk9.os.trans hgW.os, hk9.tape.trans hgW.tape, hk9.output.trans hgW.output, Nat.le_trans hgW.size hk9.size, fun j hj _ => ?_⟩
    exact (hk9.block j (Nat.lt_of_lt_of_le hj hgW.size) (by simp; omega)).trans (hgW.block j hj (by simp))⟩
  replace hdoc : Hid _ := ⟨hdoc⟩
  have hgdH : Hid _ := ⟨hgd⟩
  clear b0 b1 b0a b1a b1b b0d b1d ga gb hsp hgd hgW hS
  refine hdoc.out.mono ?_
  rintro e w9 ⟨_, hno2, hyes⟩
  obtain ⟨cv, rfl, hrow, hcod⟩ := hyes hwr.out (by rw [hdo.out])
  rw [hdo.out] at hrow hcod
  simp only at hrow hcod
  rw [hll.out] at hcod
  obtain ⟨g, c, rfl, hcv⟩ := one_key hrow
  obtain ⟨⟨S', hT9, _⟩, hk9, _⟩ := hcod
  obtain ⟨b0, b1, hg9⟩ := hbx.out w9 hk9
  clear hno2 hyes hrow hk9 hbx hdoc
  replace hT9 : Hid _ := ⟨hT9⟩
  replace hg9 : Hid _ := ⟨hg9⟩
  haveI := lat_nonempty w9
  have m0 := lat_cell b0
  have m1 := lat_cell b1
  have t1 : ∀ p : Lat w9, Calls Tryd.prog 18 #[.int .i64 (x)] p.W fun e w'' => e = .returned (.string (bt mt)) ∧ ∃ p' : Lat w9, w'' = p'.W := fun p => (htm.out p.W).mono fun e w'' ⟨h1, h2⟩ => ⟨h1, p, h2⟩
  have t2 : ∀ p : Lat w9, Calls Tryd.prog 14 #[.string (bt mt), .int .i64 y] p.W fun e w'' => e = .returned (.tuple #[.string (bt s), .int .i64 0]) ∧ ∃ p' : Lat w9, w'' = p'.W := fun p => (sum_e (hD.out.keep (grown_none hg9.out p.h)) mt (by omega) y hy hno.out hs.out hE.out).mono fun e w'' ⟨h1, h2⟩ => ⟨h1, ⟨w'', grown_none p.h h2⟩, rfl⟩
  clear htx htm hdo hwr hll
  go_wp2_with fail
  clear b0 b1
  refine wp_region_lat (by kernel_rfl) (by kernel_rfl) ?_
  repeat (go_big_quiet_step (fail))
  go_big_quiet_step ((go_at_call 18; exact t1 _))
  repeat (go_big_quiet_step (fail))
  go_big_quiet_step ((go_at_call 14; exact t2 _))
  repeat (go_big_quiet_step (fail))
  refine wpQuiet_nil ?_
  intro _ hw'
  obtain ⟨q, hw''⟩ := hw'
  subst hw''
  have hgq := grown_none hg9.out q.h
  have hTq := hT9.out.kept (w' := q.W) fun j _ hl => q.h.block j hl (by simp)
  have hget := get_any q.W hTq k (by omega) hgt
  replace hget : Hid _ := ⟨hget⟩
  replace hTq : Hid _ := ⟨hTq⟩
  replace hgq : Hid _ := ⟨hgq⟩
  have hcv := grown_cell q.h hcv
  clear t1 t2 m0 m1 hT9 hg9
  go_wp2_with fail
  refine hget.out.mono ?_
  rintro e w11 ⟨rfl, hg11⟩
  simp only [vOf, Option.isSome]
  have hgr := grown_none hgq.out hg11
  have hcv := grown_cell hg11 hcv
  have hal := alive_any (hD.out.keep hgr)
  replace hal : Hid _ := ⟨hal⟩
  have hT11 := hTq.out.kept (w' := w11) fun j _ hl => hg11.block j hl (by simp)
  replace hT11 : Hid _ := ⟨hT11⟩
  replace hgr : Hid _ := ⟨hgr⟩
  clear hget hgq hg11 hTq
  go_wp2_with fail
  refine hal.out.mono ?_
  rintro e w12 ⟨rfl, hg12⟩
  have hcv := grown_cell hg12 hcv
  have hln := len_any w12 (hT11.out.kept fun j _ hl => hg12.block j hl (by simp))
  replace hln : Hid _ := ⟨hln⟩
  have hfin : Hid _ := ⟨below_of' (grown_none hgr.out hg12)⟩
  clear hal hT11 hgr hg12
  go_wp2_with fail
  refine hln.out.mono ?_
  rintro e w13 ⟨rfl, rfl⟩
  clear hln
  go_wp2
  go_ret
  exact ⟨rfl, hfin.out⟩
set_option maxRecDepth 100000 in
set_option maxHeartbeats 4000000 in
set_option maxRecDepth 100000 in
set_option maxHeartbeats 4000000 in
/-- case c2 -/
theorem last_c2 (k : K) (x y : Int) (W : World) (hD : Dr W) (hx : In64 x) (hy : In64 y) (hk : 1 ≤ k.length ∧ k.length ≤ 16) (hin : ¬ In64 (x + y)) :
    Calls Tryd.prog 6 #[.string (bt k), .agg #[.int .i64 x, .int .i64 y], .bool false] W fun e W' => e = .returned (.bool true) ∧ Below W.heap.size W W' := by
  have hsz := bt_size k
  have htl := bt_toList
  have hdo := las_do (k := k) (y := y) (d := false) hx
  have hwr := las_wr (k := k) (y := y) (d := false) hk hx
  have hll := las_all k x y false
  rw [show lasM x false = x from rfl, sumE_out hin, if_neg (by decide)] at hdo
  have hgt : Hid (gt ([] : List E) k = none) := ⟨rfl⟩
  have hs : Hid (sumK (some (x)) y = []) := ⟨by simp only [sumK]; rw [if_neg hin]⟩
  obtain ⟨u, hu⟩ : ∃ u, Hid (Lib.itoa x = u) := ⟨_, ⟨rfl⟩⟩
  obtain ⟨mt, hmt⟩ : ∃ u, Hid (Lib.itoa (x) = u) := ⟨_, ⟨rfl⟩⟩
  have hno : Hid (numOf mt = some (x)) := ⟨by rw [← hmt.out]; exact numOf_itoa (by first | exact hx | (constructor <;> decide))⟩
  have hml : mt.length ≤ 21 := by rw [← hmt.out]; exact itoa_len (by first | exact hx | (constructor <;> decide))
  have htx := fun w => text_any w x hx
  have htm := fun w => text_any w (x) (by first | exact hx | (constructor <;> decide))
  rw [hu.out] at htx
  rw [hmt.out] at htm
  have hE : Hid (sumE (some (x)) y = 93) := ⟨sumE_out hin⟩
  have q1 : decide ((k.length : Int) < 1) = false := by simp; omega
  have q2 : decide ((k.length : Int) > 16) = false := by simp; omega
  have q3 : decide (16 < (k.length : Int)) = false := by simp; omega
  replace hD : Hid _ := ⟨hD⟩
  replace hdo : Hid _ := ⟨hdo⟩
  replace hwr : Hid _ := ⟨hwr⟩
  replace hll : Hid _ := ⟨hll⟩
  replace hin : Hid _ := ⟨hin⟩
  have hga := World.grownBy_alloc W (.cells #[.int .i64 x, .int .i64 y] 42) none
  have b0 : (W.alloc (.cells #[.int .i64 x, .int .i64 y] 42)).cell? ⟨W.heap.size, 0, none⟩ = some (.int .i64 x) := cell_new W _ 42 (i := 0) rfl
  have b1 : (W.alloc (.cells #[.int .i64 x, .int .i64 y] 42)).cell? ⟨W.heap.size, 1, none⟩ = some (.int .i64 y) := cell_new W _ 42 (i := 1) rfl
  have hnew := new_any (W.alloc (.cells #[.int .i64 x, .int .i64 y] 42))
  replace hnew : Hid _ := ⟨hnew⟩
  replace htx : Hid _ := ⟨htx⟩
  replace htm : Hid _ := ⟨htm⟩
  go_enter Tryd.func6, Tryd.ntmps6
  go_wp2_with fail
  refine hnew.out.mono ?_
  rintro e w1 ⟨tb, rfl, hT, hg⟩
  have b0 := grown_cell hg b0
  have b1 := grown_cell hg b1
  have hg1 := grown_none hga hg
  have hs1 := hg.size
  simp at hs1
  replace hT : Hid _ := ⟨hT⟩
  replace hg1 : Hid _ := ⟨hg1⟩
  clear hnew hg hga
  have ga := World.grownBy_alloc w1 (.cells #[.int .i64 1, .string (bt k), .string ⟨#[102, 105, 114, 115, 116]⟩, .int .i64 0] 36) none
  have b0a := grown_cell ga b0
  have b1a := grown_cell ga b1
  go_wp2_with fail
  refine (htx.out _).mono ?_
  rintro e w2 ⟨rfl, rfl⟩
  have gb := World.grownBy_alloc (w1.alloc (.cells #[.int .i64 1, .string (bt k), .string ⟨#[102, 105, 114, 115, 116]⟩, .int .i64 0] 36)) (.cells #[.int .i64 1, .string (bt k), .string (bt u), .int .i64 0] 36) none
  have b1b := grown_cell gb b1a
  go_wp2_with fail
  have hgd : w1.grownBy ((((w1.alloc (.cells #[.int .i64 1, .string (bt k), .string ⟨#[102, 105, 114, 115, 116]⟩, .int .i64 0] 36)).alloc (.cells #[.int .i64 1, .string (bt k), .string (bt u), .int .i64 0] 36)).alloc (.cells #[.int .i64 3, .string (bt k), .string ⟨#[]⟩, .int .i64 y] 36)).alloc (.cells #[.int .i64 1, .string (bt k), .string ⟨#[102, 105, 114, 115, 116]⟩, .int .i64 0, .int .i64 1, .string (bt k), .string (bt u), .int .i64 0, .int .i64 3, .string (bt k), .string ⟨#[]⟩, .int .i64 y, .int .i64 4, .string (bt k), .string ⟨#[]⟩, .int .i64 0] 36)) none := grown_none (grown_none (grown_none (World.grownBy_alloc _ _ none) (World.grownBy_alloc _ _ none)) (World.grownBy_alloc _ _ none)) (World.grownBy_alloc _ _ none)
  have hsp : Sps ((((w1.alloc (.cells #[.int .i64 1, .string (bt k), .string ⟨#[102, 105, 114, 115, 116]⟩, .int .i64 0] 36)).alloc (.cells #[.int .i64 1, .string (bt k), .string (bt u), .int .i64 0] 36)).alloc (.cells #[.int .i64 3, .string (bt k), .string ⟨#[]⟩, .int .i64 y] 36)).alloc (.cells #[.int .i64 1, .string (bt k), .string ⟨#[102, 105, 114, 115, 116]⟩, .int .i64 0, .int .i64 1, .string (bt k), .string (bt u), .int .i64 0, .int .i64 3, .string (bt k), .string ⟨#[]⟩, .int .i64 y, .int .i64 4, .string (bt k), .string ⟨#[]⟩, .int .i64 0] 36)).heap.size ((((w1.alloc (.cells #[.int .i64 1, .string (bt k), .string ⟨#[102, 105, 114, 115, 116]⟩, .int .i64 0] 36)).alloc (.cells #[.int .i64 1, .string (bt k), .string (bt u), .int .i64 0] 36)).alloc (.cells #[.int .i64 3, .string (bt k), .string ⟨#[]⟩, .int .i64 y] 36)).alloc (.cells #[.int .i64 1, .string (bt k), .string ⟨#[102, 105, 114, 115, 116]⟩, .int .i64 0, .int .i64 1, .string (bt k), .string (bt u), .int .i64 0, .int .i64 3, .string (bt k), .string ⟨#[]⟩, .int .i64 y, .int .i64 4, .string (bt k), .string ⟨#[]⟩, .int .i64 0] 36)) (.slice (some ⟨w1.heap.size + 1 + 1 + 1, 0, none⟩) (lasS k x y false).length 4) (lasS k x y false) := by
    have h := las_sps (((w1.alloc (.cells #[.int .i64 1, .string (bt k), .string ⟨#[102, 105, 114, 115, 116]⟩, .int .i64 0] 36)).alloc (.cells #[.int .i64 1, .string (bt k), .string (bt u), .int .i64 0] 36)).alloc (.cells #[.int .i64 3, .string (bt k), .string ⟨#[]⟩, .int .i64 y] 36)) k x y false hk.2 hx hy (.string (bt u)) (by rw [hu.out]; rfl) 1 rfl
    have e : (((w1.alloc (.cells #[.int .i64 1, .string (bt k), .string ⟨#[102, 105, 114, 115, 116]⟩, .int .i64 0] 36)).alloc (.cells #[.int .i64 1, .string (bt k), .string (bt u), .int .i64 0] 36)).alloc (.cells #[.int .i64 3, .string (bt k), .string ⟨#[]⟩, .int .i64 y] 36)).heap.size = w1.heap.size + 1 + 1 + 1 := by simp
    rw [e] at h
    exact h
  have hgW := grown_none hg1.out hgd
  have hS : ∀ j, ((W.alloc (.cells #[.int .i64 x, .int .i64 y] 42)).heap.size ≤ j ∧ j < w1.heap.size) → j < ((((w1.alloc (.cells #[.int .i64 1, .string (bt k), .string ⟨#[102, 105, 114, 115, 116]⟩, .int .i64 0] 36)).alloc (.cells #[.int .i64 1, .string (bt k), .string (bt u), .int .i64 0] 36)).alloc (.cells #[.int .i64 3, .string (bt k), .string ⟨#[]⟩, .int .i64 y] 36)).alloc (.cells #[.int .i64 1, .string (bt k), .string ⟨#[102, 105, 114, 115, 116]⟩, .int .i64 0, .int .i64 1, .string (bt k), .string (bt u), .int .i64 0, .int .i64 3, .string (bt k), .string ⟨#[]⟩, .int .i64 y, .int .i64 4, .string (bt k), .string ⟨#[]⟩, .int .i64 0] 36)).heap.size := fun j hj => Nat.lt_of_lt_of_le hj.2 hgd.size
  have hdoc := do_any ((((w1.alloc (.cells #[.int .i64 1, .string (bt k), .string ⟨#[102, 105, 114, 115, 116]⟩, .int .i64 0] 36)).alloc (.cells #[.int .i64 1, .string (bt k), .string (bt u), .int .i64 0] 36)).alloc (.cells #[.int .i64 3, .string (bt k), .string ⟨#[]⟩, .int .i64 y] 36)).alloc (.cells #[.int .i64 1, .string (bt k), .string ⟨#[102, 105, 114, 115, 116]⟩, .int .i64 0, .int .i64 1, .string (bt k), .string (bt u), .int .i64 0, .int .i64 3, .string (bt k), .string ⟨#[]⟩, .int .i64 y, .int .i64 4, .string (bt k), .string ⟨#[]⟩, .int .i64 0] 36)) (hT.out.kept fun j _ hl => hgd.block j hl (by simp)) hS (hD.out.keep hgW) hsp (by simp) (by simp)
  have b0d := grown_cell hgd b0
  have b1d := grown_cell hgd b1
  have hbx : Hid (∀ w9, Kp (fun j => (W.alloc (.cells #[.int .i64 x, .int .i64 y] 42)).heap.size ≤ j ∧ j < w1.heap.size) ((((w1.alloc (.cells #[.int .i64 1, .string (bt k), .string ⟨#[102, 105, 114, 115, 116]⟩, .int .i64 0] 36)).alloc (.cells #[.int .i64 1, .string (bt k), .string (bt u), .int .i64 0] 36)).alloc (.cells #[.int .i64 3, .string (bt k), .string ⟨#[]⟩, .int .i64 y] 36)).alloc (.cells #[.int .i64 1, .string (bt k), .string ⟨#[102, 105, 114, 115, 116]⟩, .int .i64 0, .int .i64 1, .string (bt k), .string (bt u), .int .i64 0, .int .i64 3, .string (bt k), .string ⟨#[]⟩, .int .i64 y, .int .i64 4, .string (bt k), .string ⟨#[]⟩, .int .i64 0] 36)) w9 → w9.cell? ⟨W.heap.size, 0, none⟩ = some (.int .i64 x) ∧ w9.cell? ⟨W.heap.size, 1, none⟩ = some (.int .i64 y) ∧ W.grownBy w9 none) := ⟨fun w9 hk9 => by
    have hlt : W.heap.size < ((((w1.alloc (.cells #[.int .i64 1, .string (bt k), .string ⟨#[102, 105, 114, 115, 116]⟩, .int .i64 0] 36)).alloc (.cells #[.int .i64 1, .string (bt k), .string (bt u), .int .i64 0] 36)).alloc (.cells #[.int .i64 3, .string (bt k), .string ⟨#[]⟩, .int .i64 y] 36)).alloc (.cells #[.int .i64 1, .string (bt k), .string ⟨#[102, 105, 114, 115, 116]⟩, .int .i64 0, .int .i64 1, .string (bt k), .string (bt u), .int .i64 0, .int .i64 3, .string (bt k), .string ⟨#[]⟩, .int .i64 y, .int .i64 4, .string (bt k), .string ⟨#[]⟩, .int .i64 0] 36)).heap.size := by have := hgd.size; omega
    have hb := hk9.block W.heap.size hlt (by simp; omega)
    refine ⟨(World.cell?_of_block hb).trans b0d, (World.cell?_of_block hb).trans b1d, hk9.os.trans hgW.os, hk9.tape.trans hgW.tape, hk9.output.trans hgW.output, Nat.le_trans hgW.size hk9.size, fun j hj _ => ?_⟩
    exact (hk9.block j (Nat.lt_of_lt_of_le hj hgW.size) (by simp; omega)).trans (hgW.block j hj (by simp))⟩
  replace hdoc : Hid _ := ⟨hdoc⟩
  have hgdH : Hid _ := ⟨hgd⟩
  clear b0 b1 b0a b1a b1b b0d b1d ga gb hsp hgd hgW hS
  refine hdoc.out.mono ?_
  rintro e w9 ⟨_, hno2, hyes⟩
  obtain ⟨rfl, hg9'⟩ := hno2 hwr.out (by rw [hdo.out]; decide)
  rw [hdo.out]
  simp only
  have hT9 := hT.out.kept (w' := w9) fun j _ hl => (grown_none hgdH.out hg9').block j hl (by simp)
  obtain ⟨b0, b1, hg9⟩ := hbx.out w9 (Kp.of0 hg9')
  clear hno2 hyes hbx hdoc
  replace hT9 : Hid _ := ⟨hT9⟩
  replace hg9 : Hid _ := ⟨hg9⟩
  haveI := lat_nonempty w9
  have m0 := lat_cell b0
  have m1 := lat_cell b1
  have t1 : ∀ p : Lat w9, Calls Tryd.prog 18 #[.int .i64 (x)] p.W fun e w'' => e = .returned (.string (bt mt)) ∧ ∃ p' : Lat w9, w'' = p'.W := fun p => (htm.out p.W).mono fun e w'' ⟨h1, h2⟩ => ⟨h1, p, h2⟩
  have t2 : ∀ p : Lat w9, Calls Tryd.prog 14 #[.string (bt mt), .int .i64 y] p.W fun e w'' => e = .returned (.tuple #[.string (bt []), .int .i64 93]) ∧ ∃ p' : Lat w9, w'' = p'.W := fun p => (sum_e (hD.out.keep (grown_none hg9.out p.h)) mt (by omega) y hy hno.out hs.out hE.out).mono fun e w'' ⟨h1, h2⟩ => ⟨h1, ⟨w'', grown_none p.h h2⟩, rfl⟩
  clear htx htm hdo hwr hll
  go_wp2_with fail
  clear b0 b1
  refine wp_region_lat (by kernel_rfl) (by kernel_rfl) ?_
  repeat (go_big_quiet_step (fail))
  go_big_quiet_step ((go_at_call 18; exact t1 _))
  repeat (go_big_quiet_step (fail))
  go_big_quiet_step ((go_at_call 14; exact t2 _))
  repeat (go_big_quiet_step (fail))
  refine wpQuiet_nil ?_
  intro _ hw'
  obtain ⟨q, hw''⟩ := hw'
  subst hw''
  have hgq := grown_none hg9.out q.h
  have hTq := hT9.out.kept (w' := q.W) fun j _ hl => q.h.block j hl (by simp)
  have hget := get_any q.W hTq k (by omega) hgt
  replace hget : Hid _ := ⟨hget⟩
  replace hTq : Hid _ := ⟨hTq⟩
  replace hgq : Hid _ := ⟨hgq⟩
  
  clear t1 t2 m0 m1 hT9 hg9
  go_wp2_with fail
  refine hget.out.mono ?_
  rintro e w11 ⟨rfl, hg11⟩
  simp only [vOf, Option.isSome]
  have hgr := grown_none hgq.out hg11
  
  have hal := alive_any (hD.out.keep hgr)
  replace hal : Hid _ := ⟨hal⟩
  have hT11 := hTq.out.kept (w' := w11) fun j _ hl => hg11.block j hl (by simp)
  replace hT11 : Hid _ := ⟨hT11⟩
  replace hgr : Hid _ := ⟨hgr⟩
  clear hget hgq hg11 hTq
  go_wp2_with fail
  refine hal.out.mono ?_
  rintro e w12 ⟨rfl, hg12⟩
  have hfin : Hid _ := ⟨below_of' (grown_none hgr.out hg12)⟩
  clear hal hT11 hgr hg12
  go_wp2
  go_ret
  exact ⟨rfl, hfin.out⟩
set_option maxRecDepth 100000 in
set_option maxHeartbeats 4000000 in
set_option maxRecDepth 100000 in
set_option maxHeartbeats 4000000 in
/-- case c3 -/
theorem last_c3 (k : K) (x y : Int) (W : World) (hD : Dr W) (hx : In64 x) (hy : In64 y) (hk : 1 ≤ k.length ∧ k.length ≤ 16) (hin : In64 (0 + y)) :
    Calls Tryd.prog 6 #[.string (bt k), .agg #[.int .i64 x, .int .i64 y], .bool true] W fun e W' => e = .returned (.bool true) ∧ Below W.heap.size W W' := by
  have hsz := bt_size k
  have htl := bt_toList
  have hdo := las_do (k := k) (y := y) (d := true) hx
  have hwr := las_wr (k := k) (y := y) (d := true) hk hx
  have hll := las_all k x y true
  rw [show lasM x true = 0 from rfl, sumE_in hin, if_pos rfl] at hdo
  rw [show lasM x true = 0 from rfl] at hll
  obtain ⟨s, hs⟩ : ∃ s, Hid (sumK (some (0)) y = s) := ⟨_, ⟨rfl⟩⟩
  rw [hs.out] at hll
  have hgt : Hid (gt [(⟨k, bt s⟩ : E)] k = some (bt s)) := ⟨las_gt k _⟩
  obtain ⟨u, hu⟩ : ∃ u, Hid (Lib.itoa x = u) := ⟨_, ⟨rfl⟩⟩
  obtain ⟨mt, hmt⟩ : ∃ u, Hid (Lib.itoa (0) = u) := ⟨_, ⟨rfl⟩⟩
  have hno : Hid (numOf mt = some (0)) := ⟨by rw [← hmt.out]; exact numOf_itoa (by first | exact hx | (constructor <;> decide))⟩
  have hml : mt.length ≤ 21 := by rw [← hmt.out]; exact itoa_len (by first | exact hx | (constructor <;> decide))
  have htx := fun w => text_any w x hx
  have htm := fun w => text_any w (0) (by first | exact hx | (constructor <;> decide))
  rw [hu.out] at htx
  rw [hmt.out] at htm
  have hE : Hid (sumE (some (0)) y = 0) := ⟨sumE_in hin⟩
  have q1 : decide ((k.length : Int) < 1) = false := by simp; omega
  have q2 : decide ((k.length : Int) > 16) = false := by simp; omega
  have q3 : decide (16 < (k.length : Int)) = false := by simp; omega
  replace hD : Hid _ := ⟨hD⟩
  replace hdo : Hid _ := ⟨hdo⟩
  replace hwr : Hid _ := ⟨hwr⟩
  replace hll : Hid _ := ⟨hll⟩
  replace hin : Hid _ := ⟨hin⟩
  have hga := World.grownBy_alloc W (.cells #[.int .i64 x, .int .i64 y] 42) none
  have b0 : (W.alloc (.cells #[.int .i64 x, .int .i64 y] 42)).cell? ⟨W.heap.size, 0, none⟩ = some (.int .i64 x) := cell_new W _ 42 (i := 0) rfl
  have b1 : (W.alloc (.cells #[.int .i64 x, .int .i64 y] 42)).cell? ⟨W.heap.size, 1, none⟩ = some (.int .i64 y) := cell_new W _ 42 (i := 1) rfl
  have hnew := new_any (W.alloc (.cells #[.int .i64 x, .int .i64 y] 42))
  replace hnew : Hid _ := ⟨hnew⟩
  replace htx : Hid _ := ⟨htx⟩
  replace htm : Hid _ := ⟨htm⟩
  go_enter Tryd.func6, Tryd.ntmps6
  go_wp2_with fail
  refine hnew.out.mono ?_
  rintro e w1 ⟨tb, rfl, hT, hg⟩
  have b0 := grown_cell hg b0
  have b1 := grown_cell hg b1
  have hg1 := grown_none hga hg
  have hs1 := hg.size
  simp at hs1
  replace hT : Hid _ := ⟨hT⟩
  replace hg1 : Hid _ := ⟨hg1⟩
  clear hnew hg hga
  have ga := World.grownBy_alloc w1 (.cells #[.int .i64 1, .string (bt k), .string ⟨#[102, 105, 114, 115, 116]⟩, .int .i64 0] 36) none
  have b0a := grown_cell ga b0
  have b1a := grown_cell ga b1
  go_wp2_with fail
  refine (htx.out _).mono ?_
  rintro e w2 ⟨rfl, rfl⟩
  have gb := World.grownBy_alloc (w1.alloc (.cells #[.int .i64 1, .string (bt k), .string ⟨#[102, 105, 114, 115, 116]⟩, .int .i64 0] 36)) (.cells #[.int .i64 1, .string (bt k), .string (bt u), .int .i64 0] 36) none
  have b1b := grown_cell gb b1a
  go_wp2_with fail
  have hgd : w1.grownBy ((((w1.alloc (.cells #[.int .i64 1, .string (bt k), .string ⟨#[102, 105, 114, 115, 116]⟩, .int .i64 0] 36)).alloc (.cells #[.int .i64 2, .string (bt k), .string ⟨#[]⟩, .int .i64 0] 36)).alloc (.cells #[.int .i64 3, .string (bt k), .string ⟨#[]⟩, .int .i64 y] 36)).alloc (.cells #[.int .i64 1, .string (bt k), .string ⟨#[102, 105, 114, 115, 116]⟩, .int .i64 0, .int .i64 2, .string (bt k), .string ⟨#[]⟩, .int .i64 0, .int .i64 3, .string (bt k), .string ⟨#[]⟩, .int .i64 y, .int .i64 4, .string (bt k), .string ⟨#[]⟩, .int .i64 0] 36)) none := grown_none (grown_none (grown_none (World.grownBy_alloc _ _ none) (World.grownBy_alloc _ _ none)) (World.grownBy_alloc _ _ none)) (World.grownBy_alloc _ _ none)
  have hsp : Sps ((((w1.alloc (.cells #[.int .i64 1, .string (bt k), .string ⟨#[102, 105, 114, 115, 116]⟩, .int .i64 0] 36)).alloc (.cells #[.int .i64 2, .string (bt k), .string ⟨#[]⟩, .int .i64 0] 36)).alloc (.cells #[.int .i64 3, .string (bt k), .string ⟨#[]⟩, .int .i64 y] 36)).alloc (.cells #[.int .i64 1, .string (bt k), .string ⟨#[102, 105, 114, 115, 116]⟩, .int .i64 0, .int .i64 2, .string (bt k), .string ⟨#[]⟩, .int .i64 0, .int .i64 3, .string (bt k), .string ⟨#[]⟩, .int .i64 y, .int .i64 4, .string (bt k), .string ⟨#[]⟩, .int .i64 0] 36)).heap.size ((((w1.alloc (.cells #[.int .i64 1, .string (bt k), .string ⟨#[102, 105, 114, 115, 116]⟩, .int .i64 0] 36)).alloc (.cells #[.int .i64 2, .string (bt k), .string ⟨#[]⟩, .int .i64 0] 36)).alloc (.cells #[.int .i64 3, .string (bt k), .string ⟨#[]⟩, .int .i64 y] 36)).alloc (.cells #[.int .i64 1, .string (bt k), .string ⟨#[102, 105, 114, 115, 116]⟩, .int .i64 0, .int .i64 2, .string (bt k), .string ⟨#[]⟩, .int .i64 0, .int .i64 3, .string (bt k), .string ⟨#[]⟩, .int .i64 y, .int .i64 4, .string (bt k), .string ⟨#[]⟩, .int .i64 0] 36)) (.slice (some ⟨w1.heap.size + 1 + 1 + 1, 0, none⟩) (lasS k x y true).length 4) (lasS k x y true) := by
    have h := las_sps (((w1.alloc (.cells #[.int .i64 1, .string (bt k), .string ⟨#[102, 105, 114, 115, 116]⟩, .int .i64 0] 36)).alloc (.cells #[.int .i64 2, .string (bt k), .string ⟨#[]⟩, .int .i64 0] 36)).alloc (.cells #[.int .i64 3, .string (bt k), .string ⟨#[]⟩, .int .i64 y] 36)) k x y true hk.2 hx hy (.string (bt [])) rfl 2 rfl
    have e : (((w1.alloc (.cells #[.int .i64 1, .string (bt k), .string ⟨#[102, 105, 114, 115, 116]⟩, .int .i64 0] 36)).alloc (.cells #[.int .i64 2, .string (bt k), .string ⟨#[]⟩, .int .i64 0] 36)).alloc (.cells #[.int .i64 3, .string (bt k), .string ⟨#[]⟩, .int .i64 y] 36)).heap.size = w1.heap.size + 1 + 1 + 1 := by simp
    rw [e] at h
    exact h
  have hgW := grown_none hg1.out hgd
  have hS : ∀ j, ((W.alloc (.cells #[.int .i64 x, .int .i64 y] 42)).heap.size ≤ j ∧ j < w1.heap.size) → j < ((((w1.alloc (.cells #[.int .i64 1, .string (bt k), .string ⟨#[102, 105, 114, 115, 116]⟩, .int .i64 0] 36)).alloc (.cells #[.int .i64 2, .string (bt k), .string ⟨#[]⟩, .int .i64 0] 36)).alloc (.cells #[.int .i64 3, .string (bt k), .string ⟨#[]⟩, .int .i64 y] 36)).alloc (.cells #[.int .i64 1, .string (bt k), .string ⟨#[102, 105, 114, 115, 116]⟩, .int .i64 0, .int .i64 2, .string (bt k), .string ⟨#[]⟩, .int .i64 0, .int .i64 3, .string (bt k), .string ⟨#[]⟩, .int .i64 y, .int .i64 4, .string (bt k), .string ⟨#[]⟩, .int .i64 0] 36)).heap.size := fun j hj => Nat.lt_of_lt_of_le hj.2 hgd.size
  have hdoc := do_any ((((w1.alloc (.cells #[.int .i64 1, .string (bt k), .string ⟨#[102, 105, 114, 115, 116]⟩, .int .i64 0] 36)).alloc (.cells #[.int .i64 2, .string (bt k), .string ⟨#[]⟩, .int .i64 0] 36)).alloc (.cells #[.int .i64 3, .string (bt k), .string ⟨#[]⟩, .int .i64 y] 36)).alloc (.cells #[.int .i64 1, .string (bt k), .string ⟨#[102, 105, 114, 115, 116]⟩, .int .i64 0, .int .i64 2, .string (bt k), .string ⟨#[]⟩, .int .i64 0, .int .i64 3, .string (bt k), .string ⟨#[]⟩, .int .i64 y, .int .i64 4, .string (bt k), .string ⟨#[]⟩, .int .i64 0] 36)) (hT.out.kept fun j _ hl => hgd.block j hl (by simp)) hS (hD.out.keep hgW) hsp (by simp) (by simp)
  have b0d := grown_cell hgd b0
  have b1d := grown_cell hgd b1
  have hbx : Hid (∀ w9, Kp (fun j => (W.alloc (.cells #[.int .i64 x, .int .i64 y] 42)).heap.size ≤ j ∧ j < w1.heap.size) ((((w1.alloc (.cells #[.int .i64 1, .string (bt k), .string ⟨#[102, 105, 114, 115, 116]⟩, .int .i64 0] 36)).alloc (.cells #[.int .i64 2, .string (bt k), .string ⟨#[]⟩, .int .i64 0] 36)).alloc (.cells #[.int .i64 3, .string (bt k), .string ⟨#[]⟩, .int .i64 y] 36)).alloc (.cells #[.int .i64 1, .string (bt k), .string ⟨#[102, 105, 114, 115, 116]⟩, .int .i64 0, .int .i64 2, .string (bt k), .string ⟨#[]⟩, .int .i64 0, .int .i64 3, .string (bt k), .string ⟨#[]⟩, .int .i64 y, .int .i64 4, .string (bt k), .string ⟨#[]⟩, .int .i64 0] 36)) w9 → w9.cell? ⟨W.heap.size, 0, none⟩ = some (.int .i64 x) ∧ w9.cell? ⟨W.heap.size, 1, none⟩ = some (.int .i64 y) ∧ W.grownBy w9 none) := ⟨fun w9 hk9 => by
    have hlt : W.heap.size < ((((w1.alloc (.cells #[.int .i64 1, .string (bt k), .string ⟨#[102, 105, 114, 115, 116]⟩, .int .i64 0] 36)).alloc (.cells #[.int .i64 2, .string (bt k), .string ⟨#[]⟩, .int .i64 0] 36)).alloc (.cells #[.int .i64 3, .string (bt k), .string ⟨#[]⟩, .int .i64 y] 36)).alloc (.cells #[.int .i64 1, .string (bt k), .string ⟨#[102, 105, 114, 115, 116]⟩, .int .i64 0, .int .i64 2, .string (bt k), .string ⟨#[]⟩, .int .i64 0, .int .i64 3, .string (bt k), .string ⟨#[]⟩, .int .i64 y, .int .i64 4, .string (bt k), .string ⟨#[]⟩, .int .i64 0] 36)).heap.size := by have := hgd.size; omega
    have hb := hk9.block W.heap.size hlt (by simp; omega)
    refine ⟨(World.cell?_of_block hb).trans b0d, (World.cell?_of_block hb).trans b1d, hk9.os.trans hgW.os, hk9.tape.trans hgW.tape, hk9.output.trans hgW.output, Nat.le_trans hgW.size hk9.size, fun j hj _ => ?_⟩
    exact (hk9.block j (Nat.lt_of_lt_of_le hj hgW.size) (by simp; omega)).trans (hgW.block j hj (by simp))⟩
  replace hdoc : Hid _ := ⟨hdoc⟩
  have hgdH : Hid _ := ⟨hgd⟩
  clear b0 b1 b0a b1a b1b b0d b1d ga gb hsp hgd hgW hS
  refine hdoc.out.mono ?_
  rintro e w9 ⟨_, hno2, hyes⟩
  obtain ⟨cv, rfl, hrow, hcod⟩ := hyes hwr.out (by rw [hdo.out])
  rw [hdo.out] at hrow hcod
  simp only at hrow hcod
  rw [hll.out] at hcod
  obtain ⟨g, c, rfl, hcv⟩ := one_key hrow
  obtain ⟨⟨S', hT9, _⟩, hk9, _⟩ := hcod
  obtain ⟨b0, b1, hg9⟩ := hbx.out w9 hk9
  clear hno2 hyes hrow hk9 hbx hdoc
  replace hT9 : Hid _ := ⟨hT9⟩
  replace hg9 : Hid _ := ⟨hg9⟩
  haveI := lat_nonempty w9
  have m0 := lat_cell b0
  have m1 := lat_cell b1
  have t1 : ∀ p : Lat w9, Calls Tryd.prog 18 #[.int .i64 (0)] p.W fun e w'' => e = .returned (.string (bt mt)) ∧ ∃ p' : Lat w9, w'' = p'.W := fun p => (htm.out p.W).mono fun e w'' ⟨h1, h2⟩ => ⟨h1, p, h2⟩
  have t2 : ∀ p : Lat w9, Calls Tryd.prog 14 #[.string (bt mt), .int .i64 y] p.W fun e w'' => e = .returned (.tuple #[.string (bt s), .int .i64 0]) ∧ ∃ p' : Lat w9, w'' = p'.W := fun p => (sum_e (hD.out.keep (grown_none hg9.out p.h)) mt (by omega) y hy hno.out hs.out hE.out).mono fun e w'' ⟨h1, h2⟩ => ⟨h1, ⟨w'', grown_none p.h h2⟩, rfl⟩
  clear htx htm hdo hwr hll
  go_wp2_with fail
  clear b0 b1
  refine wp_region_lat (by kernel_rfl) (by kernel_rfl) ?_
  repeat (go_big_quiet_step (fail))
  go_big_quiet_step ((go_at_call 18; exact t1 _))
  repeat (go_big_quiet_step (fail))
  go_big_quiet_step ((go_at_call 14; exact t2 _))
  repeat (go_big_quiet_step (fail))
  refine wpQuiet_nil ?_
  intro _ hw'
  obtain ⟨q, hw''⟩ := hw'
  subst hw''
  have hgq := grown_none hg9.out q.h
  have hTq := hT9.out.kept (w' := q.W) fun j _ hl => q.h.block j hl (by simp)
  have hget := get_any q.W hTq k (by omega) hgt
  replace hget : Hid _ := ⟨hget⟩
  replace hTq : Hid _ := ⟨hTq⟩
  replace hgq : Hid _ := ⟨hgq⟩
  have hcv := grown_cell q.h hcv
  clear t1 t2 m0 m1 hT9 hg9
  go_wp2_with fail
  refine hget.out.mono ?_
  rintro e w11 ⟨rfl, hg11⟩
  simp only [vOf, Option.isSome]
  have hgr := grown_none hgq.out hg11
  have hcv := grown_cell hg11 hcv
  have hal := alive_any (hD.out.keep hgr)
  replace hal : Hid _ := ⟨hal⟩
  have hT11 := hTq.out.kept (w' := w11) fun j _ hl => hg11.block j hl (by simp)
  replace hT11 : Hid _ := ⟨hT11⟩
  replace hgr : Hid _ := ⟨hgr⟩
  clear hget hgq hg11 hTq
  go_wp2_with fail
  refine hal.out.mono ?_
  rintro e w12 ⟨rfl, hg12⟩
  have hcv := grown_cell hg12 hcv
  have hln := len_any w12 (hT11.out.kept fun j _ hl => hg12.block j hl (by simp))
  replace hln : Hid _ := ⟨hln⟩
  have hfin : Hid _ := ⟨below_of' (grown_none hgr.out hg12)⟩
  clear hal hT11 hgr hg12
  go_wp2_with fail
  refine hln.out.mono ?_
  rintro e w13 ⟨rfl, rfl⟩
  clear hln
  go_wp2
  go_ret
  exact ⟨rfl, hfin.out⟩
set_option maxRecDepth 100000 in
set_option maxHeartbeats 4000000 in
set_option maxRecDepth 100000 in
set_option maxHeartbeats 4000000 in
/-- case c4 -/
theorem last_c4 (k : K) (x y : Int) (W : World) (hD : Dr W) (hx : In64 x) (hy : In64 y) (hk : 1 ≤ k.length ∧ k.length ≤ 16) (hin : ¬ In64 (0 + y)) :
    Calls Tryd.prog 6 #[.string (bt k), .agg #[.int .i64 x, .int .i64 y], .bool true] W fun e W' => e = .returned (.bool true) ∧ Below W.heap.size W W' := by
  have hsz := bt_size k
  have htl := bt_toList
  have hdo := las_do (k := k) (y := y) (d := true) hx
  have hwr := las_wr (k := k) (y := y) (d := true) hk hx
  have hll := las_all k x y true
  rw [show lasM x true = 0 from rfl, sumE_out hin, if_neg (by decide)] at hdo
  have hgt : Hid (gt ([] : List E) k = none) := ⟨rfl⟩
  have hs : Hid (sumK (some (0)) y = []) := ⟨by simp only [sumK]; rw [if_neg hin]⟩
  obtain ⟨u, hu⟩ : ∃ u, Hid (Lib.itoa x = u) := ⟨_, ⟨rfl⟩⟩
  obtain ⟨mt, hmt⟩ : ∃ u, Hid (Lib.itoa (0) = u) := ⟨_, ⟨rfl⟩⟩
  have hno : Hid (numOf mt = some (0)) := ⟨by rw [← hmt.out]; exact numOf_itoa (by first | exact hx | (constructor <;> decide))⟩
  have hml : mt.length ≤ 21 := by rw [← hmt.out]; exact itoa_len (by first | exact hx | (constructor <;> decide))
  have htx := fun w => text_any w x hx
  have htm := fun w => text_any w (0) (by first | exact hx | (constructor <;> decide))
  rw [hu.out] at htx
  rw [hmt.out] at htm
  have hE : Hid (sumE (some (0)) y = 93) := ⟨sumE_out hin⟩
  have q1 : decide ((k.length : Int) < 1) = false := by simp; omega
  have q2 : decide ((k.length : Int) > 16) = false := by simp; omega
  have q3 : decide (16 < (k.length : Int)) = false := by simp; omega
  replace hD : Hid _ := ⟨hD⟩
  replace hdo : Hid _ := ⟨hdo⟩
  replace hwr : Hid _ := ⟨hwr⟩
  replace hll : Hid _ := ⟨hll⟩
  replace hin : Hid _ := ⟨hin⟩
  have hga := World.grownBy_alloc W (.cells #[.int .i64 x, .int .i64 y] 42) none
  have b0 : (W.alloc (.cells #[.int .i64 x, .int .i64 y] 42)).cell? ⟨W.heap.size, 0, none⟩ = some (.int .i64 x) := cell_new W _ 42 (i := 0) rfl
  have b1 : (W.alloc (.cells #[.int .i64 x, .int .i64 y] 42)).cell? ⟨W.heap.size, 1, none⟩ = some (.int .i64 y) := cell_new W _ 42 (i := 1) rfl
  have hnew := new_any (W.alloc (.cells #[.int .i64 x, .int .i64 y] 42))
  replace hnew : Hid _ := ⟨hnew⟩
  replace htx : Hid _ := ⟨htx⟩
  replace htm : Hid _ := ⟨htm⟩
  go_enter Tryd.func6, Tryd.ntmps6
  go_wp2_with fail
  refine hnew.out.mono ?_
  rintro e w1 ⟨tb, rfl, hT, hg⟩
  have b0 := grown_cell hg b0
  have b1 := grown_cell hg b1
  have hg1 := grown_none hga hg
  have hs1 := hg.size
  simp at hs1
  replace hT : Hid _ := ⟨hT⟩
  replace hg1 : Hid _ := ⟨hg1⟩
  clear hnew hg hga
  have ga := World.grownBy_alloc w1 (.cells #[.int .i64 1, .string (bt k), .string ⟨#[102, 105, 114, 115, 116]⟩, .int .i64 0] 36) none
  have b0a := grown_cell ga b0
  have b1a := grown_cell ga b1
  go_wp2_with fail
  refine (htx.out _).mono ?_
  rintro e w2 ⟨rfl, rfl⟩
  have gb := World.grownBy_alloc (w1.alloc (.cells #[.int .i64 1, .string (bt k), .string ⟨#[102, 105, 114, 115, 116]⟩, .int .i64 0] 36)) (.cells #[.int .i64 1, .string (bt k), .string (bt u), .int .i64 0] 36) none
  have b1b := grown_cell gb b1a
  go_wp2_with fail
  have hgd : w1.grownBy ((((w1.alloc (.cells #[.int .i64 1, .string (bt k), .string ⟨#[102, 105, 114, 115, 116]⟩, .int .i64 0] 36)).alloc (.cells #[.int .i64 2, .string (bt k), .string ⟨#[]⟩, .int .i64 0] 36)).alloc (.cells #[.int .i64 3, .string (bt k), .string ⟨#[]⟩, .int .i64 y] 36)).alloc (.cells #[.int .i64 1, .string (bt k), .string ⟨#[102, 105, 114, 115, 116]⟩, .int .i64 0, .int .i64 2, .string (bt k), .string ⟨#[]⟩, .int .i64 0, .int .i64 3, .string (bt k), .string ⟨#[]⟩, .int .i64 y, .int .i64 4, .string (bt k), .string ⟨#[]⟩, .int .i64 0] 36)) none := grown_none (grown_none (grown_none (World.grownBy_alloc _ _ none) (World.grownBy_alloc _ _ none)) (World.grownBy_alloc _ _ none)) (World.grownBy_alloc _ _ none)
  have hsp : Sps ((((w1.alloc (.cells #[.int .i64 1, .string (bt k), .string ⟨#[102, 105, 114, 115, 116]⟩, .int .i64 0] 36)).alloc (.cells #[.int .i64 2, .string (bt k), .string ⟨#[]⟩, .int .i64 0] 36)).alloc (.cells #[.int .i64 3, .string (bt k), .string ⟨#[]⟩, .int .i64 y] 36)).alloc (.cells #[.int .i64 1, .string (bt k), .string ⟨#[102, 105, 114, 115, 116]⟩, .int .i64 0, .int .i64 2, .string (bt k), .string ⟨#[]⟩, .int .i64 0, .int .i64 3, .string (bt k), .string ⟨#[]⟩, .int .i64 y, .int .i64 4, .string (bt k), .string ⟨#[]⟩, .int .i64 0] 36)).heap.size ((((w1.alloc (.cells #[.int .i64 1, .string (bt k), .string ⟨#[102, 105, 114, 115, 116]⟩, .int .i64 0] 36)).alloc (.cells #[.int .i64 2, .string (bt k), .string ⟨#[]⟩, .int .i64 0] 36)).alloc (.cells #[.int .i64 3, .string (bt k), .string ⟨#[]⟩, .int .i64 y] 36)).alloc (.cells #[.int .i64 1, .string (bt k), .string ⟨#[102, 105, 114, 115, 116]⟩, .int .i64 0, .int .i64 2, .string (bt k), .string ⟨#[]⟩, .int .i64 0, .int .i64 3, .string (bt k), .string ⟨#[]⟩, .int .i64 y, .int .i64 4, .string (bt k), .string ⟨#[]⟩, .int .i64 0] 36)) (.slice (some ⟨w1.heap.size + 1 + 1 + 1, 0, none⟩) (lasS k x y true).length 4) (lasS k x y true) := by
    have h := las_sps (((w1.alloc (.cells #[.int .i64 1, .string (bt k), .string ⟨#[102, 105, 114, 115, 116]⟩, .int .i64 0] 36)).alloc (.cells #[.int .i64 2, .string (bt k), .string ⟨#[]⟩, .int .i64 0] 36)).alloc (.cells #[.int .i64 3, .string (bt k), .string ⟨#[]⟩, .int .i64 y] 36)) k x y true hk.2 hx hy (.string (bt [])) rfl 2 rfl
    have e : (((w1.alloc (.cells #[.int .i64 1, .string (bt k), .string ⟨#[102, 105, 114, 115, 116]⟩, .int .i64 0] 36)).alloc (.cells #[.int .i64 2, .string (bt k), .string ⟨#[]⟩, .int .i64 0] 36)).alloc (.cells #[.int .i64 3, .string (bt k), .string ⟨#[]⟩, .int .i64 y] 36)).heap.size = w1.heap.size + 1 + 1 + 1 := by simp
    rw [e] at h
    exact h
  have hgW := grown_none hg1.out hgd
  have hS : ∀ j, ((W.alloc (.cells #[.int .i64 x, .int .i64 y] 42)).heap.size ≤ j ∧ j < w1.heap.size) → j < ((((w1.alloc (.cells #[.int .i64 1, .string (bt k), .string ⟨#[102, 105, 114, 115, 116]⟩, .int .i64 0] 36)).alloc (.cells #[.int .i64 2, .string (bt k), .string ⟨#[]⟩, .int .i64 0] 36)).alloc (.cells #[.int .i64 3, .string (bt k), .string ⟨#[]⟩, .int .i64 y] 36)).alloc (.cells #[.int .i64 1, .string (bt k), .string ⟨#[102, 105, 114, 115, 116]⟩, .int .i64 0, .int .i64 2, .string (bt k), .string ⟨#[]⟩, .int .i64 0, .int .i64 3, .string (bt k), .string ⟨#[]⟩, .int .i64 y, .int .i64 4, .string (bt k), .string ⟨#[]⟩, .int .i64 0] 36)).heap.size := fun j hj => Nat.lt_of_lt_of_le hj.2 hgd.size
  have hdoc := do_any ((((w1.alloc (.cells #[.int .i64 1, .string (bt k), .string ⟨#[102, 105, 114, 115, 116]⟩, .int .i64 0] 36)).alloc (.cells #[.int .i64 2, .string (bt k), .string ⟨#[]⟩, .int .i64 0] 36)).alloc (.cells #[.int .i64 3, .string (bt k), .string ⟨#[]⟩, .int .i64 y] 36)).alloc (.cells #[.int .i64 1, .string (bt k), .string ⟨#[102, 105, 114, 115, 116]⟩, .int .i64 0, .int .i64 2, .string (bt k), .string ⟨#[]⟩, .int .i64 0, .int .i64 3, .string (bt k), .string ⟨#[]⟩, .int .i64 y, .int .i64 4, .string (bt k), .string ⟨#[]⟩, .int .i64 0] 36)) (hT.out.kept fun j _ hl => hgd.block j hl (by simp)) hS (hD.out.keep hgW) hsp (by simp) (by simp)
  have b0d := grown_cell hgd b0
  have b1d := grown_cell hgd b1
  have hbx : Hid (∀ w9, Kp (fun j => (W.alloc (.cells #[.int .i64 x, .int .i64 y] 42)).heap.size ≤ j ∧ j < w1.heap.size) ((((w1.alloc (.cells #[.int .i64 1, .string (bt k), .string ⟨#[102, 105, 114, 115, 116]⟩, .int .i64 0] 36)).alloc (.cells #[.int .i64 2, .string (bt k), .string ⟨#[]⟩, .int .i64 0] 36)).alloc (.cells #[.int .i64 3, .string (bt k), .string ⟨#[]⟩, .int .i64 y] 36)).alloc (.cells #[.int .i64 1, .string (bt k), .string ⟨#[102, 105, 114, 115, 116]⟩, .int .i64 0, .int .i64 2, .string (bt k), .string ⟨#[]⟩, .int .i64 0, .int .i64 3, .string (bt k), .string ⟨#[]⟩, .int .i64 y, .int .i64 4, .string (bt k), .string ⟨#[]⟩, .int .i64 0] 36)) w9 → w9.cell? ⟨W.heap.size, 0, none⟩ = some (.int .i64 x) ∧ w9.cell? ⟨W.heap.size, 1, none⟩ = some (.int .i64 y) ∧ W.grownBy w9 none) := ⟨fun w9 hk9 => by
    have hlt : W.heap.size < ((((w1.alloc (.cells #[.int .i64 1, .string (bt k), .string ⟨#[102, 105, 114, 115, 116]⟩, .int .i64 0] 36)).alloc (.cells #[.int .i64 2, .string (bt k), .string ⟨#[]⟩, .int .i64 0] 36)).alloc (.cells #[.int .i64 3, .string (bt k), .string ⟨#[]⟩, .int .i64 y] 36)).alloc (.cells #[.int .i64 1, .string (bt k), .string ⟨#[102, 105, 114, 115, 116]⟩, .int .i64 0, .int .i64 2, .string (bt k), .string ⟨#[]⟩, .int .i64 0, .int .i64 3, .string (bt k), .string ⟨#[]⟩, .int .i64 y, .int .i64 4, .string (bt k), .string ⟨#[]⟩, .int .i64 0] 36)).heap.size := by have := hgd.size; omega
    have hb := hk9.block W.heap.size hlt (by simp; omega)
    refine ⟨(World.cell?_of_block hb).trans b0d, (World.cell?_of_block hb).trans b1d, hk9.os.trans hgW.os, hk9.tape.trans hgW.tape, hk9.output.trans hgW.output, Nat.le_trans hgW.size hk9.size, fun j hj _ => ?_⟩
    exact (hk9.block j (Nat.lt_of_lt_of_le hj hgW.size) (by simp; omega)).trans (hgW.block j hj (by simp))⟩
  replace hdoc : Hid _ := ⟨hdoc⟩
  have hgdH : Hid _ := ⟨hgd⟩
  clear b0 b1 b0a b1a b1b b0d b1d ga gb hsp hgd hgW hS
  refine hdoc.out.mono ?_
  rintro e w9 ⟨_, hno2, hyes⟩
  obtain ⟨rfl, hg9'⟩ := hno2 hwr.out (by rw [hdo.out]; decide)
  rw [hdo.out]
  simp only
  have hT9 := hT.out.kept (w' := w9) fun j _ hl => (grown_none hgdH.out hg9').block j hl (by simp)
  obtain ⟨b0, b1, hg9⟩ := hbx.out w9 (Kp.of0 hg9')
  clear hno2 hyes hbx hdoc
  replace hT9 : Hid _ := ⟨hT9⟩
  replace hg9 : Hid _ := ⟨hg9⟩
  haveI := lat_nonempty w9
  have m0 := lat_cell b0
  have m1 := lat_cell b1
  have t1 : ∀ p : Lat w9, Calls Tryd.prog 18 #[.int .i64 (0)] p.W fun e w'' => e = .returned (.string (bt mt)) ∧ ∃ p' : Lat w9, w'' = p'.W := fun p => (htm.out p.W).mono fun e w'' ⟨h1, h2⟩ => ⟨h1, p, h2⟩
  have t2 : ∀ p : Lat w9, Calls Tryd.prog 14 #[.string (bt mt), .int .i64 y] p.W fun e w'' => e = .returned (.tuple #[.string (bt []), .int .i64 93]) ∧ ∃ p' : Lat w9, w'' = p'.W := fun p => (sum_e (hD.out.keep (grown_none hg9.out p.h)) mt (by omega) y hy hno.out hs.out hE.out).mono fun e w'' ⟨h1, h2⟩ => ⟨h1, ⟨w'', grown_none p.h h2⟩, rfl⟩
  clear htx htm hdo hwr hll
  go_wp2_with fail
  clear b0 b1
  refine wp_region_lat (by kernel_rfl) (by kernel_rfl) ?_
  repeat (go_big_quiet_step (fail))
  go_big_quiet_step ((go_at_call 18; exact t1 _))
  repeat (go_big_quiet_step (fail))
  go_big_quiet_step ((go_at_call 14; exact t2 _))
  repeat (go_big_quiet_step (fail))
  refine wpQuiet_nil ?_
  intro _ hw'
  obtain ⟨q, hw''⟩ := hw'
  subst hw''
  have hgq := grown_none hg9.out q.h
  have hTq := hT9.out.kept (w' := q.W) fun j _ hl => q.h.block j hl (by simp)
  have hget := get_any q.W hTq k (by omega) hgt
  replace hget : Hid _ := ⟨hget⟩
  replace hTq : Hid _ := ⟨hTq⟩
  replace hgq : Hid _ := ⟨hgq⟩
  
  clear t1 t2 m0 m1 hT9 hg9
  go_wp2_with fail
  refine hget.out.mono ?_
  rintro e w11 ⟨rfl, hg11⟩
  simp only [vOf, Option.isSome]
  have hgr := grown_none hgq.out hg11
  
  have hal := alive_any (hD.out.keep hgr)
  replace hal : Hid _ := ⟨hal⟩
  have hT11 := hTq.out.kept (w' := w11) fun j _ hl => hg11.block j hl (by simp)
  replace hT11 : Hid _ := ⟨hT11⟩
  replace hgr : Hid _ := ⟨hgr⟩
  clear hget hgq hg11 hTq
  go_wp2_with fail
  refine hal.out.mono ?_
  rintro e w12 ⟨rfl, hg12⟩
  have hfin : Hid _ := ⟨below_of' (grown_none hgr.out hg12)⟩
  clear hal hT11 hgr hg12
  go_wp2
  go_ret
  exact ⟨rfl, hfin.out⟩
theorem last_walk (k : K) (x y : Int) (d : Bool) (W : World) (hD : Dr W) (hx : In64 x) (hy : In64 y) :
    Calls Tryd.prog 6 #[.string (bt k), .agg #[.int .i64 x, .int .i64 y], .bool d] W fun e W' => e = .returned (.bool true) ∧ Below W.heap.size W W' := by
  by_cases hk : 1 ≤ k.length ∧ k.length ≤ 16
  · cases d
    · by_cases hin : In64 (x + y)
      · exact last_c1 k x y W hD hx hy hk hin
      · exact last_c2 k x y W hD hx hy hk hin
    · by_cases hin : In64 (0 + y)
      · exact last_c3 k x y W hD hx hy hk hin
      · exact last_c4 k x y W hD hx hy hk hin
  · exact last_bad k x y d W hD hx hy hk
end Go.Proofs.YtmahpceokpajgaaDoor
