/- belfryref09.Name, Right. -/
import Derived.Test.YtmahpceokpajgaaDoorAen
namespace Go.Proofs.YtmahpceokpajgaaDoor
open Go.RowKit Go.IntWalk Go.Maps Go.Shelf
set_option linter.unusedVariables false
set_option linter.unusedSimpArgs false
def nmB (k : K) : Bool := !k.isEmpty && decide (k.length ≤ 16)
set_option maxRecDepth 100000 in
set_option maxHeartbeats 1000000 in
theorem name_any (w : World) (k : K) {b : Bool} (hb : Hid (nmB k = b)) : Calls Tryd.prog 33 #[.string (bt k)] w fun e w' => e = .returned (.bool b) ∧ w' = w := by
  have z1 := bt_size k
  go_enter Tryd.func33, Tryd.ntmps33
  go_wp2
  all_goals
    go_ret
    refine ⟨?_, rfl⟩
    rw [← hb.out]
    congr 2
    simp only [bt_toList, beq_iff_eq, beq_eq_false_iff_ne, ne_eq, List.isEmpty_iff] at *
    have g1 : (k.length : Int) ≤ 16 ↔ k.length ≤ 16 := by omega
    have g2 : k.length = 0 ↔ k = [] := List.length_eq_zero_iff
    try simp_all [nmB]
    try (first | (intros; omega) | (cases k <;> simp_all <;> omega))
set_option maxRecDepth 100000 in
set_option maxHeartbeats 4000000 in
theorem srt_any (w : World) (x : Sp) {r : Bool} (hr : Hid (rgt x = r)) : Calls Tryd.prog 17 #[x.val] w fun e w' => e = .returned (.bool r) ∧ w.grownBy w' none := by
  obtain ⟨kd, ky, vl, n⟩ := x
  have hg := World.grownBy_alloc w (.cells #[.int .i64 kd, .string (bt ky), .string (bt vl), .int .i64 n] 36) none
  have z2 := bt_size vl
  obtain ⟨b, hb⟩ : ∃ b, Hid (nmB ky = b) := ⟨_, ⟨rfl⟩⟩
  have hnm := name_any (w.alloc (.cells #[.int .i64 kd, .string (bt ky), .string (bt vl), .int .i64 n] 36)) ky hb
  replace hnm : Hid _ := ⟨hnm⟩
  simp only [Sp.val]
  replace hg : Hid _ := ⟨hg⟩
  have hkk : (kd = 1 ∨ kd = 2 ∨ kd = 3 ∨ kd = 4) ∨ (kd ≠ 1 ∧ kd ≠ 2 ∧ kd ≠ 3 ∧ kd ≠ 4) := by omega
  have hrr : Hid (r = (b && decide (vl.length ≤ 60) && ((kd == 1 && n == 0) || (kd == 3 && vl.isEmpty) || ((kd == 2 || kd == 4) && (vl.isEmpty && n == 0))))) := ⟨by rw [← hr.out, ← hb.out]; rfl⟩
  clear hr hb
  have g2 : (vl.length : Int) ≤ 60 ↔ vl.length ≤ 60 := by omega
  rcases hkk with (rfl | rfl | rfl | rfl) | ⟨e1, e2, e3, e4⟩
  · cases b
    all_goals
      go_enter Tryd.func17, Tryd.ntmps17
      go_wp2_with fail
      refine hnm.out.mono ?_
      rintro e w1 ⟨rfl, rfl⟩
      go_wp2
      all_goals
        go_ret
        refine ⟨?_, hg.out⟩
        rw [hrr.out]
        simp only [bt_toList, beq_iff_eq, beq_eq_false_iff_ne, ne_eq, List.isEmpty_iff] at *
        try simp_all
        try (first | (intros; omega) | (intro h; cases vl <;> simp_all) | (cases vl <;> simp_all))
  · cases b
    all_goals
      go_enter Tryd.func17, Tryd.ntmps17
      go_wp2_with fail
      refine hnm.out.mono ?_
      rintro e w1 ⟨rfl, rfl⟩
      go_wp2
      all_goals
        go_ret
        refine ⟨?_, hg.out⟩
        rw [hrr.out]
        simp only [bt_toList, beq_iff_eq, beq_eq_false_iff_ne, ne_eq, List.isEmpty_iff] at *
        try simp_all
        try (first | (intros; omega) | (intro h; cases vl <;> simp_all) | (cases vl <;> simp_all))
  · cases b
    all_goals
      go_enter Tryd.func17, Tryd.ntmps17
      go_wp2_with fail
      refine hnm.out.mono ?_
      rintro e w1 ⟨rfl, rfl⟩
      go_wp2
      all_goals
        go_ret
        refine ⟨?_, hg.out⟩
        rw [hrr.out]
        simp only [bt_toList, beq_iff_eq, beq_eq_false_iff_ne, ne_eq, List.isEmpty_iff] at *
        try simp_all
        try (first | (intros; omega) | (intro h; cases vl <;> simp_all) | (cases vl <;> simp_all))
  · cases b
    all_goals
      go_enter Tryd.func17, Tryd.ntmps17
      go_wp2_with fail
      refine hnm.out.mono ?_
      rintro e w1 ⟨rfl, rfl⟩
      go_wp2
      all_goals
        go_ret
        refine ⟨?_, hg.out⟩
        rw [hrr.out]
        simp only [bt_toList, beq_iff_eq, beq_eq_false_iff_ne, ne_eq, List.isEmpty_iff] at *
        try simp_all
        try (first | (intros; omega) | (intro h; cases vl <;> simp_all) | (cases vl <;> simp_all))
  · have f1 : (kd == 1) = false := by simpa using e1
    have f2 : (kd == 2) = false := by simpa using e2
    have f3 : (kd == 3) = false := by simpa using e3
    have f4 : (kd == 4) = false := by simpa using e4
    go_enter Tryd.func17, Tryd.ntmps17
    go_wp2_with fail
    refine hnm.out.mono ?_
    rintro e w1 ⟨rfl, rfl⟩
    go_wp2
    all_goals
      go_ret
      refine ⟨?_, hg.out⟩
      rw [hrr.out, f1, f2, f3, f4]
      simp
end Go.Proofs.YtmahpceokpajgaaDoor
