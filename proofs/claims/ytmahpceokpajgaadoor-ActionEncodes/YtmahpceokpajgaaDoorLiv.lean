/- belfrylaw09.alive. -/
import Derived.Test.YtmahpceokpajgaaDoorAen
namespace Go.Proofs.YtmahpceokpajgaaDoor
open Go.RowKit Go.IntWalk Go.Maps Go.Shelf
set_option linter.unusedVariables false
def liveS : Sp := ⟨3, [107], [], -5⟩
theorem itoa_m5 : Lib.itoa (-5) = [45, 53] := by decide +kernel
theorem itoa_m1 : Lib.itoa (-1) = [45, 49] := by decide +kernel
theorem num9 : numOf [57] = some 9 := by decide +kernel
theorem enc_live : encX [liveS] = [3, 0, 4, 1, 107, 45, 53] := by
  have : dat liveS = [1, 107, 45, 53] := by unfold dat; rw [show liveS.n = -5 from rfl, itoa_m5]; rfl
  show encP (3, bz (dat liveS)) ++ [] = _
  rw [this]
  rfl
theorem wr_live : wrE [liveS] = 0 := by decide +kernel
theorem sum_live : sumK (some 9) (-10) = [45, 49] ∧ sumE (some 9) (-10) = 0 := by
  refine ⟨?_, by decide⟩
  show (if In64 (9 + -10) then Lib.itoa (9 + -10) else []) = _
  rw [if_pos (by decide)]
  exact itoa_m1
set_option maxRecDepth 100000 in
set_option maxHeartbeats 2000000 in
theorem alive_any {w : World} (h : Dr w) : Calls Tryd.prog 8 #[] w fun e w' => e = .returned (.bool true) ∧ w.grownBy w' none := by
  go_enter Tryd.func8, Tryd.ntmps8
  go_wp2_with fail
  have hga := World.grownBy_alloc w (.cells #[.int .i64 3, .string (bt [107]), .string (bt []), .int .i64 (-5)] 36) none
  have hsp : Sps (w.alloc (.cells #[.int .i64 3, .string (bt [107]), .string (bt []), .int .i64 (-5)] 36)).heap.size (w.alloc (.cells #[.int .i64 3, .string (bt [107]), .string (bt []), .int .i64 (-5)] 36)) (.slice (some ⟨w.heap.size, 0, none⟩) 1 1) [liveS] := by
    refine .inr ⟨w.heap.size, 0, 1, rfl, by simp, by simp, by unfold maxLen; omega, fun j x hj => ?_⟩
    match j, hj with
    | 0, hj =>
      simp at hj
      subst hj
      exact ⟨⟨by constructor <;> decide, by simp [liveS, maxLen], by simp [liveS, maxLen], by constructor <;> decide⟩, cell_new w _ 36 (i := 0) rfl, cell_new w _ 36 (i := 1) rfl, cell_new w _ 36 (i := 2) rfl, cell_new w _ 36 (i := 3) rfl⟩
    | j + 1, hj => simp at hj
  refine (encA_any _ (h.keep hga) hsp ⟨wr_live⟩).mono ?_
  rintro e w1 ⟨u, rfl, hr1, hg1⟩
  simp only [if_pos, enc_live] at hr1
  have hg1 := grown_none hga hg1
  have hs := sum_any (h.keep hg1) [57] (by simp) (-10) (by constructor <;> decide) ⟨num9⟩
  rw [sum_live.1, sum_live.2] at hs
  have h57 : ({ data := #[57] } : ByteArray) = bt [57] := rfl
  replace hs : Hid _ := ⟨hs⟩
  clear hga hsp
  replace hr1 : Hid _ := ⟨hr1⟩
  go_wp2_with fail
  refine hs.out.mono ?_
  rintro e w2 ⟨rfl, hg2⟩
  have hr2 := hr1.out.kept hg2 (Classical.em _)
  have hb2 : C.Bts w2.heap.size w2 u [3, 0, 4, 1, 107, 45, 53] := C.Bts.of_own hr2 (by decide)
  have hconv := C.run_conv hb2
  have hstr : strOfNums [3, 0, 4, 1, 107, 45, 53] = { data := #[3, 0, 4, 1, 107, 45, 53] } := rfl
  rw [hstr] at hconv
  have hg := grown_none hg1 hg2
  clear hr2 hb2 hr1 hs hg1 hg2 hstr
  have htl : (bt [45, 49]).toList = [45, 49] := bt_toList _
  go_wp2
  go_ret
  exact ⟨rfl, hg⟩
end Go.Proofs.YtmahpceokpajgaaDoor
