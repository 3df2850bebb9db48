/- The walk of ActionSums. -/
import Derived.Test.YtmahpceokpajgaaDoorLiv
namespace Go.Proofs.YtmahpceokpajgaaDoor
open Go.RowKit Go.IntWalk Go.Maps Go.Shelf
set_option linter.unusedVariables false
theorem sumE_in {x n : Int} (h : In64 (x + n)) : sumE (some x) n = 0 := by simp only [sumE]; rw [if_pos h]
theorem sumK_in {x n : Int} (h : In64 (x + n)) : sumK (some x) n = Lib.itoa (x + n) := by simp only [sumK]; rw [if_pos h]
theorem sumE_out {x n : Int} (h : ¬ In64 (x + n)) : sumE (some x) n = 93 := by simp only [sumE]; rw [if_neg h]
/-- Sum, with what it answers as variables. -/
theorem sum_e {w : World} (h : Dr w) (k : K) (hk : k.length ≤ 1000000) (n : Int) (hn : In64 n) {o : Option Int} (ho : numOf k = o) {t : K} (ht : sumK o n = t) {e : Int} (he : sumE o n = e) :
    Calls Tryd.prog 14 #[.string (bt k), .int .i64 n] w fun r w' => r = .returned (.tuple #[.string (bt t), .int .i64 e]) ∧ w.grownBy w' none := by
  rw [← ht, ← he]
  exact sum_any h k hk n hn ⟨ho⟩
set_option maxRecDepth 100000 in
set_option maxHeartbeats 4000000 in
theorem sums_a (x n m : Int) (W : World) (hD : Dr W) (hx : In64 x) (hn : In64 n) (hm : In64 m) (hin : ¬ In64 (x + n)) :
    Calls Tryd.prog 5 #[.int .i64 x, .int .i64 n, .int .i64 m] W fun e W' => e = .returned (.bool true) ∧ Below W.heap.size W W' := by
  obtain ⟨s, hs⟩ : ∃ s, Hid (Lib.itoa x = s) := ⟨_, ⟨rfl⟩⟩
  have ht := text_any W x hx
  rw [hs.out] at ht
  have hsl : s.length ≤ 21 := by rw [← hs.out]; exact itoa_len hx
  have hno : Hid (numOf s = some x) := ⟨by rw [← hs.out]; exact numOf_itoa hx⟩
  have hnx : Hid (numOf (s ++ [120]) = none) := ⟨by rw [← hs.out]; exact numOf_x x⟩
  have hn0 : Hid (numOf (48 :: s) = none) := ⟨by rw [← hs.out]; exact numOf_0 x⟩
  have happ1 : bt s ++ ({ data := #[120] } : ByteArray) = bt (s ++ [120]) := bt_app _ _
  have happ2 : ({ data := #[48] } : ByteArray) ++ bt s = bt (48 :: s) := bt_app _ _
  have hlim1 : ¬ 9223372036854775807 < (bt s).size + 1 := by rw [bt_size]; omega
  have hlim2 : ¬ 9223372036854775807 < 1 + (bt s).size := by rw [bt_size]; omega
  have hz0 : In64 (x + 0) := by rw [Int.add_zero]; exact hx
  have htl := bt_toList
  obtain ⟨t, hK⟩ : ∃ t, Hid (sumK (some x) n = t) := ⟨_, ⟨rfl⟩⟩
  have hE : Hid (sumE (some x) n = 93) := ⟨sumE_out hin⟩
  replace hin : Hid _ := ⟨hin⟩
  clear hin

  replace hD : Hid _ := ⟨hD⟩
  go_enter Tryd.func5, Tryd.ntmps5
  go_wp2_with fail
  refine ht.mono ?_
  rintro e w1 ⟨rfl, rfl⟩
  clear ht
  have c1 := sum_e hD.out s (by omega) n hn hno.out hK.out hE.out
  replace c1 : Hid _ := ⟨c1⟩
  go_wp2_with fail
  refine c1.out.mono ?_
  rintro e w2 ⟨rfl, hg2⟩
  have c2 := sum_e (hD.out.keep hg2) s (by omega) 0 (by constructor <;> decide) hno.out (t := s) (by rw [sumK_in hz0, Int.add_zero]; exact hs.out) (e := 0) (sumE_in hz0)
  replace c2 : Hid _ := ⟨c2⟩
  clear c1
  go_wp2_with fail
  refine c2.out.mono ?_
  rintro e w3 ⟨rfl, hg3⟩
  have hg3 := grown_none hg2 hg3
  have c3 := sum_e (hD.out.keep hg3) (s ++ [120]) (by simp; omega) n hn hnx.out (t := []) rfl (e := 92) rfl
  replace c3 : Hid _ := ⟨c3⟩
  clear c2 hg2
  go_wp2_with fail
  refine c3.out.mono ?_
  rintro e w4 ⟨rfl, hg4⟩
  have hg4 := grown_none hg3 hg4
  have c4 := sum_e (hD.out.keep hg4) (48 :: s) (by simp; omega) n hn hn0.out (t := []) rfl (e := 92) rfl
  replace c4 : Hid _ := ⟨c4⟩
  clear c3 hg3
  go_wp2_with fail
  refine c4.out.mono ?_
  rintro e w5 ⟨rfl, hg5⟩
  have hg5 := grown_none hg4 hg5
  clear c4 hg4
  have hal := alive_any (hD.out.keep hg5)
  replace hal : Hid _ := ⟨hal⟩
  go_wp2_with fail
  refine hal.out.mono ?_
  rintro e w9 ⟨rfl, hg9⟩
  have hg9 := below_of' (grown_none hg5 hg9)
  clear hal
  go_wp2
  go_ret
  exact ⟨rfl, hg9⟩

set_option maxRecDepth 100000 in
set_option maxHeartbeats 4000000 in
theorem sums_b (x n m : Int) (W : World) (hD : Dr W) (hx : In64 x) (hn : In64 n) (hm : In64 m) (hin : In64 (x + n)) (hmin : n = -9223372036854775808) :
    Calls Tryd.prog 5 #[.int .i64 x, .int .i64 n, .int .i64 m] W fun e W' => e = .returned (.bool true) ∧ Below W.heap.size W W' := by
  obtain ⟨s, hs⟩ : ∃ s, Hid (Lib.itoa x = s) := ⟨_, ⟨rfl⟩⟩
  have ht := text_any W x hx
  rw [hs.out] at ht
  have hsl : s.length ≤ 21 := by rw [← hs.out]; exact itoa_len hx
  have hno : Hid (numOf s = some x) := ⟨by rw [← hs.out]; exact numOf_itoa hx⟩
  have hnx : Hid (numOf (s ++ [120]) = none) := ⟨by rw [← hs.out]; exact numOf_x x⟩
  have hn0 : Hid (numOf (48 :: s) = none) := ⟨by rw [← hs.out]; exact numOf_0 x⟩
  have happ1 : bt s ++ ({ data := #[120] } : ByteArray) = bt (s ++ [120]) := bt_app _ _
  have happ2 : ({ data := #[48] } : ByteArray) ++ bt s = bt (48 :: s) := bt_app _ _
  have hlim1 : ¬ 9223372036854775807 < (bt s).size + 1 := by rw [bt_size]; omega
  have hlim2 : ¬ 9223372036854775807 < 1 + (bt s).size := by rw [bt_size]; omega
  have hz0 : In64 (x + 0) := by rw [Int.add_zero]; exact hx
  have htl := bt_toList
  obtain ⟨t, hK⟩ : ∃ t, Hid (sumK (some x) n = t) := ⟨_, ⟨rfl⟩⟩
  have hE : Hid (sumE (some x) n = 0) := ⟨sumE_in hin⟩
  have hnm : (n == -9223372036854775808) = true := by simpa using hmin
  replace hin : Hid _ := ⟨hin⟩
  clear hin
  replace hmin : Hid _ := ⟨hmin⟩
  clear hmin

  replace hD : Hid _ := ⟨hD⟩
  go_enter Tryd.func5, Tryd.ntmps5
  go_wp2_with fail
  refine ht.mono ?_
  rintro e w1 ⟨rfl, rfl⟩
  clear ht
  have c1 := sum_e hD.out s (by omega) n hn hno.out hK.out hE.out
  replace c1 : Hid _ := ⟨c1⟩
  go_wp2_with fail
  refine c1.out.mono ?_
  rintro e w2 ⟨rfl, hg2⟩
  have c2 := sum_e (hD.out.keep hg2) s (by omega) 0 (by constructor <;> decide) hno.out (t := s) (by rw [sumK_in hz0, Int.add_zero]; exact hs.out) (e := 0) (sumE_in hz0)
  replace c2 : Hid _ := ⟨c2⟩
  clear c1
  go_wp2_with fail
  refine c2.out.mono ?_
  rintro e w3 ⟨rfl, hg3⟩
  have hg3 := grown_none hg2 hg3
  have c3 := sum_e (hD.out.keep hg3) (s ++ [120]) (by simp; omega) n hn hnx.out (t := []) rfl (e := 92) rfl
  replace c3 : Hid _ := ⟨c3⟩
  clear c2 hg2
  go_wp2_with fail
  refine c3.out.mono ?_
  rintro e w4 ⟨rfl, hg4⟩
  have hg4 := grown_none hg3 hg4
  have c4 := sum_e (hD.out.keep hg4) (48 :: s) (by simp; omega) n hn hn0.out (t := []) rfl (e := 92) rfl
  replace c4 : Hid _ := ⟨c4⟩
  clear c3 hg3
  go_wp2_with fail
  refine c4.out.mono ?_
  rintro e w5 ⟨rfl, hg5⟩
  have hg5 := grown_none hg4 hg5
  clear c4 hg4
  have hal := alive_any (hD.out.keep hg5)
  replace hal : Hid _ := ⟨hal⟩
  go_wp2_with fail
  refine hal.out.mono ?_
  rintro e w9 ⟨rfl, hg9⟩
  have hg9 := below_of' (grown_none hg5 hg9)
  clear hal
  go_wp2
  go_ret
  exact ⟨rfl, hg9⟩

set_option maxRecDepth 100000 in
set_option maxHeartbeats 4000000 in
theorem sums_n1 (x n m : Int) (W : World) (hD : Dr W) (hx : In64 x) (hn : In64 n) (hm : In64 m) (hin : In64 (x + n)) (hmin : n ≠ -9223372036854775808) (hsm : n ≤ -1152921504606846976) :
    Calls Tryd.prog 5 #[.int .i64 x, .int .i64 n, .int .i64 m] W fun e W' => e = .returned (.bool true) ∧ Below W.heap.size W W' := by
  obtain ⟨s, hs⟩ : ∃ s, Hid (Lib.itoa x = s) := ⟨_, ⟨rfl⟩⟩
  have ht := text_any W x hx
  rw [hs.out] at ht
  have hsl : s.length ≤ 21 := by rw [← hs.out]; exact itoa_len hx
  have hno : Hid (numOf s = some x) := ⟨by rw [← hs.out]; exact numOf_itoa hx⟩
  have hnx : Hid (numOf (s ++ [120]) = none) := ⟨by rw [← hs.out]; exact numOf_x x⟩
  have hn0 : Hid (numOf (48 :: s) = none) := ⟨by rw [← hs.out]; exact numOf_0 x⟩
  have happ1 : bt s ++ ({ data := #[120] } : ByteArray) = bt (s ++ [120]) := bt_app _ _
  have happ2 : ({ data := #[48] } : ByteArray) ++ bt s = bt (48 :: s) := bt_app _ _
  have hlim1 : ¬ 9223372036854775807 < (bt s).size + 1 := by rw [bt_size]; omega
  have hlim2 : ¬ 9223372036854775807 < 1 + (bt s).size := by rw [bt_size]; omega
  have hz0 : In64 (x + 0) := by rw [Int.add_zero]; exact hx
  have htl := bt_toList
  obtain ⟨t, hK⟩ : ∃ t, Hid (sumK (some x) n = t) := ⟨_, ⟨rfl⟩⟩
  have hE : Hid (sumE (some x) n = 0) := ⟨sumE_in hin⟩
  have hnt : Hid (numOf t = some (x + n)) := ⟨by rw [← hK.out, sumK_in hin]; exact numOf_itoa hin⟩
  have htn : t.length ≤ 21 := by rw [← hK.out, sumK_in hin]; exact itoa_len hin
  have hnm : (n == -9223372036854775808) = false := by simpa using hmin
  have hnm2 : ¬ n = -9223372036854775808 := hmin
  have hng : wrap64 (-n) = -n := wrp _ _ (by omega) (by have := hn.1; have := hn.2; constructor <;> omega)
  have hng2 : In64 (-n) := by have := hn.1; have := hn.2; constructor <;> omega
  have hxb : Hid (x + n + -n = x) := ⟨by omega⟩
  obtain ⟨cK, hcK⟩ : ∃ t, Hid (sumK (some (x + n)) m = t) := ⟨_, ⟨rfl⟩⟩
  obtain ⟨cE, hcE⟩ : ∃ t, Hid (sumE (some (x + n)) m = t) := ⟨_, ⟨rfl⟩⟩
  have q1 : decide (n > -1152921504606846976) = false := by simp; omega
  have q1' : decide (-1152921504606846976 < n) = false := by simp; omega
  replace hin : Hid _ := ⟨hin⟩
  clear hin
  replace hmin : Hid _ := ⟨hmin⟩
  clear hmin
  clear hsm

  replace hD : Hid _ := ⟨hD⟩
  go_enter Tryd.func5, Tryd.ntmps5
  go_wp2_with fail
  refine ht.mono ?_
  rintro e w1 ⟨rfl, rfl⟩
  clear ht
  have c1 := sum_e hD.out s (by omega) n hn hno.out hK.out hE.out
  replace c1 : Hid _ := ⟨c1⟩
  go_wp2_with fail
  refine c1.out.mono ?_
  rintro e w2 ⟨rfl, hg2⟩
  have c2 := sum_e (hD.out.keep hg2) s (by omega) 0 (by constructor <;> decide) hno.out (t := s) (by rw [sumK_in hz0, Int.add_zero]; exact hs.out) (e := 0) (sumE_in hz0)
  replace c2 : Hid _ := ⟨c2⟩
  clear c1
  go_wp2_with fail
  refine c2.out.mono ?_
  rintro e w3 ⟨rfl, hg3⟩
  have hg3 := grown_none hg2 hg3
  have c3 := sum_e (hD.out.keep hg3) (s ++ [120]) (by simp; omega) n hn hnx.out (t := []) rfl (e := 92) rfl
  replace c3 : Hid _ := ⟨c3⟩
  clear c2 hg2
  go_wp2_with fail
  refine c3.out.mono ?_
  rintro e w4 ⟨rfl, hg4⟩
  have hg4 := grown_none hg3 hg4
  have c4 := sum_e (hD.out.keep hg4) (48 :: s) (by simp; omega) n hn hn0.out (t := []) rfl (e := 92) rfl
  replace c4 : Hid _ := ⟨c4⟩
  clear c3 hg3
  go_wp2_with fail
  refine c4.out.mono ?_
  rintro e w5 ⟨rfl, hg5⟩
  have hg5 := grown_none hg4 hg5
  clear c4 hg4
  have c5 := sum_e (hD.out.keep hg5) t (by omega) (-n) hng2 hnt.out (t := s) (by rw [sumK_in (by rw [hxb.out]; exact hx), hxb.out]; exact hs.out) (e := 0) (sumE_in (by rw [hxb.out]; exact hx))
  replace c5 : Hid _ := ⟨c5⟩
  go_wp2_with fail
  refine c5.out.mono ?_
  rintro e w6 ⟨rfl, hg6⟩
  have hg6 := grown_none hg5 hg6
  have c6 := sum_e (hD.out.keep hg6) t (by omega) m hm hnt.out hcK.out hcE.out
  replace c6 : Hid _ := ⟨c6⟩
  clear c5 hg5
  go_wp2_with fail
  refine c6.out.mono ?_
  rintro e w7 ⟨rfl, hg7⟩
  have hg7 := grown_none hg6 hg7
  clear c6 hg6
  have hal := alive_any (hD.out.keep hg7)
  replace hal : Hid _ := ⟨hal⟩
  go_wp2_with fail
  refine hal.out.mono ?_
  rintro e w9 ⟨rfl, hg9⟩
  have hg9 := below_of' (grown_none hg7 hg9)
  clear hal
  go_wp2
  go_ret
  exact ⟨rfl, hg9⟩

set_option maxRecDepth 100000 in
set_option maxHeartbeats 4000000 in
theorem sums_n2 (x n m : Int) (W : World) (hD : Dr W) (hx : In64 x) (hn : In64 n) (hm : In64 m) (hin : In64 (x + n)) (hmin : n ≠ -9223372036854775808) (hsm : -1152921504606846976 < n ∧ 1152921504606846976 ≤ n) :
    Calls Tryd.prog 5 #[.int .i64 x, .int .i64 n, .int .i64 m] W fun e W' => e = .returned (.bool true) ∧ Below W.heap.size W W' := by
  obtain ⟨s, hs⟩ : ∃ s, Hid (Lib.itoa x = s) := ⟨_, ⟨rfl⟩⟩
  have ht := text_any W x hx
  rw [hs.out] at ht
  have hsl : s.length ≤ 21 := by rw [← hs.out]; exact itoa_len hx
  have hno : Hid (numOf s = some x) := ⟨by rw [← hs.out]; exact numOf_itoa hx⟩
  have hnx : Hid (numOf (s ++ [120]) = none) := ⟨by rw [← hs.out]; exact numOf_x x⟩
  have hn0 : Hid (numOf (48 :: s) = none) := ⟨by rw [← hs.out]; exact numOf_0 x⟩
  have happ1 : bt s ++ ({ data := #[120] } : ByteArray) = bt (s ++ [120]) := bt_app _ _
  have happ2 : ({ data := #[48] } : ByteArray) ++ bt s = bt (48 :: s) := bt_app _ _
  have hlim1 : ¬ 9223372036854775807 < (bt s).size + 1 := by rw [bt_size]; omega
  have hlim2 : ¬ 9223372036854775807 < 1 + (bt s).size := by rw [bt_size]; omega
  have hz0 : In64 (x + 0) := by rw [Int.add_zero]; exact hx
  have htl := bt_toList
  obtain ⟨t, hK⟩ : ∃ t, Hid (sumK (some x) n = t) := ⟨_, ⟨rfl⟩⟩
  have hE : Hid (sumE (some x) n = 0) := ⟨sumE_in hin⟩
  have hnt : Hid (numOf t = some (x + n)) := ⟨by rw [← hK.out, sumK_in hin]; exact numOf_itoa hin⟩
  have htn : t.length ≤ 21 := by rw [← hK.out, sumK_in hin]; exact itoa_len hin
  have hnm : (n == -9223372036854775808) = false := by simpa using hmin
  have hnm2 : ¬ n = -9223372036854775808 := hmin
  have hng : wrap64 (-n) = -n := wrp _ _ (by omega) (by have := hn.1; have := hn.2; constructor <;> omega)
  have hng2 : In64 (-n) := by have := hn.1; have := hn.2; constructor <;> omega
  have hxb : Hid (x + n + -n = x) := ⟨by omega⟩
  obtain ⟨cK, hcK⟩ : ∃ t, Hid (sumK (some (x + n)) m = t) := ⟨_, ⟨rfl⟩⟩
  obtain ⟨cE, hcE⟩ : ∃ t, Hid (sumE (some (x + n)) m = t) := ⟨_, ⟨rfl⟩⟩
  have q1 : decide (n > -1152921504606846976) = true := by simp; omega
  have q1' : decide (-1152921504606846976 < n) = true := by simp; omega
  have q2 : decide (n < 1152921504606846976) = false := by simp; omega
  replace hin : Hid _ := ⟨hin⟩
  clear hin
  replace hmin : Hid _ := ⟨hmin⟩
  clear hmin
  clear hsm

  replace hD : Hid _ := ⟨hD⟩
  go_enter Tryd.func5, Tryd.ntmps5
  go_wp2_with fail
  refine ht.mono ?_
  rintro e w1 ⟨rfl, rfl⟩
  clear ht
  have c1 := sum_e hD.out s (by omega) n hn hno.out hK.out hE.out
  replace c1 : Hid _ := ⟨c1⟩
  go_wp2_with fail
  refine c1.out.mono ?_
  rintro e w2 ⟨rfl, hg2⟩
  have c2 := sum_e (hD.out.keep hg2) s (by omega) 0 (by constructor <;> decide) hno.out (t := s) (by rw [sumK_in hz0, Int.add_zero]; exact hs.out) (e := 0) (sumE_in hz0)
  replace c2 : Hid _ := ⟨c2⟩
  clear c1
  go_wp2_with fail
  refine c2.out.mono ?_
  rintro e w3 ⟨rfl, hg3⟩
  have hg3 := grown_none hg2 hg3
  have c3 := sum_e (hD.out.keep hg3) (s ++ [120]) (by simp; omega) n hn hnx.out (t := []) rfl (e := 92) rfl
  replace c3 : Hid _ := ⟨c3⟩
  clear c2 hg2
  go_wp2_with fail
  refine c3.out.mono ?_
  rintro e w4 ⟨rfl, hg4⟩
  have hg4 := grown_none hg3 hg4
  have c4 := sum_e (hD.out.keep hg4) (48 :: s) (by simp; omega) n hn hn0.out (t := []) rfl (e := 92) rfl
  replace c4 : Hid _ := ⟨c4⟩
  clear c3 hg3
  go_wp2_with fail
  refine c4.out.mono ?_
  rintro e w5 ⟨rfl, hg5⟩
  have hg5 := grown_none hg4 hg5
  clear c4 hg4
  have c5 := sum_e (hD.out.keep hg5) t (by omega) (-n) hng2 hnt.out (t := s) (by rw [sumK_in (by rw [hxb.out]; exact hx), hxb.out]; exact hs.out) (e := 0) (sumE_in (by rw [hxb.out]; exact hx))
  replace c5 : Hid _ := ⟨c5⟩
  go_wp2_with fail
  refine c5.out.mono ?_
  rintro e w6 ⟨rfl, hg6⟩
  have hg6 := grown_none hg5 hg6
  have c6 := sum_e (hD.out.keep hg6) t (by omega) m hm hnt.out hcK.out hcE.out
  replace c6 : Hid _ := ⟨c6⟩
  clear c5 hg5
  go_wp2_with fail
  refine c6.out.mono ?_
  rintro e w7 ⟨rfl, hg7⟩
  have hg7 := grown_none hg6 hg7
  clear c6 hg6
  have hal := alive_any (hD.out.keep hg7)
  replace hal : Hid _ := ⟨hal⟩
  go_wp2_with fail
  refine hal.out.mono ?_
  rintro e w9 ⟨rfl, hg9⟩
  have hg9 := below_of' (grown_none hg7 hg9)
  clear hal
  go_wp2
  go_ret
  exact ⟨rfl, hg9⟩

set_option maxRecDepth 100000 in
set_option maxHeartbeats 4000000 in
theorem sums_m1 (x n m : Int) (W : World) (hD : Dr W) (hx : In64 x) (hn : In64 n) (hm : In64 m) (hin : In64 (x + n)) (hmin : n ≠ -9223372036854775808) (hsm : (-1152921504606846976 < n ∧ n < 1152921504606846976) ∧ m ≤ -1152921504606846976) :
    Calls Tryd.prog 5 #[.int .i64 x, .int .i64 n, .int .i64 m] W fun e W' => e = .returned (.bool true) ∧ Below W.heap.size W W' := by
  obtain ⟨s, hs⟩ : ∃ s, Hid (Lib.itoa x = s) := ⟨_, ⟨rfl⟩⟩
  have ht := text_any W x hx
  rw [hs.out] at ht
  have hsl : s.length ≤ 21 := by rw [← hs.out]; exact itoa_len hx
  have hno : Hid (numOf s = some x) := ⟨by rw [← hs.out]; exact numOf_itoa hx⟩
  have hnx : Hid (numOf (s ++ [120]) = none) := ⟨by rw [← hs.out]; exact numOf_x x⟩
  have hn0 : Hid (numOf (48 :: s) = none) := ⟨by rw [← hs.out]; exact numOf_0 x⟩
  have happ1 : bt s ++ ({ data := #[120] } : ByteArray) = bt (s ++ [120]) := bt_app _ _
  have happ2 : ({ data := #[48] } : ByteArray) ++ bt s = bt (48 :: s) := bt_app _ _
  have hlim1 : ¬ 9223372036854775807 < (bt s).size + 1 := by rw [bt_size]; omega
  have hlim2 : ¬ 9223372036854775807 < 1 + (bt s).size := by rw [bt_size]; omega
  have hz0 : In64 (x + 0) := by rw [Int.add_zero]; exact hx
  have htl := bt_toList
  obtain ⟨t, hK⟩ : ∃ t, Hid (sumK (some x) n = t) := ⟨_, ⟨rfl⟩⟩
  have hE : Hid (sumE (some x) n = 0) := ⟨sumE_in hin⟩
  have hnt : Hid (numOf t = some (x + n)) := ⟨by rw [← hK.out, sumK_in hin]; exact numOf_itoa hin⟩
  have htn : t.length ≤ 21 := by rw [← hK.out, sumK_in hin]; exact itoa_len hin
  have hnm : (n == -9223372036854775808) = false := by simpa using hmin
  have hnm2 : ¬ n = -9223372036854775808 := hmin
  have hng : wrap64 (-n) = -n := wrp _ _ (by omega) (by have := hn.1; have := hn.2; constructor <;> omega)
  have hng2 : In64 (-n) := by have := hn.1; have := hn.2; constructor <;> omega
  have hxb : Hid (x + n + -n = x) := ⟨by omega⟩
  obtain ⟨cK, hcK⟩ : ∃ t, Hid (sumK (some (x + n)) m = t) := ⟨_, ⟨rfl⟩⟩
  obtain ⟨cE, hcE⟩ : ∃ t, Hid (sumE (some (x + n)) m = t) := ⟨_, ⟨rfl⟩⟩
  have q1 : decide (n > -1152921504606846976) = true := by simp; omega
  have q1' : decide (-1152921504606846976 < n) = true := by simp; omega
  have q2 : decide (n < 1152921504606846976) = true := by simp; omega
  have q3 : decide (m > -1152921504606846976) = false := by simp; omega
  have q3' : decide (-1152921504606846976 < m) = false := by simp; omega
  replace hin : Hid _ := ⟨hin⟩
  clear hin
  replace hmin : Hid _ := ⟨hmin⟩
  clear hmin
  clear hsm

  replace hD : Hid _ := ⟨hD⟩
  go_enter Tryd.func5, Tryd.ntmps5
  go_wp2_with fail
  refine ht.mono ?_
  rintro e w1 ⟨rfl, rfl⟩
  clear ht
  have c1 := sum_e hD.out s (by omega) n hn hno.out hK.out hE.out
  replace c1 : Hid _ := ⟨c1⟩
  go_wp2_with fail
  refine c1.out.mono ?_
  rintro e w2 ⟨rfl, hg2⟩
  have c2 := sum_e (hD.out.keep hg2) s (by omega) 0 (by constructor <;> decide) hno.out (t := s) (by rw [sumK_in hz0, Int.add_zero]; exact hs.out) (e := 0) (sumE_in hz0)
  replace c2 : Hid _ := ⟨c2⟩
  clear c1
  go_wp2_with fail
  refine c2.out.mono ?_
  rintro e w3 ⟨rfl, hg3⟩
  have hg3 := grown_none hg2 hg3
  have c3 := sum_e (hD.out.keep hg3) (s ++ [120]) (by simp; omega) n hn hnx.out (t := []) rfl (e := 92) rfl
  replace c3 : Hid _ := ⟨c3⟩
  clear c2 hg2
  go_wp2_with fail
  refine c3.out.mono ?_
  rintro e w4 ⟨rfl, hg4⟩
  have hg4 := grown_none hg3 hg4
  have c4 := sum_e (hD.out.keep hg4) (48 :: s) (by simp; omega) n hn hn0.out (t := []) rfl (e := 92) rfl
  replace c4 : Hid _ := ⟨c4⟩
  clear c3 hg3
  go_wp2_with fail
  refine c4.out.mono ?_
  rintro e w5 ⟨rfl, hg5⟩
  have hg5 := grown_none hg4 hg5
  clear c4 hg4
  have c5 := sum_e (hD.out.keep hg5) t (by omega) (-n) hng2 hnt.out (t := s) (by rw [sumK_in (by rw [hxb.out]; exact hx), hxb.out]; exact hs.out) (e := 0) (sumE_in (by rw [hxb.out]; exact hx))
  replace c5 : Hid _ := ⟨c5⟩
  go_wp2_with fail
  refine c5.out.mono ?_
  rintro e w6 ⟨rfl, hg6⟩
  have hg6 := grown_none hg5 hg6
  have c6 := sum_e (hD.out.keep hg6) t (by omega) m hm hnt.out hcK.out hcE.out
  replace c6 : Hid _ := ⟨c6⟩
  clear c5 hg5
  go_wp2_with fail
  refine c6.out.mono ?_
  rintro e w7 ⟨rfl, hg7⟩
  have hg7 := grown_none hg6 hg7
  clear c6 hg6
  have hal := alive_any (hD.out.keep hg7)
  replace hal : Hid _ := ⟨hal⟩
  go_wp2_with fail
  refine hal.out.mono ?_
  rintro e w9 ⟨rfl, hg9⟩
  have hg9 := below_of' (grown_none hg7 hg9)
  clear hal
  go_wp2
  go_ret
  exact ⟨rfl, hg9⟩

set_option maxRecDepth 100000 in
set_option maxHeartbeats 4000000 in
theorem sums_m2 (x n m : Int) (W : World) (hD : Dr W) (hx : In64 x) (hn : In64 n) (hm : In64 m) (hin : In64 (x + n)) (hmin : n ≠ -9223372036854775808) (hsm : (-1152921504606846976 < n ∧ n < 1152921504606846976) ∧ -1152921504606846976 < m ∧ 1152921504606846976 ≤ m) :
    Calls Tryd.prog 5 #[.int .i64 x, .int .i64 n, .int .i64 m] W fun e W' => e = .returned (.bool true) ∧ Below W.heap.size W W' := by
  obtain ⟨s, hs⟩ : ∃ s, Hid (Lib.itoa x = s) := ⟨_, ⟨rfl⟩⟩
  have ht := text_any W x hx
  rw [hs.out] at ht
  have hsl : s.length ≤ 21 := by rw [← hs.out]; exact itoa_len hx
  have hno : Hid (numOf s = some x) := ⟨by rw [← hs.out]; exact numOf_itoa hx⟩
  have hnx : Hid (numOf (s ++ [120]) = none) := ⟨by rw [← hs.out]; exact numOf_x x⟩
  have hn0 : Hid (numOf (48 :: s) = none) := ⟨by rw [← hs.out]; exact numOf_0 x⟩
  have happ1 : bt s ++ ({ data := #[120] } : ByteArray) = bt (s ++ [120]) := bt_app _ _
  have happ2 : ({ data := #[48] } : ByteArray) ++ bt s = bt (48 :: s) := bt_app _ _
  have hlim1 : ¬ 9223372036854775807 < (bt s).size + 1 := by rw [bt_size]; omega
  have hlim2 : ¬ 9223372036854775807 < 1 + (bt s).size := by rw [bt_size]; omega
  have hz0 : In64 (x + 0) := by rw [Int.add_zero]; exact hx
  have htl := bt_toList
  obtain ⟨t, hK⟩ : ∃ t, Hid (sumK (some x) n = t) := ⟨_, ⟨rfl⟩⟩
  have hE : Hid (sumE (some x) n = 0) := ⟨sumE_in hin⟩
  have hnt : Hid (numOf t = some (x + n)) := ⟨by rw [← hK.out, sumK_in hin]; exact numOf_itoa hin⟩
  have htn : t.length ≤ 21 := by rw [← hK.out, sumK_in hin]; exact itoa_len hin
  have hnm : (n == -9223372036854775808) = false := by simpa using hmin
  have hnm2 : ¬ n = -9223372036854775808 := hmin
  have hng : wrap64 (-n) = -n := wrp _ _ (by omega) (by have := hn.1; have := hn.2; constructor <;> omega)
  have hng2 : In64 (-n) := by have := hn.1; have := hn.2; constructor <;> omega
  have hxb : Hid (x + n + -n = x) := ⟨by omega⟩
  obtain ⟨cK, hcK⟩ : ∃ t, Hid (sumK (some (x + n)) m = t) := ⟨_, ⟨rfl⟩⟩
  obtain ⟨cE, hcE⟩ : ∃ t, Hid (sumE (some (x + n)) m = t) := ⟨_, ⟨rfl⟩⟩
  have q1 : decide (n > -1152921504606846976) = true := by simp; omega
  have q1' : decide (-1152921504606846976 < n) = true := by simp; omega
  have q2 : decide (n < 1152921504606846976) = true := by simp; omega
  have q3 : decide (m > -1152921504606846976) = true := by simp; omega
  have q3' : decide (-1152921504606846976 < m) = true := by simp; omega
  have q4 : decide (m < 1152921504606846976) = false := by simp; omega
  replace hin : Hid _ := ⟨hin⟩
  clear hin
  replace hmin : Hid _ := ⟨hmin⟩
  clear hmin
  clear hsm

  replace hD : Hid _ := ⟨hD⟩
  go_enter Tryd.func5, Tryd.ntmps5
  go_wp2_with fail
  refine ht.mono ?_
  rintro e w1 ⟨rfl, rfl⟩
  clear ht
  have c1 := sum_e hD.out s (by omega) n hn hno.out hK.out hE.out
  replace c1 : Hid _ := ⟨c1⟩
  go_wp2_with fail
  refine c1.out.mono ?_
  rintro e w2 ⟨rfl, hg2⟩
  have c2 := sum_e (hD.out.keep hg2) s (by omega) 0 (by constructor <;> decide) hno.out (t := s) (by rw [sumK_in hz0, Int.add_zero]; exact hs.out) (e := 0) (sumE_in hz0)
  replace c2 : Hid _ := ⟨c2⟩
  clear c1
  go_wp2_with fail
  refine c2.out.mono ?_
  rintro e w3 ⟨rfl, hg3⟩
  have hg3 := grown_none hg2 hg3
  have c3 := sum_e (hD.out.keep hg3) (s ++ [120]) (by simp; omega) n hn hnx.out (t := []) rfl (e := 92) rfl
  replace c3 : Hid _ := ⟨c3⟩
  clear c2 hg2
  go_wp2_with fail
  refine c3.out.mono ?_
  rintro e w4 ⟨rfl, hg4⟩
  have hg4 := grown_none hg3 hg4
  have c4 := sum_e (hD.out.keep hg4) (48 :: s) (by simp; omega) n hn hn0.out (t := []) rfl (e := 92) rfl
  replace c4 : Hid _ := ⟨c4⟩
  clear c3 hg3
  go_wp2_with fail
  refine c4.out.mono ?_
  rintro e w5 ⟨rfl, hg5⟩
  have hg5 := grown_none hg4 hg5
  clear c4 hg4
  have c5 := sum_e (hD.out.keep hg5) t (by omega) (-n) hng2 hnt.out (t := s) (by rw [sumK_in (by rw [hxb.out]; exact hx), hxb.out]; exact hs.out) (e := 0) (sumE_in (by rw [hxb.out]; exact hx))
  replace c5 : Hid _ := ⟨c5⟩
  go_wp2_with fail
  refine c5.out.mono ?_
  rintro e w6 ⟨rfl, hg6⟩
  have hg6 := grown_none hg5 hg6
  have c6 := sum_e (hD.out.keep hg6) t (by omega) m hm hnt.out hcK.out hcE.out
  replace c6 : Hid _ := ⟨c6⟩
  clear c5 hg5
  go_wp2_with fail
  refine c6.out.mono ?_
  rintro e w7 ⟨rfl, hg7⟩
  have hg7 := grown_none hg6 hg7
  clear c6 hg6
  have hal := alive_any (hD.out.keep hg7)
  replace hal : Hid _ := ⟨hal⟩
  go_wp2_with fail
  refine hal.out.mono ?_
  rintro e w9 ⟨rfl, hg9⟩
  have hg9 := below_of' (grown_none hg7 hg9)
  clear hal
  go_wp2
  go_ret
  exact ⟨rfl, hg9⟩

set_option maxRecDepth 100000 in
set_option maxHeartbeats 4000000 in
theorem sums_s1 (x n m : Int) (W : World) (hD : Dr W) (hx : In64 x) (hn : In64 n) (hm : In64 m) (hin : In64 (x + n)) (hmin : n ≠ -9223372036854775808) (hsm : (-1152921504606846976 < n ∧ n < 1152921504606846976) ∧ -1152921504606846976 < m ∧ m < 1152921504606846976) (hj : In64 (x + n + m)) :
    Calls Tryd.prog 5 #[.int .i64 x, .int .i64 n, .int .i64 m] W fun e W' => e = .returned (.bool true) ∧ Below W.heap.size W W' := by
  obtain ⟨s, hs⟩ : ∃ s, Hid (Lib.itoa x = s) := ⟨_, ⟨rfl⟩⟩
  have ht := text_any W x hx
  rw [hs.out] at ht
  have hsl : s.length ≤ 21 := by rw [← hs.out]; exact itoa_len hx
  have hno : Hid (numOf s = some x) := ⟨by rw [← hs.out]; exact numOf_itoa hx⟩
  have hnx : Hid (numOf (s ++ [120]) = none) := ⟨by rw [← hs.out]; exact numOf_x x⟩
  have hn0 : Hid (numOf (48 :: s) = none) := ⟨by rw [← hs.out]; exact numOf_0 x⟩
  have happ1 : bt s ++ ({ data := #[120] } : ByteArray) = bt (s ++ [120]) := bt_app _ _
  have happ2 : ({ data := #[48] } : ByteArray) ++ bt s = bt (48 :: s) := bt_app _ _
  have hlim1 : ¬ 9223372036854775807 < (bt s).size + 1 := by rw [bt_size]; omega
  have hlim2 : ¬ 9223372036854775807 < 1 + (bt s).size := by rw [bt_size]; omega
  have hz0 : In64 (x + 0) := by rw [Int.add_zero]; exact hx
  have htl := bt_toList
  obtain ⟨t, hK⟩ : ∃ t, Hid (sumK (some x) n = t) := ⟨_, ⟨rfl⟩⟩
  have hE : Hid (sumE (some x) n = 0) := ⟨sumE_in hin⟩
  have hnt : Hid (numOf t = some (x + n)) := ⟨by rw [← hK.out, sumK_in hin]; exact numOf_itoa hin⟩
  have htn : t.length ≤ 21 := by rw [← hK.out, sumK_in hin]; exact itoa_len hin
  have hnm : (n == -9223372036854775808) = false := by simpa using hmin
  have hnm2 : ¬ n = -9223372036854775808 := hmin
  have hng : wrap64 (-n) = -n := wrp _ _ (by omega) (by have := hn.1; have := hn.2; constructor <;> omega)
  have hng2 : In64 (-n) := by have := hn.1; have := hn.2; constructor <;> omega
  have hxb : Hid (x + n + -n = x) := ⟨by omega⟩
  obtain ⟨cK, hcK⟩ : ∃ t, Hid (sumK (some (x + n)) m = t) := ⟨_, ⟨rfl⟩⟩
  obtain ⟨cE, hcE⟩ : ∃ t, Hid (sumE (some (x + n)) m = t) := ⟨_, ⟨rfl⟩⟩
  have q1 : decide (n > -1152921504606846976) = true := by simp; omega
  have q2 : decide (n < 1152921504606846976) = true := by simp; omega
  have q3 : decide (m > -1152921504606846976) = true := by simp; omega
  have q4 : decide (m < 1152921504606846976) = true := by simp; omega
  have q1' : decide (-1152921504606846976 < n) = true := by simp; omega
  have q3' : decide (-1152921504606846976 < m) = true := by simp; omega
  obtain ⟨nm, hnmv⟩ : ∃ v, Hid (n + m = v) := ⟨_, ⟨rfl⟩⟩
  have hnmw : wrap64 (n + m) = nm := by rw [← hnmv.out]; exact wrp _ _ (by omega) (by constructor <;> omega)
  have hnmi : In64 nm := by rw [← hnmv.out]; constructor <;> omega
  have hass : Hid (x + n + m = x + nm) := ⟨by rw [← hnmv.out]; omega⟩
  have hin3 : In64 (x + nm) := by rw [← hass.out]; exact hj
  have hcE0 : cE = 0 := by rw [← hcE.out]; exact sumE_in hj
  have hcK0 : Hid (cK = Lib.itoa (x + nm)) := ⟨by rw [← hcK.out, sumK_in hj, hass.out]⟩
  have hdE : Hid (sumE (some x) nm = 0) := ⟨sumE_in hin3⟩
  have hdK : Hid (sumK (some x) nm = cK) := ⟨by rw [hcK0.out]; exact sumK_in hin3⟩
  subst hcE0
  clear hin3 hj
  replace hin : Hid _ := ⟨hin⟩
  clear hin
  replace hmin : Hid _ := ⟨hmin⟩
  clear hmin
  clear hsm

  replace hD : Hid _ := ⟨hD⟩
  go_enter Tryd.func5, Tryd.ntmps5
  go_wp2_with fail
  refine ht.mono ?_
  rintro e w1 ⟨rfl, rfl⟩
  clear ht
  have c1 := sum_e hD.out s (by omega) n hn hno.out hK.out hE.out
  replace c1 : Hid _ := ⟨c1⟩
  go_wp2_with fail
  refine c1.out.mono ?_
  rintro e w2 ⟨rfl, hg2⟩
  have c2 := sum_e (hD.out.keep hg2) s (by omega) 0 (by constructor <;> decide) hno.out (t := s) (by rw [sumK_in hz0, Int.add_zero]; exact hs.out) (e := 0) (sumE_in hz0)
  replace c2 : Hid _ := ⟨c2⟩
  clear c1
  go_wp2_with fail
  refine c2.out.mono ?_
  rintro e w3 ⟨rfl, hg3⟩
  have hg3 := grown_none hg2 hg3
  have c3 := sum_e (hD.out.keep hg3) (s ++ [120]) (by simp; omega) n hn hnx.out (t := []) rfl (e := 92) rfl
  replace c3 : Hid _ := ⟨c3⟩
  clear c2 hg2
  go_wp2_with fail
  refine c3.out.mono ?_
  rintro e w4 ⟨rfl, hg4⟩
  have hg4 := grown_none hg3 hg4
  have c4 := sum_e (hD.out.keep hg4) (48 :: s) (by simp; omega) n hn hn0.out (t := []) rfl (e := 92) rfl
  replace c4 : Hid _ := ⟨c4⟩
  clear c3 hg3
  go_wp2_with fail
  refine c4.out.mono ?_
  rintro e w5 ⟨rfl, hg5⟩
  have hg5 := grown_none hg4 hg5
  clear c4 hg4
  have c5 := sum_e (hD.out.keep hg5) t (by omega) (-n) hng2 hnt.out (t := s) (by rw [sumK_in (by rw [hxb.out]; exact hx), hxb.out]; exact hs.out) (e := 0) (sumE_in (by rw [hxb.out]; exact hx))
  replace c5 : Hid _ := ⟨c5⟩
  go_wp2_with fail
  refine c5.out.mono ?_
  rintro e w6 ⟨rfl, hg6⟩
  have hg6 := grown_none hg5 hg6
  have c6 := sum_e (hD.out.keep hg6) t (by omega) m hm hnt.out hcK.out hcE.out
  replace c6 : Hid _ := ⟨c6⟩
  clear c5 hg5
  go_wp2_with fail
  refine c6.out.mono ?_
  rintro e w7 ⟨rfl, hg7⟩
  have hg7 := grown_none hg6 hg7
  clear c6 hg6
  have c7 := sum_e (hD.out.keep hg7) s (by omega) nm hnmi hno.out hdK.out hdE.out
  replace c7 : Hid _ := ⟨c7⟩
  go_wp2_with fail
  refine c7.out.mono ?_
  rintro e w8 ⟨rfl, hg8⟩
  have hg8 := grown_none hg7 hg8
  clear c7 hg7
  have hal := alive_any (hD.out.keep hg8)
  replace hal : Hid _ := ⟨hal⟩
  go_wp2_with fail
  refine hal.out.mono ?_
  rintro e w9 ⟨rfl, hg9⟩
  have hg9 := below_of' (grown_none hg8 hg9)
  clear hal
  go_wp2
  go_ret
  exact ⟨rfl, hg9⟩

set_option maxRecDepth 100000 in
set_option maxHeartbeats 4000000 in
theorem sums_s2 (x n m : Int) (W : World) (hD : Dr W) (hx : In64 x) (hn : In64 n) (hm : In64 m) (hin : In64 (x + n)) (hmin : n ≠ -9223372036854775808) (hsm : (-1152921504606846976 < n ∧ n < 1152921504606846976) ∧ -1152921504606846976 < m ∧ m < 1152921504606846976) (hj : ¬ In64 (x + n + m)) :
    Calls Tryd.prog 5 #[.int .i64 x, .int .i64 n, .int .i64 m] W fun e W' => e = .returned (.bool true) ∧ Below W.heap.size W W' := by
  obtain ⟨s, hs⟩ : ∃ s, Hid (Lib.itoa x = s) := ⟨_, ⟨rfl⟩⟩
  have ht := text_any W x hx
  rw [hs.out] at ht
  have hsl : s.length ≤ 21 := by rw [← hs.out]; exact itoa_len hx
  have hno : Hid (numOf s = some x) := ⟨by rw [← hs.out]; exact numOf_itoa hx⟩
  have hnx : Hid (numOf (s ++ [120]) = none) := ⟨by rw [← hs.out]; exact numOf_x x⟩
  have hn0 : Hid (numOf (48 :: s) = none) := ⟨by rw [← hs.out]; exact numOf_0 x⟩
  have happ1 : bt s ++ ({ data := #[120] } : ByteArray) = bt (s ++ [120]) := bt_app _ _
  have happ2 : ({ data := #[48] } : ByteArray) ++ bt s = bt (48 :: s) := bt_app _ _
  have hlim1 : ¬ 9223372036854775807 < (bt s).size + 1 := by rw [bt_size]; omega
  have hlim2 : ¬ 9223372036854775807 < 1 + (bt s).size := by rw [bt_size]; omega
  have hz0 : In64 (x + 0) := by rw [Int.add_zero]; exact hx
  have htl := bt_toList
  obtain ⟨t, hK⟩ : ∃ t, Hid (sumK (some x) n = t) := ⟨_, ⟨rfl⟩⟩
  have hE : Hid (sumE (some x) n = 0) := ⟨sumE_in hin⟩
  have hnt : Hid (numOf t = some (x + n)) := ⟨by rw [← hK.out, sumK_in hin]; exact numOf_itoa hin⟩
  have htn : t.length ≤ 21 := by rw [← hK.out, sumK_in hin]; exact itoa_len hin
  have hnm : (n == -9223372036854775808) = false := by simpa using hmin
  have hnm2 : ¬ n = -9223372036854775808 := hmin
  have hng : wrap64 (-n) = -n := wrp _ _ (by omega) (by have := hn.1; have := hn.2; constructor <;> omega)
  have hng2 : In64 (-n) := by have := hn.1; have := hn.2; constructor <;> omega
  have hxb : Hid (x + n + -n = x) := ⟨by omega⟩
  obtain ⟨cK, hcK⟩ : ∃ t, Hid (sumK (some (x + n)) m = t) := ⟨_, ⟨rfl⟩⟩
  obtain ⟨cE, hcE⟩ : ∃ t, Hid (sumE (some (x + n)) m = t) := ⟨_, ⟨rfl⟩⟩
  have q1 : decide (n > -1152921504606846976) = true := by simp; omega
  have q2 : decide (n < 1152921504606846976) = true := by simp; omega
  have q3 : decide (m > -1152921504606846976) = true := by simp; omega
  have q4 : decide (m < 1152921504606846976) = true := by simp; omega
  have q1' : decide (-1152921504606846976 < n) = true := by simp; omega
  have q3' : decide (-1152921504606846976 < m) = true := by simp; omega
  obtain ⟨nm, hnmv⟩ : ∃ v, Hid (n + m = v) := ⟨_, ⟨rfl⟩⟩
  have hnmw : wrap64 (n + m) = nm := by rw [← hnmv.out]; exact wrp _ _ (by omega) (by constructor <;> omega)
  have hnmi : In64 nm := by rw [← hnmv.out]; constructor <;> omega
  have hcE0 : cE = 93 := by rw [← hcE.out]; exact sumE_out hj
  obtain ⟨dK, hdK⟩ : ∃ t, Hid (sumK (some x) nm = t) := ⟨_, ⟨rfl⟩⟩
  obtain ⟨dE, hdE⟩ : ∃ t, Hid (sumE (some x) nm = t) := ⟨_, ⟨rfl⟩⟩
  subst hcE0
  clear hj
  replace hin : Hid _ := ⟨hin⟩
  clear hin
  replace hmin : Hid _ := ⟨hmin⟩
  clear hmin
  clear hsm

  replace hD : Hid _ := ⟨hD⟩
  go_enter Tryd.func5, Tryd.ntmps5
  go_wp2_with fail
  refine ht.mono ?_
  rintro e w1 ⟨rfl, rfl⟩
  clear ht
  have c1 := sum_e hD.out s (by omega) n hn hno.out hK.out hE.out
  replace c1 : Hid _ := ⟨c1⟩
  go_wp2_with fail
  refine c1.out.mono ?_
  rintro e w2 ⟨rfl, hg2⟩
  have c2 := sum_e (hD.out.keep hg2) s (by omega) 0 (by constructor <;> decide) hno.out (t := s) (by rw [sumK_in hz0, Int.add_zero]; exact hs.out) (e := 0) (sumE_in hz0)
  replace c2 : Hid _ := ⟨c2⟩
  clear c1
  go_wp2_with fail
  refine c2.out.mono ?_
  rintro e w3 ⟨rfl, hg3⟩
  have hg3 := grown_none hg2 hg3
  have c3 := sum_e (hD.out.keep hg3) (s ++ [120]) (by simp; omega) n hn hnx.out (t := []) rfl (e := 92) rfl
  replace c3 : Hid _ := ⟨c3⟩
  clear c2 hg2
  go_wp2_with fail
  refine c3.out.mono ?_
  rintro e w4 ⟨rfl, hg4⟩
  have hg4 := grown_none hg3 hg4
  have c4 := sum_e (hD.out.keep hg4) (48 :: s) (by simp; omega) n hn hn0.out (t := []) rfl (e := 92) rfl
  replace c4 : Hid _ := ⟨c4⟩
  clear c3 hg3
  go_wp2_with fail
  refine c4.out.mono ?_
  rintro e w5 ⟨rfl, hg5⟩
  have hg5 := grown_none hg4 hg5
  clear c4 hg4
  have c5 := sum_e (hD.out.keep hg5) t (by omega) (-n) hng2 hnt.out (t := s) (by rw [sumK_in (by rw [hxb.out]; exact hx), hxb.out]; exact hs.out) (e := 0) (sumE_in (by rw [hxb.out]; exact hx))
  replace c5 : Hid _ := ⟨c5⟩
  go_wp2_with fail
  refine c5.out.mono ?_
  rintro e w6 ⟨rfl, hg6⟩
  have hg6 := grown_none hg5 hg6
  have c6 := sum_e (hD.out.keep hg6) t (by omega) m hm hnt.out hcK.out hcE.out
  replace c6 : Hid _ := ⟨c6⟩
  clear c5 hg5
  go_wp2_with fail
  refine c6.out.mono ?_
  rintro e w7 ⟨rfl, hg7⟩
  have hg7 := grown_none hg6 hg7
  clear c6 hg6
  have c7 := sum_e (hD.out.keep hg7) s (by omega) nm hnmi hno.out hdK.out hdE.out
  replace c7 : Hid _ := ⟨c7⟩
  go_wp2_with fail
  refine c7.out.mono ?_
  rintro e w8 ⟨rfl, hg8⟩
  have hg8 := grown_none hg7 hg8
  clear c7 hg7
  have hal := alive_any (hD.out.keep hg8)
  replace hal : Hid _ := ⟨hal⟩
  go_wp2_with fail
  refine hal.out.mono ?_
  rintro e w9 ⟨rfl, hg9⟩
  have hg9 := below_of' (grown_none hg8 hg9)
  clear hal
  go_wp2
  go_ret
  exact ⟨rfl, hg9⟩

theorem sums_walk (x n m : Int) (W : World) (hD : Dr W) (hx : In64 x) (hn : In64 n) (hm : In64 m) :
    Calls Tryd.prog 5 #[.int .i64 x, .int .i64 n, .int .i64 m] W fun e W' => e = .returned (.bool true) ∧ Below W.heap.size W W' := by
  by_cases hin : In64 (x + n)
  · by_cases hmin : n = -9223372036854775808
    · exact sums_b x n m W hD hx hn hm hin hmin
    · by_cases h1 : n ≤ -1152921504606846976
      · exact sums_n1 x n m W hD hx hn hm hin hmin h1
      · by_cases h2 : n < 1152921504606846976
        · by_cases h3 : m ≤ -1152921504606846976
          · exact sums_m1 x n m W hD hx hn hm hin hmin ⟨⟨by omega, h2⟩, h3⟩
          · by_cases h4 : m < 1152921504606846976
            · by_cases hj : In64 (x + n + m)
              · exact sums_s1 x n m W hD hx hn hm hin hmin ⟨⟨by omega, h2⟩, by omega, h4⟩ hj
              · exact sums_s2 x n m W hD hx hn hm hin hmin ⟨⟨by omega, h2⟩, by omega, h4⟩ hj
            · exact sums_m2 x n m W hD hx hn hm hin hmin ⟨⟨by omega, h2⟩, by omega, by omega⟩
        · exact sums_n2 x n m W hD hx hn hm hin hmin ⟨by omega, by omega⟩
  · exact sums_a x n m W hD hx hn hm hin
end Go.Proofs.YtmahpceokpajgaaDoor
