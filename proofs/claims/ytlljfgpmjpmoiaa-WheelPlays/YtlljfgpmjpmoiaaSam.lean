/- same of the law's; stands. -/
import Derived.Test.YtlljfgpmjpmoiaaRad
namespace Go.Proofs.Ytlljfgpmjpmoiaa
open Go.RowKit Go.IntWalk Go.Maps Go.Shelf
set_option linter.unusedVariables false
set_option maxRecDepth 100000 in
set_option maxHeartbeats 4000000 in
/-- same, of a list and itself. -/
theorem same_any {w : World} {a a2 : Option Addr} {cap cap2 : Nat} {L : List E} (h1 : Rw 52 w (.slice a L.length cap) L) (h2 : Lc w (.slice a2 L.length cap2) L) (hl : L.length ≤ 100000) :
    Calls Try.prog 15 #[.slice a L.length cap, .slice a2 L.length cap2] w fun r w' => r = .returned (.bool true) ∧ w.grownBy w' none := by
  go_enter Try.func15, Try.ntmps15
  go_wp2_with fail
  go_loopw [5] (fun i wr => ∃ j : Nat, j ≤ L.length ∧ i = .int .i64 j ∧ Hid (w.grownBy wr none))
    (fun i _ => L.length - (intOf i).toNat)
  case atStart => exact ⟨0, by omega, rfl, ⟨grown_refl w⟩⟩
  case round =>
    obtain ⟨j, hj, rfl, hR⟩ := hrel
    by_cases hlt : j < L.length
    · have hd : decide ((j : Int) < L.length) = true := by simp; omega
      obtain ⟨x, hx⟩ := some_at hlt
      obtain ⟨g, rfl, _, _, k0, k1, _⟩ := h1.at hx
      obtain ⟨b, off, rfl, hbl, m0, m1⟩ := h2.at hx
      have hq1 : (x.n.toList != x.n.toList) = false := by simp
      have hq2 : (x.at_ != x.at_) = false := by simp
      haveI := lat_nonempty wr
      have kc0 := lat_cell (grown_cell hR.out k0)
      have kc1 := lat_cell (grown_cell hR.out k1)
      have kc2 := lat_cell (grown_cell hR.out m0)
      have kc3 := lat_cell (grown_cell hR.out m1)
      replace hx : Hid _ := ⟨hx⟩
      clear k0 k1 m0 m1
      go_wp2_with fail
      refine wp_region_lat (by kernel_rfl) (by kernel_rfl) ?_
      repeat (go_big_quiet_step (fail))
      refine wpQuiet_nil ?_
      intro _ hw'
      obtain ⟨p, hw''⟩ := hw'
      subst hw''
      have hR2 : Hid (w.grownBy p.W none) := ⟨grown_none hR.out p.h⟩
      clear kc0 kc1 kc2 kc3
      go_wp2_with fail
      go_roundw
      case rel => exact ⟨j + 1, by omega, by go_num, hR2⟩
      case measure => simp [intOf]; omega
    · have hd : decide ((j : Int) < L.length) = false := by simp; omega
      go_wp2_with fail
      go_ret
      exact ⟨rfl, hR.out⟩
end Go.Proofs.Ytlljfgpmjpmoiaa
