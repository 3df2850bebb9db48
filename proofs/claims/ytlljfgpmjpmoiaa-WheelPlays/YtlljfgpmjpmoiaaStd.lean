/- stands of the law's. -/
import Derived.Test.YtlljfgpmjpmoiaaRsf
import Derived.Test.YtlljfgpmjpmoiaaSam
namespace Go.Proofs.Ytlljfgpmjpmoiaa
open Go.RowKit Go.IntWalk Go.Maps Go.Shelf
set_option linter.unusedVariables false
theorem slot_d {W w : World} {mb wb : Nat} {nw : Int} {L : List E} {l : List Res} (h : Dw W w mb nw L l) (hx : Res.q wb nw L ∈ l) {k q : Nat} (hk : k < 4) (hq : q < 16) {M : List E} (hM : Hid (atP nw L (16 * k + q) = M)) :
    Calls Try.prog 22 #[.pointer (some ⟨wb, 0, none⟩), .int .i64 k, .int .i64 q] w fun r w' => ∃ a cap, r = .returned (.slice a M.length cap) ∧ Rw 52 w' (.slice a M.length cap) M ∧ w.grownBy w' none := by
  obtain ⟨v, rl, h1, h2⟩ := h
  refine (slot_m h2 (by simp [hx]) hk hq hM).mono ?_
  rintro r w1 ⟨a, cap, rfl, hr, hg⟩
  exact ⟨a, cap, rfl, hr.r, hg⟩
theorem far_d {W w : World} {mb wb : Nat} {nw : Int} {L : List E} {l : List Res} (h : Dw W w mb nw L l) (hx : Res.q wb nw L ∈ l) {M : List E} (hM : Hid (atP nw L 64 = M)) :
    Calls Try.prog 25 #[.pointer (some ⟨wb, 0, none⟩)] w fun r w' => ∃ a cap, r = .returned (.slice a M.length cap) ∧ Rw 52 w' (.slice a M.length cap) M ∧ w.grownBy w' none := by
  obtain ⟨v, rl, h1, h2⟩ := h
  refine (far_m h2 (by simp [hx]) hM).mono ?_
  rintro r w1 ⟨a, cap, rfl, hr, hg⟩
  exact ⟨a, cap, rfl, hr.r, hg⟩
theorem Dw.mq {W w : World} {mb wb : Nat} {nw : Int} {L : List E} {l : List Res} (h : Dw W w mb nw L l) (hx : Res.q wb nw L ∈ l) : Srt L ∧ L.length ≤ 100000 ∧ (∀ e ∈ L, nw < e.at_) ∧ (∀ e ∈ L, e.ok) ∧ 0 ≤ nw ∧ nw < 18446744073709551616 := by
  obtain ⟨v, rl, h1, h2⟩ := h
  exact h2.mq (wb := wb) (by simp [hx])
theorem rslot_d {W w : World} {mb wb : Nat} {nw : Int} {L : List E} {l : List Res} (h : Dw W w mb nw L l) (hx : Res.q wb nw L ∈ l) {k q : Nat} (hk : k < 4) (hq : q < 16) {M : List E} (hM : Hid (atP nw L (16 * k + q) = M)) :
    Calls Try.prog 38 #[.pointer (some ⟨mb, 0, none⟩), .int .i64 k, .int .i64 q] w fun r w' => ∃ a cap, r = .returned (.slice a M.length cap) ∧ Lc w' (.slice a M.length cap) M ∧ w.grownBy w' none := by
  obtain ⟨hs, hl, hab, hok, hnw⟩ := h.mq hx
  obtain ⟨a, cap, hLc, c0, c1, fz⟩ := h.cells
  refine (rslot_any hLc c0 c1 hab hok hnw hl hk hq hM).mono ?_
  rintro r w1 ⟨a, cap, rfl, hr, hg, _⟩
  exact ⟨a, cap, rfl, Lc.of_row hr, hg⟩
theorem rfar_d {W w : World} {mb wb : Nat} {nw : Int} {L : List E} {l : List Res} (h : Dw W w mb nw L l) (hx : Res.q wb nw L ∈ l) {M : List E} (hM : Hid (atP nw L 64 = M)) :
    Calls Try.prog 38 #[.pointer (some ⟨mb, 0, none⟩), .int .i64 4, .int .i64 0] w fun r w' => ∃ a cap, r = .returned (.slice a M.length cap) ∧ Lc w' (.slice a M.length cap) M ∧ w.grownBy w' none := by
  obtain ⟨hs, hl, hab, hok, hnw⟩ := h.mq hx
  obtain ⟨a, cap, hLc, c0, c1, fz⟩ := h.cells
  refine (rfar_any hLc c0 c1 hab hok hnw hl hM).mono ?_
  rintro r w1 ⟨a, cap, rfl, hr, hg, _⟩
  exact ⟨a, cap, rfl, Lc.of_row hr, hg⟩
set_option maxRecDepth 100000 in
set_option maxHeartbeats 4000000 in
/-- stands, of the same timers. -/
theorem stands_d {W w : World} {mb wb : Nat} {nw : Int} {L : List E} {l : List Res} (h : Dw W w mb nw L l) (hx : Res.q wb nw L ∈ l) :
    Calls Try.prog 19 #[.pointer (some ⟨wb, 0, none⟩), .pointer (some ⟨mb, 0, none⟩)] w fun r w' => r = .returned (.bool true) ∧ w.grownBy w' none := by
  obtain ⟨-, hl, -⟩ := h.mq hx
  replace h : Hid _ := ⟨h⟩
  replace hx : Hid _ := ⟨hx⟩
  go_enter Try.func19, Try.ntmps19
  go_wp2_with fail
  go_loopw [5] (fun i wr => ∃ p : Nat, p ≤ 4 ∧ i = .int .i64 p ∧ Hid (w.grownBy wr none))
    (fun i _ => 4 - (intOf i).toNat)
  case atStart => exact ⟨0, by omega, rfl, ⟨grown_refl w⟩⟩
  case round =>
    obtain ⟨p, hp, rfl, hR⟩ := hrel
    by_cases hp4 : p < 4
    · have hdp : decide ((p : Int) < 4) = true := by simp; omega
      go_wp2_with fail
      go_loopw [6] (fun i wr => ∃ q : Nat, q ≤ 16 ∧ i = .int .i64 q ∧ Hid (w.grownBy wr none))
        (fun i _ => 16 - (intOf i).toNat)
      case atStart => exact ⟨0, by omega, rfl, hR⟩
      case round =>
        clear hR
        obtain ⟨q, hq, rfl, hR⟩ := hrel
        by_cases hq16 : q < 16
        · have hdq : decide ((q : Int) < 16) = true := by simp; omega
          obtain ⟨M, hM⟩ : ∃ M, Hid (atP nw L (16 * p + q) = M) := ⟨_, ⟨rfl⟩⟩
          have hMl : M.length ≤ 100000 := by rw [← hM.out]; have := atP_len nw L (16 * p + q); omega
          go_wp2_with fail
          refine (slot_d (h.out.grown hR.out) hx.out hp4 hq16 hM).mono ?_
          rintro r w1 ⟨a1, k1, rfl, hr1, hg1⟩
          replace hr1 : Hid _ := ⟨hr1⟩
          replace hg1 : Hid _ := ⟨grown_none hR.out hg1⟩
          clear hR
          go_wp2_with fail
          refine (rslot_d (h.out.grown hg1.out) hx.out hp4 hq16 hM).mono ?_
          rintro r w2 ⟨a2, k2, rfl, hr2, hg2⟩
          have hr3 : Hid _ := ⟨World.ownsRow.kept hr1.out hg2 (Classical.em _)⟩
          replace hr2 : Hid _ := ⟨hr2⟩
          replace hg2 : Hid _ := ⟨grown_none hg1.out hg2⟩
          clear hr1 hg1
          go_wp2_with fail
          refine (same_any hr3.out hr2.out hMl).mono ?_
          rintro r w3 ⟨rfl, hg3⟩
          replace hg3 : Hid _ := ⟨grown_none hg2.out hg3⟩
          clear hr2 hr3 hg2
          go_wp2_with fail
          go_roundw
          case rel => exact ⟨q + 1, by omega, by go_num, hg3⟩
          case measure => simp [intOf]; omega
        · have hdq : decide ((q : Int) < 16) = false := by simp; omega
          have hqe : q = 16 := by omega
          subst hqe
          go_wp2_with fail
          go_roundw
          case rel => exact ⟨p + 1, by omega, by go_num, hR⟩
          case measure => simp [intOf]; omega
    · have hdp : decide ((p : Int) < 4) = false := by simp; omega
      have hpe : p = 4 := by omega
      subst hpe
      obtain ⟨M, hM⟩ : ∃ M, Hid (atP nw L 64 = M) := ⟨_, ⟨rfl⟩⟩
      have hMl : M.length ≤ 100000 := by rw [← hM.out]; have := atP_len nw L 64; omega
      go_wp2_with fail
      refine (far_d (h.out.grown hR.out) hx.out hM).mono ?_
      rintro r w1 ⟨a1, k1, rfl, hr1, hg1⟩
      replace hr1 : Hid _ := ⟨hr1⟩
      replace hg1 : Hid _ := ⟨grown_none hR.out hg1⟩
      clear hR
      go_wp2_with fail
      refine (rfar_d (h.out.grown hg1.out) hx.out hM).mono ?_
      rintro r w2 ⟨a2, k2, rfl, hr2, hg2⟩
      have hr3 : Hid _ := ⟨World.ownsRow.kept hr1.out hg2 (Classical.em _)⟩
      replace hr2 : Hid _ := ⟨hr2⟩
      replace hg2 : Hid _ := ⟨grown_none hg1.out hg2⟩
      clear hr1 hg1
      go_wp2_with fail
      refine (same_any hr3.out hr2.out hMl).mono ?_
      rintro r w3 ⟨rfl, hg3⟩
      replace hg3 : Hid _ := ⟨grown_none hg2.out hg3⟩
      clear hr2 hr3 hg2
      go_wp2_with fail
      go_ret
      exact ⟨rfl, hg3.out⟩
end Go.Proofs.Ytlljfgpmjpmoiaa
