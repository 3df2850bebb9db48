/- insertionSort of bytes. -/
import Derived.Test.YtpcdmjalfabbmaaSor
namespace Go.Proofs.Ytpcdmjalfabbmaa
open Go.RowKit Go.Shelf Go.IntWalk Go.Maps
set_option linter.unusedVariables false
theorem u8_dec (x y : UInt8) : (decide (x < y) = true ↔ x.toNat < y.toNat) := by
  rw [decide_eq_true_iff, UInt8.lt_iff_toNat_lt]
theorem Br.keep {w w' : World} {base : Nat} {v : Value} {es : List UInt8} (h : Br w base v es) {row : Option Nat} (hg : w.grownBy w' row) (hne : v.ownBlock = none ∨ v.ownBlock ≠ row) : Br w' base v es := World.ownsRow.kept (w := w) h hg hne
theorem Br.keep0 {w w' : World} {base : Nat} {v : Value} {es : List UInt8} (h : Br w base v es) (hg : w.grownBy w' none) : Br w' base v es := h.keep hg (by cases v.ownBlock <;> simp)
theorem lat_less {w : World} (p : Lat w) (x y : UInt8) {d : Bool} (hd : decide (x < y) = d) : Calls Try.prog 62 #[u8 x, u8 y] p.W fun e w' => e = .returned (.bool d) ∧ ∃ q : Lat w, w' = q.W :=
  (less_any p.W x y).mono (by rintro r w' ⟨rfl, rfl⟩; exact ⟨by rw [hd], p, rfl⟩)
set_option maxRecDepth 100000 in
set_option maxHeartbeats 4000000 in
theorem isort_any (w : World) {base : Nat} {v : Value} {es : List UInt8} (h : Br w base v es) (a b : Nat) (hab : a ≤ b) (hb : b ≤ es.length) (hl : es.length ≤ 256) :
    Calls Try.prog 56 #[v, .int .i64 a, .int .i64 b] w fun r w' => r = .returned (.tuple #[]) ∧ ∃ es', Br w' base v es' ∧ Pm a b es es' ∧ Sd es' a b ∧ w.grownBy w' v.ownBlock := by
  obtain ⟨ad, cap, rfl⟩ := h.shape
  go_enter Try.func56, Try.ntmps56
  go_wp2_with fail
  go_loopw [6] (fun v wr => ∃ (i : Nat) (fs : List UInt8), v = .int .i64 i ∧ a < i ∧ (i ≤ b ∨ i = a + 1) ∧ Hid (Br wr base (.slice ad es.length cap) fs ∧ Pm a b es fs ∧ Sd fs a i ∧ w.grownBy wr (Value.slice ad es.length cap).ownBlock))
    (fun v _ => 300 - (intOf v).toNat)
  case atStart => exact ⟨a + 1, es, by simp, by omega, .inr rfl, ⟨h, Pm.refl _ _ _, fun p q x y h1 h2 h3 => by omega, (grown_refl w).but _⟩⟩
  case round =>
    obtain ⟨i, fs, rfl, hai, hib, ⟨hB, hP, hS, hG⟩⟩ := hrel
    have hfl := hP.len
    by_cases hlt : i < b
    · have hd : decide ((i : Int) < b) = true := by simp; omega
      replace hB : Hid _ := ⟨hB⟩
      replace hP : Hid _ := ⟨hP⟩
      replace hS : Hid _ := ⟨hS⟩
      replace hG : Hid _ := ⟨hG⟩
      go_wp2_with fail
      go_loopw [7] (fun v wr => ∃ (j : Nat) (fs : List UInt8), v = .int .i64 j ∧ a ≤ j ∧ j ≤ i ∧ Hid (Br wr base (.slice ad es.length cap) fs ∧ Pm a b es fs ∧ Sj fs a (i + 1) j ∧ w.grownBy wr (Value.slice ad es.length cap).ownBlock))
        (fun v _ => (intOf v).toNat)
      case atStart => exact ⟨i, fs, rfl, by omega, by omega, ⟨hB.out, hP.out, hS.out.start, hG.out⟩⟩
      case round =>
        obtain ⟨j, gs, rfl, haj, hji, ⟨hB1, hP1, hS1, hG1⟩⟩ := hrel
        have hgl := hP1.len
        haveI := lat_nonempty wr
        by_cases hj : j = a
        · subst hj
          have hq := hS1.done0
          replace hB1 : Hid _ := ⟨hB1⟩
          replace hP1 : Hid _ := ⟨hP1⟩
          replace hS1 : Hid _ := ⟨hS1⟩
          replace hG1 : Hid _ := ⟨hG1⟩
          replace hq : Hid _ := ⟨hq⟩
          have hd1 : decide ((j : Int) > j) = false := by simp
          go_wp2_with fail
          refine wp_region_lat (by kernel_rfl) (by kernel_rfl) ?_
          repeat (go_big_quiet_step (fail))
          refine wpQuiet_nil ?_
          intro _ hw'
          obtain ⟨p, hw''⟩ := hw'
          subst hw''
          have hp := p.h
          go_wp2_with fail
          exact ⟨⟨i + 1, gs, by go_num, by omega, .inl (by omega), ⟨hB1.out.keep0 hp, hP1.out, hq.out, grown_add hG1.out hp⟩⟩, by simp [intOf]; omega⟩
        · obtain ⟨x, hx⟩ := some8 (es := gs) (k := j - 1) (by omega)
          obtain ⟨y, hy⟩ := some8 (es := gs) (k := j) (by omega)
          obtain ⟨g, rfl, hgl1, -, k1, f1⟩ := hB1.at hx
          obtain ⟨_, e1, -, -, k2, -⟩ := hB1.at hy
          cases e1
          have hd2 : (a : Int) < j := by omega
          obtain ⟨i1, hi1⟩ : ∃ i1, i1 = j - 1 := ⟨_, rfl⟩
          have hj1 : ((j : Int) - 1) = (i1 : Nat) := by omega
          have hl0 : i1 < es.length := by omega
          have hl1 : j < es.length := by omega
          have hjb : j ≤ 256 := by omega
          rw [← hi1] at k1 hx
          replace hi1 : Hid _ := ⟨hi1⟩
          have kk1 := lat_cell k1
          have kk2 := lat_cell k2
          by_cases hyx : y < x
          · have hq := hS1.step (x := x) (y := y) (by omega) hji (by rw [← hi1.out]; exact hx) hy (by rw [UInt8.lt_iff_toNat_lt] at hyx; omega)
            have hdx : decide (y < x) = true := by simpa using hyx
            have ka := fun p : Lat wr => lat_less p y x hdx
            replace hB1 : Hid _ := ⟨hB1⟩
            replace hP1 : Hid _ := ⟨hP1⟩
            replace hS1 : Hid _ := ⟨hS1⟩
            replace hG1 : Hid _ := ⟨hG1⟩
            replace hq : Hid _ := ⟨hq⟩
            go_wp2_with fail
            refine wp_region_lat (by kernel_rfl) (by kernel_rfl) ?_
            repeat (go_big_quiet_step (fail))
            go_big_quiet_step ((go_at_call 62; exact ka _))
            repeat (go_big_quiet_step (fail))
            refine wpQuiet_nil ?_
            intro _ hw'
            obtain ⟨p, hw''⟩ := hw'
            subst hw''
            have hp := p.h
            have hBp : Hid _ := ⟨hB1.out.keep0 hp⟩
            have hGp : Hid _ := ⟨grown_add hG1.out hp⟩
            generalize p.W = w5 at *
            have k1 := grown_cell hp k1
            have k2 := grown_cell hp k2
            have f1 : ∀ k, w5.frozen? ⟨g, k, none⟩ = false := fun k => (grown_frozen (a := ⟨g, k, none⟩) hp hgl1).trans (f1 k)
            clear kk1 kk2 hp
            go_wp2_with fail
            go_region
            go_wp2_with fail
            have hlg : i1 < gs.length := (List.getElem?_eq_some_iff.1 hx).1
            have hlg2 : j < gs.length := (List.getElem?_eq_some_iff.1 hy).1
            refine ⟨⟨i1, sw gs j i1 y x, rfl, by have := hi1.out; omega, by omega, ⟨?_, ?_, ?_, ?_⟩⟩, by simp [intOf]; omega⟩
            · exact (Br.set (Br.set hBp.out j x hlg2) i1 y (by simpa using hlg)).keep0 (grown_drew _)
            · exact hP1.out.trans (sw_pm hy hx (by omega) (by omega) (by have := hi1.out; omega) (by omega))
            · have := hq.out
              rw [← hi1.out] at this
              exact this
            · exact (hGp.out.trans ((grown_setCell _ ⟨g, j, none⟩ _).trans (grown_setCell _ ⟨g, i1, none⟩ _))).trans ((grown_drew _).but _)
          · have hq := hS1.done (x := x) (y := y) (by omega) hji (by rw [← hi1.out]; exact hx) hy (by rw [UInt8.lt_iff_toNat_lt] at hyx; omega)
            have hdx : decide (y < x) = false := by simpa using hyx
            have ka := fun p : Lat wr => lat_less p y x hdx
            replace hB1 : Hid _ := ⟨hB1⟩
            replace hP1 : Hid _ := ⟨hP1⟩
            replace hS1 : Hid _ := ⟨hS1⟩
            replace hG1 : Hid _ := ⟨hG1⟩
            replace hq : Hid _ := ⟨hq⟩
            go_wp2_with fail
            refine wp_region_lat (by kernel_rfl) (by kernel_rfl) ?_
            repeat (go_big_quiet_step (fail))
            go_big_quiet_step ((go_at_call 62; exact ka _))
            repeat (go_big_quiet_step (fail))
            refine wpQuiet_nil ?_
            intro _ hw'
            obtain ⟨p, hw''⟩ := hw'
            subst hw''
            have hp := p.h
            go_wp2_with fail
            exact ⟨⟨i + 1, gs, by go_num, by omega, .inl (by omega), ⟨hB1.out.keep0 hp, hP1.out, hq.out, grown_add hG1.out hp⟩⟩, by simp [intOf]; omega⟩
    · have hd : decide ((i : Int) < b) = false := by simp; omega
      have hq : Sd fs a b := fun p q x y h1 h2 h3 => hS p q x y h1 h2 (by omega)
      replace hB : Hid _ := ⟨hB⟩
      replace hP : Hid _ := ⟨hP⟩
      replace hS : Hid _ := ⟨hS⟩
      replace hG : Hid _ := ⟨hG⟩
      replace hq : Hid _ := ⟨hq⟩
      go_wp2_with fail
      go_end0
      exact ⟨rfl, fs, hB.out, hP.out, hq.out, hG.out⟩
end Go.Proofs.Ytpcdmjalfabbmaa
