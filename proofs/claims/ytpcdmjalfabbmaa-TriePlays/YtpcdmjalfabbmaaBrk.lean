/- breakPatterns: some of them are exchanged. -/
import Derived.Test.YtpcdmjalfabbmaaRev
namespace Go.Proofs.Ytpcdmjalfabbmaa
open Go.RowKit Go.Shelf Go.IntWalk Go.Maps
set_option linter.unusedVariables false
set_option maxRecDepth 100000 in
set_option maxHeartbeats 8000000 in
theorem break_any (w : World) {base : Nat} {v : Value} {es : List UInt8} (h : Br w base v es) (hl : es.length ≤ 256) (a b : Nat) (hab : a + 12 < b) (hb : b ≤ es.length) :
    Calls Try.prog 58 #[v, .int .i64 a, .int .i64 b] w fun r w' => r = .returned (.tuple #[]) ∧ ∃ es', Br w' base v es' ∧ Pm a b es es' ∧ w.grownBy w' v.ownBlock := by
  obtain ⟨ad, cap, rfl⟩ := h.shape
  obtain ⟨l, hL⟩ : ∃ l, Hid (l = b - a) := ⟨_, ⟨rfl⟩⟩
  obtain ⟨q, hq⟩ : ∃ q, Hid (q = l / 4) := ⟨_, ⟨rfl⟩⟩
  have hL' := hL.out
  have hq' := hq.out
  obtain ⟨j, hj⟩ : ∃ j, Hid (j = a + q * 2) := ⟨_, ⟨rfl⟩⟩
  have hj' := hj.out
  have e0 : ((b : Int) - a) = (l : Nat) := by omega
  have e1 : ((l : Int) / 4) = (q : Nat) := by omega
  have e3 : (a : Int) + q * 2 = (j : Nat) := by omega
  have bj : a + 1 ≤ j ∧ j + 1 < b := by omega
  have hl2 : l ≤ 256 := by omega
  have hq2 : q ≤ 64 := by omega
  have ha2 : a ≤ 256 := by omega
  have hj2 : j ≤ 256 := by omega
  obtain ⟨i0, hi0⟩ : ∃ i0, Hid (i0 = j - 1) := ⟨_, ⟨rfl⟩⟩
  have hi0' := hi0.out
  have e4 : (j : Int) - 1 = (i0 : Nat) := by omega
  obtain ⟨s, hs⟩ : ∃ s, w.heap.size = s := ⟨_, rfl⟩
  have g0 := World.grownBy_alloc w (.cells #[.int .u64 l] 109) none
  have b0 := Boxed.new w 109 (.int .u64 l)
  have hB0 : Br (w.alloc (.cells #[.int .u64 l] 109)) base (.slice ad es.length cap) es := h.alloc (.cells #[.int .u64 l] 109)
  rw [hs] at b0
  have hl8 : (8 : Int) ≤ l := by omega
  have hwr : IntKind.u64.wrap (l : Int) = l := by simp [IntKind.wrap, IntKind.bits, IntKind.signed]; omega
  have hnp := nextpow_any (w.alloc (.cells #[.int .u64 l] 109)) l (by omega) hl2
  replace hnp : Hid _ := ⟨hnp⟩
  replace g0 : Hid _ := ⟨g0⟩
  replace b0 : Hid _ := ⟨b0⟩
  replace hB0 : Hid _ := ⟨hB0⟩
  have hbig : Hid (l = b - a ∧ j = a + q * 2 ∧ q = l / 4 ∧ i0 = j - 1) := ⟨hL', hj', hq', hi0'⟩
  clear hL' hq' hj' hi0' hab
  go_enter Try.func58, Try.ntmps58
  go_wp2_with fail
  refine hnp.out.mono ?_
  rintro r w1 ⟨m, rfl, hm1, hm2, rfl⟩
  have hwm : IntKind.u64.wrap ((m : Int) - 1) = (m : Int) - 1 := by simp [IntKind.wrap, IntKind.bits, IntKind.signed]; omega
  have hst : Hid (∃ X, Boxed (w.alloc (.cells #[.int .u64 l] 109)) s 109 (.int .u64 X) ∧ Br (w.alloc (.cells #[.int .u64 l] 109)) base (.slice ad es.length cap) es ∧ Pm a b es es ∧ w.grownBy (w.alloc (.cells #[.int .u64 l] 109)) (Value.slice ad es.length cap).ownBlock) := ⟨_, b0.out, hB0.out, Pm.refl _ _ _, g0.out.but _⟩
  clear hnp b0 hB0 g0
  go_wp2_with fail
  go_loopw [9] (fun u wr => ∃ (i : Nat) (fs : List UInt8), u = .int .i64 i ∧ i0 ≤ i ∧ i ≤ j + 2 ∧ Hid (∃ X, Boxed wr s 109 (.int .u64 X) ∧ Br wr base (.slice ad es.length cap) fs ∧ Pm a b es fs ∧ w.grownBy wr (Value.slice ad es.length cap).ownBlock))
    (fun u _ => 600 - (intOf u).toNat)
  case atStart => exact ⟨i0, es, rfl, by omega, by have := hbig.out; omega, hst⟩
  case round =>
    clear hst
    obtain ⟨i, fs, rfl, hi1, hi2, hR⟩ := hrel
    obtain ⟨X, hX, hB, hP, hG⟩ := hR.out
    have hfl := hP.len
    by_cases hlt : i ≤ j + 1
    · have hd : (i : Int) ≤ (j : Int) + 1 := by omega
      have hnx := next_any wr s X hX
      have hne : (Value.slice ad es.length cap).ownBlock ≠ some s := (hX.not_row (by decide) hB).symm
      replace hnx : Hid _ := ⟨hnx⟩
      go_wp2_with fail
      refine hnx.out.mono ?_
      rintro r w2 ⟨Y, rfl, hY, hg2⟩
      have hB2 := hB.keep hg2 (.inr hne)
      have hG2 := grown_new hG hg2 (by omega)
      obtain ⟨k, hk, hkm⟩ := and_le Y m hm1 (by omega)
      have hwk : IntKind.i64.wrap (k : Int) = k := by rw [IntKind.wrap_i64]; omega
      clear hnx
      replace hB : Hid _ := ⟨hB⟩
      by_cases hkl : l ≤ k
      · obtain ⟨o, ho⟩ : ∃ o, o = k - l := ⟨_, rfl⟩
        have e5 : (k : Int) - l = (o : Nat) := by omega
        have hkl2 : (l : Int) ≤ k := by omega
        have hb1 := hbig.out
        obtain ⟨t, ht⟩ : ∃ t, t = a + o := ⟨_, rfl⟩
        have e6 : (a : Int) + o = (t : Nat) := by omega
        have htb : a ≤ t ∧ t < b := by omega
        have hib : a ≤ i ∧ i < b := by omega
        obtain ⟨x, hx⟩ := some8 (es := fs) (k := i) (by omega)
        obtain ⟨y, hy⟩ := some8 (es := fs) (k := t) (by omega)
        obtain ⟨g, rfl, hgl1, -, k1, f1⟩ := hB2.at hx
        obtain ⟨_, e1', -, -, k2, -⟩ := hB2.at hy
        cases e1'
        obtain ⟨s1, s2⟩ := hB2.swap hx hy
        have s3 := hP.trans (sw_pm hx hy hib.1 hib.2 htb.1 htb.2)
        have hsg : some s ≠ some g := fun e => hne e.symm
        have s4 := hY.kept s2 hsg
        have hil : i < es.length := by omega
        have htl : t < es.length := by omega
        have ho2 : o ≤ 256 := by omega
        have ht2 : t ≤ 512 := by omega
        replace s1 : Hid _ := ⟨s1⟩
        replace s2 : Hid _ := ⟨s2⟩
        replace s3 : Hid _ := ⟨s3⟩
        replace s4 : Hid _ := ⟨s4⟩
        replace hG2 : Hid _ := ⟨hG2⟩
        replace hP : Hid _ := ⟨hP⟩
        replace hB2 : Hid _ := ⟨hB2⟩
        replace hY : Hid _ := ⟨hY⟩
        replace ho : Hid _ := ⟨ho⟩
        replace ht : Hid _ := ⟨ht⟩
        clear hfl hR hX hG hg2 hb1 hkl
        by_cases hit : i = t
        · subst hit
          have hxy : x = y := by rw [hx] at hy; exact Option.some.inj hy
          subst hxy
          clear hx hy k2
          go_wp2_with fail
          go_region
          go_wp2_with fail
          exact ⟨⟨i + 1, _, by go_num, by omega, by omega, ⟨_, s4.out, s1.out, s3.out, hG2.out.trans s2.out⟩⟩, by simp [intOf]; omega⟩
        · clear hx hy
          go_wp2_with fail
          go_region
          go_wp2_with fail
          exact ⟨⟨i + 1, _, by go_num, by omega, by omega, ⟨_, s4.out, s1.out, s3.out, hG2.out.trans s2.out⟩⟩, by simp [intOf]; omega⟩
      · obtain ⟨o, ho⟩ : ∃ o, o = k := ⟨_, rfl⟩
        have hkl2 : decide ((l : Int) ≤ k) = false := by simp; omega
        have hkl3 : decide (l ≤ k) = false := by simp; omega
        have hb1 := hbig.out
        obtain ⟨t, ht⟩ : ∃ t, t = a + o := ⟨_, rfl⟩
        have e6 : (a : Int) + k = (t : Nat) := by omega
        have htb : a ≤ t ∧ t < b := by omega
        have hib : a ≤ i ∧ i < b := by omega
        obtain ⟨x, hx⟩ := some8 (es := fs) (k := i) (by omega)
        obtain ⟨y, hy⟩ := some8 (es := fs) (k := t) (by omega)
        obtain ⟨g, rfl, hgl1, -, k1, f1⟩ := hB2.at hx
        obtain ⟨_, e1', -, -, k2, -⟩ := hB2.at hy
        cases e1'
        obtain ⟨s1, s2⟩ := hB2.swap hx hy
        have s3 := hP.trans (sw_pm hx hy hib.1 hib.2 htb.1 htb.2)
        have hsg : some s ≠ some g := fun e => hne e.symm
        have s4 := hY.kept s2 hsg
        have hil : i < es.length := by omega
        have htl : t < es.length := by omega
        have ho2 : o ≤ 256 := by omega
        have ht2 : t ≤ 512 := by omega
        replace s1 : Hid _ := ⟨s1⟩
        replace s2 : Hid _ := ⟨s2⟩
        replace s3 : Hid _ := ⟨s3⟩
        replace s4 : Hid _ := ⟨s4⟩
        replace hG2 : Hid _ := ⟨hG2⟩
        replace hP : Hid _ := ⟨hP⟩
        replace hB2 : Hid _ := ⟨hB2⟩
        replace hY : Hid _ := ⟨hY⟩
        replace ho : Hid _ := ⟨ho⟩
        replace ht : Hid _ := ⟨ht⟩
        clear hfl hR hX hG hg2 hb1 hkl
        by_cases hit : i = t
        · subst hit
          have hxy : x = y := by rw [hx] at hy; exact Option.some.inj hy
          subst hxy
          clear hx hy k2
          go_wp2_with fail
          go_region
          go_wp2_with fail
          exact ⟨⟨i + 1, _, by go_num, by omega, by omega, ⟨_, s4.out, s1.out, s3.out, hG2.out.trans s2.out⟩⟩, by simp [intOf]; omega⟩
        · clear hx hy
          go_wp2_with fail
          go_region
          go_wp2_with fail
          exact ⟨⟨i + 1, _, by go_num, by omega, by omega, ⟨_, s4.out, s1.out, s3.out, hG2.out.trans s2.out⟩⟩, by simp [intOf]; omega⟩
    · have hd : decide ((i : Int) ≤ (j : Int) + 1) = false := by simp; omega
      have hfin : Hid (Br wr base (.slice ad es.length cap) fs ∧ Pm a b es fs ∧ w.grownBy wr (Value.slice ad es.length cap).ownBlock) := ⟨hB, hP, hG⟩
      clear hR hX hB hP hG hfl
      go_wp2_with fail
      go_end0
      exact ⟨rfl, fs, hfin.out⟩
end Go.Proofs.Ytpcdmjalfabbmaa
