/- The sort's pivots: order2, median, medianAdjacent, choosePivot: they only read and count. -/
import Derived.Test.YtpcdmjalfabbmaaIsr
import Derived.RangeFuncNested
namespace Go.Proofs.Ytpcdmjalfabbmaa
open Go.RowKit Go.Shelf Go.IntWalk Go.Maps
set_option linter.unusedVariables false
set_option maxRecDepth 100000 in
set_option maxHeartbeats 2000000 in
theorem order2_any (w : World) {base : Nat} {v : Value} {es : List UInt8} (h : Br w base v es) (hl : es.length ≤ 256) (a b s n : Nat) (ha : a < es.length) (hb : b < es.length) (hs : Boxed w s 3 (.int .i64 n)) (hn : n ≤ 100) :
    Calls Try.prog 73 #[v, .int .i64 a, .int .i64 b, ptr s] w fun r w' => ∃ (a' b' n' : Nat), r = .returned (.tuple #[.int .i64 a', .int .i64 b']) ∧ ((a' = a ∧ b' = b) ∨ (a' = b ∧ b' = a)) ∧ n' ≤ n + 1 ∧ Boxed w' s 3 (.int .i64 n') ∧ w.grownBy w' (some s) := by
  obtain ⟨ad, cap, rfl⟩ := h.shape
  obtain ⟨x, hx⟩ := some8 ha
  obtain ⟨y, hy⟩ := some8 hb
  obtain ⟨g, rfl, hgl, -, k1, f1⟩ := h.at hx
  obtain ⟨_, e1, -, -, k2, -⟩ := h.at hy
  cases e1
  haveI := lat_nonempty w
  have kk1 := lat_cell k1
  have kk2 := lat_cell k2
  clear hx hy
  replace h : Hid _ := ⟨h⟩
  go_enter Try.func73, Try.ntmps73
  by_cases hyx : y < x
  · have hdx : decide (y < x) = true := by simpa using hyx
    have ka := fun p : Lat w => lat_less p y x hdx
    go_wp2_with fail
    refine wp_region_lat (by kernel_rfl) (by kernel_rfl) ?_
    repeat (go_big_quiet_step (fail))
    go_big_quiet_step ((go_at_call 62; exact ka _))
    repeat (go_big_quiet_step (fail))
    refine wpQuiet_nil ?_
    intro _ hw'
    obtain ⟨p, hw''⟩ := hw'
    subst hw''
    have hp := p.h
    have hs2 := hs.kept hp (by simp)
    generalize p.W = w5 at *
    have c1 := hs2.cell
    have c2 := hs2.frozen
    clear kk1 kk2 k1 k2 f1 ka
    go_wp2
    go_ret2
    exact ⟨b, a, n + 1, by simp, .inr ⟨rfl, rfl⟩, by omega, by simpa using hs2.set (.int .i64 ((n : Int) + 1)), (hp.but _).trans (grown_setCell _ ⟨s, 0, none⟩ _)⟩
  · have hdx : decide (y < x) = false := by simpa using hyx
    have ka := fun p : Lat w => lat_less p y x hdx
    go_wp2_with fail
    refine wp_region_lat (by kernel_rfl) (by kernel_rfl) ?_
    repeat (go_big_quiet_step (fail))
    go_big_quiet_step ((go_at_call 62; exact ka _))
    repeat (go_big_quiet_step (fail))
    refine wpQuiet_nil ?_
    intro _ hw'
    obtain ⟨p, hw''⟩ := hw'
    subst hw''
    have hp := p.h
    have hs2 := hs.kept hp (by simp)
    go_wp2
    go_ret2
    exact ⟨a, b, n, rfl, .inl ⟨rfl, rfl⟩, by omega, hs2, hp.but _⟩
theorem box_ne {w : World} {base s : Nat} {v x : Value} {es : List UInt8} (h : Br w base v es) (hs : Boxed w s 3 x) : v.ownBlock ≠ some s := (hs.not_row (by decide) h).symm
set_option maxRecDepth 100000 in
set_option maxHeartbeats 2000000 in
theorem median_any (w : World) {base : Nat} {v : Value} {es : List UInt8} (h : Br w base v es) (hl : es.length ≤ 256) (lo hi a b c s n : Nat) (hhi : hi ≤ es.length) (ha : lo ≤ a ∧ a < hi) (hb : lo ≤ b ∧ b < hi) (hc : lo ≤ c ∧ c < hi) (hs : Boxed w s 3 (.int .i64 n)) (hn : n ≤ 50) :
    Calls Try.prog 71 #[v, .int .i64 a, .int .i64 b, .int .i64 c, ptr s] w fun r w' => ∃ (m n' : Nat), r = .returned (.int .i64 m) ∧ (lo ≤ m ∧ m < hi) ∧ n' ≤ n + 3 ∧ Boxed w' s 3 (.int .i64 n') ∧ w.grownBy w' (some s) := by
  have k1 := order2_any w h hl a b s n (by omega) (by omega) hs (by omega)
  replace k1 : Hid _ := ⟨k1⟩
  go_enter Try.func71, Try.ntmps71
  go_wp2_with fail
  refine k1.out.mono ?_
  rintro r w1 ⟨a1, b1, n1, rfl, h1, hn1, hs1, hg1⟩
  have hB1 := h.keep hg1 (.inr (box_ne h hs))
  have k2 := order2_any w1 hB1 hl b1 c s n1 (by omega) (by omega) hs1 (by omega)
  replace k2 : Hid _ := ⟨k2⟩
  clear k1
  go_wp2_with fail
  refine k2.out.mono ?_
  rintro r w2 ⟨b2, c2, n2, rfl, h2, hn2, hs2, hg2⟩
  have hB2 := hB1.keep hg2 (.inr (box_ne hB1 hs1))
  have k3 := order2_any w2 hB2 hl a1 b2 s n2 (by omega) (by omega) hs2 (by omega)
  replace k3 : Hid _ := ⟨k3⟩
  clear k2
  go_wp2_with fail
  refine k3.out.mono ?_
  rintro r w3 ⟨a3, b3, n3, rfl, h3, hn3, hs3, hg3⟩
  go_wp2
  go_ret
  exact ⟨b3, n3, rfl, by omega, by omega, hs3, (hg1.trans hg2).trans hg3⟩
set_option maxRecDepth 100000 in
set_option maxHeartbeats 2000000 in
theorem adjacent_any (w : World) {base : Nat} {v : Value} {es : List UInt8} (h : Br w base v es) (hl : es.length ≤ 256) (lo hi a s n : Nat) (hhi : hi ≤ es.length) (ha : lo + 1 ≤ a ∧ a + 1 < hi) (hs : Boxed w s 3 (.int .i64 n)) (hn : n ≤ 50) :
    Calls Try.prog 70 #[v, .int .i64 a, ptr s] w fun r w' => ∃ (m n' : Nat), r = .returned (.int .i64 m) ∧ (lo ≤ m ∧ m < hi) ∧ n' ≤ n + 3 ∧ Boxed w' s 3 (.int .i64 n') ∧ w.grownBy w' (some s) := by
  have k1 := median_any w h hl lo hi (a - 1) a (a + 1) s n hhi (by omega) (by omega) (by omega) hs hn
  have e1 : ((a - 1 : Nat) : Int) = (a : Int) - 1 := by omega
  have e2 : ((a + 1 : Nat) : Int) = (a : Int) + 1 := by omega
  rw [e1, e2] at k1
  replace k1 : Hid _ := ⟨k1⟩
  clear e1 e2
  go_enter Try.func70, Try.ntmps70
  go_wp2_with fail
  refine k1.out.mono ?_
  rintro r w1 ⟨m, n1, rfl, h1, hn1, hs1, hg1⟩
  go_wp2
  go_ret
  exact ⟨m, n1, rfl, h1, hn1, hs1, hg1⟩
set_option maxRecDepth 100000 in
set_option maxHeartbeats 4000000 in
theorem pivot_any (w : World) {base : Nat} {v : Value} {es : List UInt8} (h : Br w base v es) (hl : es.length ≤ 256) (a b : Nat) (hab : a + 12 < b) (hb : b ≤ es.length) :
    Calls Try.prog 59 #[v, .int .i64 a, .int .i64 b] w fun r w' => ∃ (p hint : Nat), r = .returned (.tuple #[.int .i64 p, .int .i64 hint]) ∧ (a ≤ p ∧ p < b) ∧ hint ≤ 2 ∧ w.grownBy w' none := by
  obtain ⟨l, hL⟩ : ∃ l, Hid (l = b - a) := ⟨_, ⟨rfl⟩⟩
  obtain ⟨q, hq⟩ : ∃ q, Hid (q = l / 4) := ⟨_, ⟨rfl⟩⟩
  have hL' := hL.out
  have hq' := hq.out
  obtain ⟨i, hi⟩ : ∃ i, Hid (i = a + q) := ⟨_, ⟨rfl⟩⟩
  obtain ⟨j, hj⟩ : ∃ j, Hid (j = a + q * 2) := ⟨_, ⟨rfl⟩⟩
  obtain ⟨k, hk⟩ : ∃ k, Hid (k = a + q * 3) := ⟨_, ⟨rfl⟩⟩
  have hi' := hi.out
  have hj' := hj.out
  have hk' := hk.out
  have e0 : ((b : Int) - a) = (l : Nat) := by omega
  have e1 : ((l : Int) / 4) = (q : Nat) := by omega
  have e2 : (a : Int) + q = (i : Nat) := by omega
  have e3 : (a : Int) + q * 2 = (j : Nat) := by omega
  have e4 : (a : Int) + q * 3 = (k : Nat) := by omega
  have bi : a ≤ i ∧ i < b := by omega
  have bj : a ≤ j ∧ j < b := by omega
  have bk : a ≤ k ∧ k < b := by omega
  have hl2 : l ≤ 256 := by omega
  have hq2 : q ≤ 64 := by omega
  have ha2 : a ≤ 256 := by omega
  obtain ⟨s, hs⟩ : ∃ s, w.heap.size = s := ⟨_, rfl⟩
  have g0 := World.grownBy_alloc w (.cells #[.int .i64 0] 3) none
  have b0 := Boxed.new w 3 (.int .i64 0)
  have hB0 : Br (w.alloc (.cells #[.int .i64 0] 3)) base v es := h.alloc (.cells #[.int .i64 0] 3)
  rw [hs] at b0
  have hl8 : (8 : Int) ≤ l := by omega
  by_cases h50 : 50 ≤ l
  · have bi2 : a + 1 ≤ i ∧ i + 1 < b := by omega
    have bj2 : a + 1 ≤ j ∧ j + 1 < b := by omega
    have bk2 : a + 1 ≤ k ∧ k + 1 < b := by omega
    have h50' : (50 : Int) ≤ l := by omega
    have kA := adjacent_any _ hB0 hl a b i s 0 hb bi2 b0 (by omega)
    replace kA : Hid _ := ⟨kA⟩
    replace g0 : Hid _ := ⟨g0⟩
    replace b0 : Hid _ := ⟨b0⟩
    replace hB0 : Hid _ := ⟨hB0⟩
    clear hL' hq' hi' hj' hk' h50
    go_enter Try.func59, Try.ntmps59
    go_wp2_with fail
    refine kA.out.mono ?_
    rintro r w1 ⟨i', n1, rfl, h1, hn1, hs1, hg1⟩
    have hB1 := hB0.out.keep hg1 (.inr (box_ne hB0.out b0.out))
    have kB := adjacent_any _ hB1 hl a b j s n1 hb bj2 hs1 (by omega)
    replace kB : Hid _ := ⟨kB⟩
    clear kA
    go_wp2_with fail
    refine kB.out.mono ?_
    rintro r w2 ⟨j', n2, rfl, h2, hn2, hs2, hg2⟩
    have hB2 := hB1.keep hg2 (.inr (box_ne hB1 hs1))
    have kC := adjacent_any _ hB2 hl a b k s n2 hb bk2 hs2 (by omega)
    replace kC : Hid _ := ⟨kC⟩
    clear kB
    go_wp2_with fail
    refine kC.out.mono ?_
    rintro r w3 ⟨k', n3, rfl, h3, hn3, hs3, hg3⟩
    have hB3 := hB2.keep hg3 (.inr (box_ne hB2 hs2))
    have k2 := median_any _ hB3 hl a b i' j' k' s n3 hb h1 h2 h3 hs3 (by omega)
    have hg4 := grown_new g0.out ((hg1.trans hg2).trans hg3) (by omega)
    clear kC
    replace k2 : Hid _ := ⟨k2⟩
    go_wp2_with fail
    refine k2.out.mono ?_
    rintro r w9 ⟨m, n9, rfl, h9, hn9, hs9, hg9⟩
    have hfin : Hid (w.grownBy w9 none) := ⟨grown_new hg4 hg9 (by omega)⟩
    have c9 := hs9.cell
    clear k2
    by_cases hz : n9 = 0
    · subst hz
      go_wp2
      go_ret2
      exact ⟨m, 1, rfl, by omega, by omega, hfin.out⟩
    · by_cases hz2 : n9 = 12
      · subst hz2
        go_wp2
        go_ret2
        exact ⟨m, 2, rfl, by omega, by omega, hfin.out⟩
      · have z1 : ((n9 : Int) == 0) = false := by simp; omega
        have z2 : ((n9 : Int) == 12) = false := by simp; omega
        clear hz hz2
        go_wp2
        go_ret2
        exact ⟨m, 0, rfl, by omega, by omega, hfin.out⟩
  · have h50' : decide ((50 : Int) ≤ l) = false := by simp; omega
    have k2 := median_any _ hB0 hl a b i j k s 0 hb bi bj bk b0 (by omega)
    clear hL' hq' hi' hj' hk' h50
    go_enter Try.func59, Try.ntmps59
    replace k2 : Hid _ := ⟨k2⟩
    go_wp2_with fail
    refine k2.out.mono ?_
    rintro r w9 ⟨m, n9, rfl, h9, hn9, hs9, hg9⟩
    have hfin : Hid (w.grownBy w9 none) := ⟨grown_new g0 hg9 (by omega)⟩
    have c9 := hs9.cell
    clear k2
    by_cases hz : n9 = 0
    · subst hz
      go_wp2
      go_ret2
      exact ⟨m, 1, rfl, by omega, by omega, hfin.out⟩
    · by_cases hz2 : n9 = 12
      · subst hz2
        go_wp2
        go_ret2
        exact ⟨m, 2, rfl, by omega, by omega, hfin.out⟩
      · have z1 : ((n9 : Int) == 0) = false := by simp; omega
        have z2 : ((n9 : Int) == 12) = false := by simp; omega
        clear hz hz2
        go_wp2
        go_ret2
        exact ⟨m, 0, rfl, by omega, by omega, hfin.out⟩
end Go.Proofs.Ytpcdmjalfabbmaa
