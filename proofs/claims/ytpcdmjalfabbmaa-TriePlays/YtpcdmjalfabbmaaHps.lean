/- heapSort of bytes. -/
import Derived.Test.YtpcdmjalfabbmaaSif
namespace Go.Proofs.Ytpcdmjalfabbmaa
open Go.RowKit Go.Shelf Go.IntWalk Go.Maps
set_option linter.unusedVariables false
theorem Hq.root {V : Nat → Nat} {n : Nat} (h : Hq V 0 n) : ∀ k, k < n → V k ≤ V 0 := fun k => by
  induction k using Nat.strongRecOn with
  | _ k ih =>
    intro hk
    by_cases e : k = 0
    · rw [e]; exact Nat.le_refl _
    · exact Nat.le_trans (h k (by omega) hk (by omega)) (ih ((k - 1) / 2) (by omega) (by omega))
/-- What lies behind i is in order, and not below what lies ahead of it. -/
def Ss (V : Nat → Nat) (hi i : Nat) : Prop := ∀ p q, p < q → q < hi → i ≤ q → V p ≤ V q
theorem Ss.step {V U W : Nat → Nat} {hi k : Nat} (h : Ss V hi (k + 1)) (hq : Hq V 0 (k + 1)) (hk : k < hi) (u0 : U 0 = V k) (uk : U k = V 0) (uo : ∀ j, j ≠ 0 → j ≠ k → U j = V j) (wo : ∀ j, k ≤ j → W j = U j) (ws : ∀ j, j < k → ∃ j', j' < k ∧ W j = U j') : Ss W hi k := by
  have hr := hq.root
  have um : ∀ j, j < k → ∃ j', j' ≤ k ∧ U j = V j' := fun j hj => by
    by_cases e : j = 0
    · rw [e]; exact ⟨k, by omega, u0⟩
    · exact ⟨j, by omega, uo j e (by omega)⟩
  intro p q h1 h2 h3
  rw [wo q h3]
  by_cases e : q = k
  · subst e
    rw [uk]
    obtain ⟨j', h4, h5⟩ := ws p h1
    obtain ⟨j2, h6, h7⟩ := um j' h4
    rw [h5, h7]
    exact hr j2 (by omega)
  · rw [uo q (by omega) e]
    by_cases e2 : p < k
    · obtain ⟨j', h4, h5⟩ := ws p e2
      obtain ⟨j2, h6, h7⟩ := um j' h4
      rw [h5, h7]
      exact h j2 q (by omega) h2 (by omega)
    · rw [wo p (by omega)]
      by_cases e3 : p = k
      · rw [e3, uk]
        exact h 0 q (by omega) h2 (by omega)
      · by_cases e4 : p = 0
        · omega
        · rw [uo p e4 e3]
          exact h p q h1 h2 (by omega)
theorem Ss.sd {fs : List UInt8} {a b hi : Nat} (h : Ss (Va fs a) hi 0) (hb : b = a + hi) : Sd fs a b := fun p q x y h1 h2 h3 h5 h6 => by
  have := h (p - a) (q - a) (by omega) (by omega) (by omega)
  rw [va_some (x := x) (by rw [show a + (p - a) = p by omega]; exact h5), va_some (x := y) (by rw [show a + (q - a) = q by omega]; exact h6)] at this
  exact this
set_option maxRecDepth 100000 in
set_option maxHeartbeats 8000000 in
theorem heap_b (w : World) {base : Nat} {v : Value} {es : List UInt8} (h : Br w base v es) (hl : es.length ≤ 256) (a b : Nat) (hab : a < b) (hb : b ≤ es.length) :
    Calls Try.prog 57 #[v, .int .i64 a, .int .i64 b] w fun r w' => r = .returned (.tuple #[]) ∧ ∃ es', Br w' base v es' ∧ Pm a b es es' ∧ Sd es' a b ∧ w.grownBy w' v.ownBlock := by
  obtain ⟨ad, cap, rfl⟩ := h.shape
  obtain ⟨x, hx⟩ := some8 (es := es) (k := a) (by omega)
  obtain ⟨g, rfl, hgl1, -, -, -⟩ := h.at hx
  obtain ⟨hi, hhi⟩ : ∃ hi, Hid (hi = b - a) := ⟨_, ⟨rfl⟩⟩
  have hhi' := hhi.out
  have hbi : Hid (b = a + hi) := ⟨by omega⟩
  have e0 : (b : Int) - a = (hi : Nat) := by omega
  obtain ⟨m, hm⟩ : ∃ m, Hid (m = (hi - 1) / 2) := ⟨_, ⟨rfl⟩⟩
  have hm' := hm.out
  have e1 : ((hi : Int) - 1).tdiv 2 = (m : Nat) := by rw [Int.tdiv_eq_ediv_of_nonneg (by omega)]; omega
  have e2 : ((hi : Int) - 1) / 2 = (m : Nat) := by omega
  have hst : Hid (Br w base (.slice (some ⟨g, 0, none⟩) es.length cap) es ∧ Pm a b es es ∧ Hq (Va es a) (m + 1) hi ∧ w.grownBy w (some g)) := ⟨h, Pm.refl _ _ _, fun c h1 h2 h3 => by omega, (grown_refl w).but _⟩
  have hh6 : 1 ≤ hi ∧ hi ≤ 256 := by omega
  have ha6 : a ≤ 256 := by omega
  have hm6 : m ≤ 256 := by omega
  clear hx h hhi' hm'
  go_enter Try.func57, Try.ntmps57
  go_wp2_with fail
  go_loopw [9] (fun s wr => ∃ (i : Int) (fs : List UInt8), s = .int .i64 i ∧ -1 ≤ i ∧ i ≤ 256 ∧ Hid (Br wr base (.slice (some ⟨g, 0, none⟩) es.length cap) fs ∧ Pm a b es fs ∧ Hq (Va fs a) (i + 1).toNat hi ∧ w.grownBy wr (some g)))
    (fun s _ => (1 + intOf s).toNat)
  case atStart => exact ⟨m, _, rfl, by omega, by omega, ⟨hst.out.1, hst.out.2.1, by rw [show ((m : Int) + 1).toNat = m + 1 by omega]; exact hst.out.2.2.1, hst.out.2.2.2⟩⟩
  case round =>
    clear hst
    obtain ⟨i, fs, rfl, hi1, hi2, hR⟩ := hrel
    obtain ⟨hB, hP, hH, hG⟩ := hR.out
    have hgl := hP.len
    by_cases h0 : 0 ≤ i
    · obtain ⟨k, rfl⟩ : ∃ k : Nat, i = k := ⟨i.toNat, by omega⟩
      have hH' : Hq (Va fs a) (k + 1) hi := by rw [show ((k : Int) + 1).toNat = k + 1 by omega] at hH; exact hH
      have hs := sift_b wr hB (by omega) k hi a (by have := hbi.out; omega) (by omega) (by omega) hH'.x
      rw [← hbi.out] at hs
      replace hs : Hid _ := ⟨hs⟩
      replace hP : Hid _ := ⟨hP⟩
      replace hG : Hid _ := ⟨hG⟩
      clear hR hB hH hH' hgl
      go_wp2_with fail
      refine hs.out.mono ?_
      rintro r w2 ⟨rfl, gs, hB2, hP2, hH2, hG2⟩
      have hst : Hid (Br w2 base (.slice (some ⟨g, 0, none⟩) es.length cap) gs ∧ Pm a b es gs ∧ Hq (Va gs a) ((k : Int) - 1 + 1).toNat hi ∧ w.grownBy w2 (some g)) := ⟨hB2, hP.out.trans hP2, by rw [show ((k : Int) - 1 + 1).toNat = k by omega]; exact hH2, hG.out.trans hG2⟩
      clear hs hB2 hP2 hH2 hG2
      go_wp2_with fail
      exact ⟨⟨(k : Int) - 1, _, by go_num, by omega, by omega, hst⟩, by simp [intOf]; omega⟩
    · have hie : i = -1 := by omega
      subst hie
      have hst : Hid (Br wr base (.slice (some ⟨g, 0, none⟩) es.length cap) fs ∧ Pm a b es fs ∧ (Hq (Va fs a) 0 hi ∧ Ss (Va fs a) hi hi) ∧ w.grownBy wr (some g)) := ⟨hB, hP, ⟨hH, fun p q h1 h2 h3 => by omega⟩, hG⟩
      clear hR hB hP hH hG hgl
      go_wp2_with fail
      go_loopw [10] (fun s wr => ∃ (i : Int) (fs : List UInt8), s = .int .i64 i ∧ -1 ≤ i ∧ i < hi ∧ Hid (Br wr base (.slice (some ⟨g, 0, none⟩) es.length cap) fs ∧ Pm a b es fs ∧ (Hq (Va fs a) 0 (i + 1).toNat ∧ Ss (Va fs a) hi (i + 1).toNat) ∧ w.grownBy wr (some g)))
        (fun s _ => (1 + intOf s).toNat)
      case atStart => exact ⟨(hi : Int) - 1, _, by first | rfl | simp, by omega, by omega, ⟨hst.out.1, hst.out.2.1, by rw [show ((hi : Int) - 1 + 1).toNat = hi by omega]; exact hst.out.2.2.1, hst.out.2.2.2⟩⟩
      case round =>
        clear hst
        obtain ⟨i, fs, rfl, hi1, hi2, hR⟩ := hrel
        obtain ⟨hB, hP, ⟨hH, hS⟩, hG⟩ := hR.out
        have hgl := hP.len
        by_cases h0 : 0 ≤ i
        · obtain ⟨k, rfl⟩ : ∃ k : Nat, i = k := ⟨i.toNat, by omega⟩
          have ek : ((k : Int) + 1).toNat = k + 1 := by omega
          rw [ek] at hH hS
          have hbo := hbi.out
          obtain ⟨t, ht⟩ : ∃ t, Hid (t = a + k) := ⟨_, ⟨rfl⟩⟩
          have ht' := ht.out
          have e3 : (a : Int) + k = (t : Nat) := by omega
          obtain ⟨x, hx⟩ := some8 (es := fs) (k := a) (by omega)
          obtain ⟨y, hy⟩ := some8 (es := fs) (k := t) (by omega)
          obtain ⟨_, e9, -, -, k1, f1⟩ := hB.at hx
          cases e9
          obtain ⟨_, e9, -, -, k2, -⟩ := hB.at hy
          cases e9
          obtain ⟨s1, s2⟩ := hB.swap hx hy
          obtain ⟨z, hz1, hz2⟩ := hB.mid hx hy
          have s3 := hP.trans (sw_pm hx hy (by omega) (by omega) (by omega) (by omega))
          have v0 : Va fs a 0 = x.toNat := va_some (by simpa using hx)
          have vk : Va fs a k = y.toNat := va_some (by rw [← ht']; exact hy)
          obtain ⟨gs, hgs⟩ : ∃ gs, sw fs a t x y = gs := ⟨_, rfl⟩
          have u0 : Va gs a 0 = Va fs a k := by
            rw [vk, ← hgs]
            refine va_some ?_
            rw [Nat.add_zero, sw_at hx hy]
            by_cases e : a = t
            · rw [if_pos e]
              rw [e, hy] at hx
              exact hx.symm
            · rw [if_neg e, if_pos rfl]
          have uk : Va gs a k = Va fs a 0 := by
            rw [v0, ← hgs]
            refine va_some ?_
            rw [← ht', sw_at hx hy, if_pos rfl]
          have uo : ∀ j, j ≠ 0 → j ≠ k → Va gs a j = Va fs a j := fun j h1 h2 => by
            rw [← hgs]
            refine Va.congr ?_
            rw [sw_at hx hy, if_neg (by omega), if_neg (by omega)]
          rw [hgs] at s1 s3
          have hX : Hx (Va gs a) 0 k 0 := Hq.x fun c h1 h2 h3 => by
            rw [uo c (by omega) (by omega), uo ((c - 1) / 2) (by omega) (by omega)]
            exact hH c h1 (by omega) (by omega)
          have hgl2 := s3.len
          have hs := sift_b _ s1 (by omega) 0 k a (by omega) (by omega) (by omega) hX
          have hal : a < es.length := by omega
          have htl : t < es.length := by omega
          have hk6 : k < 256 := by omega
          have hall : Hid (∀ gs' : List UInt8, Pm a (a + k) gs gs' → Hq (Va gs' a) 0 k → Pm a b es gs' ∧ Hq (Va gs' a) 0 k ∧ Ss (Va gs' a) hi k) := ⟨fun gs' hp hq => ⟨s3.trans (hp.mono (Nat.le_refl _) (by omega)), hq, hS.step hH (by omega) u0 uk uo (fun j hj => Va.congr (hp.out _ (by omega))) (fun j hj => by
            obtain ⟨x', hx'⟩ := some8 (es := gs') (k := a + j) (by rw [hp.len]; omega)
            obtain ⟨k', h3, h4, h5⟩ := hp.seg (by omega) (by omega) (by omega) hx'
            refine ⟨k' - a, by omega, ?_⟩
            rw [va_some hx', va_some (x := x') (by rw [show a + (k' - a) = k' by omega]; exact h5)])⟩⟩
          replace hs : Hid _ := ⟨hs⟩
          have hGs : Hid _ := ⟨hG.trans s2⟩
          clear hR hB hP hH hS hG hgl hbo ht' hx hy s1 s2 s3 v0 vk u0 uk uo hX hgl2 hgs ek
          go_wp2_with fail
          go_region
          go_wp2_with fail
          refine hs.out.mono ?_
          rintro r w2 ⟨rfl, gs', hB2, hP2, hH2, hG2⟩
          obtain ⟨q1, q2, q3⟩ := hall.out gs' hP2 hH2
          have hst : Hid (Br w2 base (.slice (some ⟨g, 0, none⟩) es.length cap) gs' ∧ Pm a b es gs' ∧ (Hq (Va gs' a) 0 ((k : Int) - 1 + 1).toNat ∧ Ss (Va gs' a) hi ((k : Int) - 1 + 1).toNat) ∧ w.grownBy w2 (some g)) := ⟨hB2, q1, by rw [show ((k : Int) - 1 + 1).toNat = k by omega]; exact ⟨q2, q3⟩, hGs.out.trans hG2⟩
          clear hs hB2 hP2 hH2 hG2 q1 q2 q3 hall hGs
          go_wp2_with fail
          exact ⟨⟨(k : Int) - 1, _, by go_num, by omega, by omega, hst⟩, by simp [intOf]; omega⟩
        · have hie : i = -1 := by omega
          subst hie
          have hfin : Hid (Br wr base (.slice (some ⟨g, 0, none⟩) es.length cap) fs ∧ Pm a b es fs ∧ Sd fs a b ∧ w.grownBy wr (some g)) := ⟨hB, hP, hS.sd hbi.out, hG⟩
          clear hR hB hP hH hS hG hgl
          go_wp2_with fail
          go_end0
          exact ⟨rfl, fs, hfin.out⟩
end Go.Proofs.Ytpcdmjalfabbmaa
