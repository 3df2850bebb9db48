/- What pdqsort's loop knows: whatever is done between a' and b' from now on, if those end in order, all do. No program. -/
import Derived.Test.YtpcdmjalfabbmaaHps
namespace Go.Proofs.Ytpcdmjalfabbmaa
def Fin (fs : List UInt8) (a b a' b' : Nat) : Prop := ∀ gs, Pm a' b' fs gs → Sd gs a' b' → Sd gs a b
theorem Fin.start (fs : List UInt8) (a b : Nat) : Fin fs a b a b := fun _ _ h => h
theorem Fin.pm {fs hs : List UInt8} {a b a' b' : Nat} (h : Fin fs a b a' b') (hp : Pm a' b' fs hs) : Fin hs a b a' b' := fun gs k1 k2 => h gs (hp.trans k1) k2
theorem Low.sub {fs : List UInt8} {a b m : Nat} (h : Low fs a b) (hm : m ≤ b) : Low fs a m := fun h0 k x z h1 h2 => h h0 k x z h1 (by omega)
theorem Pd.lowr {es fs : List UInt8} {a b m : Nat} (h : Pd es fs a b m) : Low fs (m + 1) b := fun _ k x z h1 h2 h3 h4 => h.up k x z (by omega) h2 h3 (by simpa using h4)
theorem Low.outr {fs gs : List UInt8} {a b c d : Nat} (h : Low fs a b) (hp : Pm c d fs gs) (hd : d < a) : Low gs a b := fun h0 k x z h1 h2 h3 h4 => by
  rw [hp.out _ (by omega)] at h3 h4
  exact h h0 k x z h1 h2 h3 h4
theorem Low.outl {fs gs : List UInt8} {a b c d : Nat} (h : Low fs a b) (hp : Pm c d fs gs) (hd : b < c) : Low gs a b := fun h0 k x z h1 h2 h3 h4 => by
  rw [hp.out _ (by omega)] at h3 h4
  exact h h0 k x z h1 h2 h3 h4
/-- The three parts together. -/
theorem Pd.join {es fs gs hs : List UInt8} {a b m : Nat} (h : Pd es fs a b m) (h1 : Pm a m fs gs) (h2 : Pm (m + 1) b gs hs) (s1 : Sd hs a m) (s2 : Sd hs (m + 1) b) (hb : b ≤ hs.length) : Sd hs a b := by
  have ham := h.am
  have hmb := h.mb
  obtain ⟨z, hz⟩ := some8 (es := hs) (k := m) (by omega)
  have hzf : fs[m]? = some z := by rw [← h1.out m (by omega), ← h2.out m (by omega)]; exact hz
  have lo : ∀ k x, a ≤ k → k < m → hs[k]? = some x → x.toNat ≤ z.toNat := fun k x k1 k2 k3 => by
    rw [h2.out k (by omega)] at k3
    obtain ⟨k', k4, k5, k6⟩ := h1.seg ham k1 k2 k3
    exact h.lo k' x z k4 k5 k6 hzf
  have up : ∀ k x, m < k → k < b → hs[k]? = some x → z.toNat ≤ x.toNat := fun k x k1 k2 k3 => by
    obtain ⟨k', k4, k5, k6⟩ := h2.seg (by omega) (by omega) k2 k3
    rw [h1.out k' (by omega)] at k6
    exact h.up k' x z (by omega) k5 k6 hzf
  intro p q x y q1 q2 q3 q4 q5
  by_cases e1 : q < m
  · exact s1 p q x y q1 q2 e1 q4 q5
  · by_cases e2 : m < p
    · exact s2 p q x y (by omega) q2 q3 q4 q5
    · have hx : x.toNat ≤ z.toNat := by
        by_cases e3 : p = m
        · rw [e3, hz] at q4; cases q4; exact Nat.le_refl _
        · exact lo p x q1 (by omega) q4
      have hy : z.toNat ≤ y.toNat := by
        by_cases e3 : q = m
        · rw [e3, hz] at q5; cases q5; exact Nat.le_refl _
        · exact up q y (by omega) q3 q5
      omega
theorem Sd.out {gs hs : List UInt8} {a b c d : Nat} (h : Sd gs a b) (hp : Pm c d gs hs) (hd : d ≤ a ∨ b ≤ c) : Sd hs a b := fun p q x y h1 h2 h3 h5 h6 => h p q x y h1 h2 h3 (by rw [← hp.out p (by omega)]; exact h5) (by rw [← hp.out q (by omega)]; exact h6)
/-- The left part is in order: on with the right one. -/
theorem Fin.right {fs gs es' : List UInt8} {a b a' b' m : Nat} (h : Fin es' a b a' b') (hd : Pd es' fs a' b' m) (h1 : Pm a' m fs gs) (s1 : Sd gs a' m) (hb : b' ≤ gs.length) : Fin gs a b (m + 1) b' := fun hs k1 k2 => by
  have ham := hd.am
  have hmb := hd.mb
  refine h hs ((hd.pm.trans (h1.mono (Nat.le_refl _) (by omega))).trans (k1.mono (by omega) (Nat.le_refl _))) ?_
  exact hd.join h1 k1 (s1.out k1 (.inr (by omega))) k2 (by rw [k1.len]; exact hb)
/-- The right part is in order: on with the left one. -/
theorem Fin.left {fs gs es' : List UInt8} {a b a' b' m : Nat} (h : Fin es' a b a' b') (hd : Pd es' fs a' b' m) (h1 : Pm (m + 1) b' fs gs) (s1 : Sd gs (m + 1) b') (hb : b' ≤ gs.length) : Fin gs a b a' m := fun hs k1 k2 => by
  have ham := hd.am
  have hmb := hd.mb
  refine h hs ((hd.pm.trans (h1.mono (by omega) (Nat.le_refl _))).trans (k1.mono (Nat.le_refl _) (by omega))) ?_
  -- the same exchange, the other way round
  obtain ⟨z, hz⟩ := some8 (es := hs) (k := m) (by rw [k1.len]; omega)
  have hzf : fs[m]? = some z := by rw [← h1.out m (by omega), ← k1.out m (by omega)]; exact hz
  have s2 := s1.out k1 (.inl (by omega))
  have lo : ∀ k x, a' ≤ k → k < m → hs[k]? = some x → x.toNat ≤ z.toNat := fun k x q1 q2 q3 => by
    obtain ⟨k', k4, k5, k6⟩ := k1.seg ham q1 q2 q3
    rw [h1.out k' (by omega)] at k6
    exact hd.lo k' x z k4 k5 k6 hzf
  have up : ∀ k x, m < k → k < b' → hs[k]? = some x → z.toNat ≤ x.toNat := fun k x q1 q2 q3 => by
    rw [k1.out k (by omega)] at q3
    obtain ⟨k', k4, k5, k6⟩ := h1.seg (by omega) (by omega) q2 q3
    exact hd.up k' x z (by omega) k5 k6 hzf
  intro p q x y q1 q2 q3 q4 q5
  by_cases e1 : q < m
  · exact k2 p q x y q1 q2 e1 q4 q5
  · by_cases e2 : m < p
    · exact s2 p q x y (by omega) q2 q3 q4 q5
    · have hx : x.toNat ≤ z.toNat := by
        by_cases e3 : p = m
        · rw [e3, hz] at q4; cases q4; exact Nat.le_refl _
        · exact lo p x q1 (by omega) q4
      have hy : z.toNat ≤ y.toNat := by
        by_cases e3 : q = m
        · rw [e3, hz] at q5; cases q5; exact Nat.le_refl _
        · exact up q y (by omega) q3 q5
      omega
/-- Those that are as the pivot lie ahead: on behind them. -/
theorem Fin.eq {fs es' : List UInt8} {a b a' b' m : Nat} {pv z : UInt8} (h : Fin es' a b a' b') (hd : Pf es' fs a' b' pv m) (h0 : 0 < a') (hl : Low es' a' b') (hz : es'[a' - 1]? = some z) (hpz : pv.toNat ≤ z.toNat) : Fin fs a b m b' := fun hs k1 k2 => by
  have ham := hd.am
  have hmb := hd.mb
  refine h hs (hd.pm.trans (k1.mono (by omega) (Nat.le_refl _))) ?_
  have hl2 := hl.pm (by omega) hd.pm
  have hz2 : fs[a' - 1]? = some z := by rw [hd.pm.out _ (by omega)]; exact hz
  intro p q x y q1 q2 q3 q4 q5
  by_cases e1 : m ≤ p
  · exact k2 p q x y e1 q2 q3 q4 q5
  · rw [k1.out p (by omega)] at q4
    have hx := hd.lo p x q1 (by omega) q4
    by_cases e2 : q < m
    · rw [k1.out q (by omega)] at q5
      have := hl2 h0 q y z (by omega) q3 q5 hz2
      omega
    · obtain ⟨k', k4, k5, k6⟩ := k1.seg hmb (by omega) q3 q5
      have := hd.up k' y k4 k5 k6
      omega
theorem Pf.low {es fs : List UInt8} {a b m : Nat} {pv : UInt8} (h : Pf es fs a b pv m) : Low fs m b := fun _ k x z h1 h2 h3 h4 => by
  have := h.am
  have h5 := h.up k x h1 h2 h3
  have h6 := h.lo (m - 1) z (by omega) (by omega) h4
  omega
end Go.Proofs.Ytpcdmjalfabbmaa
