/- Bytes in order, and exchanged; no program. -/
import Derived.Test.YtpcdmjalfabbmaaLes
namespace Go.Proofs.Ytpcdmjalfabbmaa
/-- Those at a to b are in order. -/
def Sd (es : List UInt8) (a b : Nat) : Prop := ∀ p q x y, a ≤ p → p < q → q < b → es[p]? = some x → es[q]? = some y → x.toNat ≤ y.toNat
/-- .. but for the one at j. -/
def Sj (es : List UInt8) (a b j : Nat) : Prop := ∀ p q x y, a ≤ p → p < q → q < b → q ≠ j → es[p]? = some x → es[q]? = some y → x.toNat ≤ y.toNat
/-- The same bytes, those outside a to b in their places. -/
structure Pm (a b : Nat) (es es' : List UInt8) : Prop where
  perm : es'.Perm es
  out : ∀ k, k < a ∨ b ≤ k → es'[k]? = es[k]?
theorem Pm.refl (a b : Nat) (es : List UInt8) : Pm a b es es := ⟨List.Perm.refl _, fun _ _ => rfl⟩
theorem Pm.trans {a b : Nat} {x y z : List UInt8} (h : Pm a b x y) (k : Pm a b y z) : Pm a b x z := ⟨k.perm.trans h.perm, fun i hi => (k.out i hi).trans (h.out i hi)⟩
theorem Pm.len {a b : Nat} {x y : List UInt8} (h : Pm a b x y) : y.length = x.length := h.perm.length_eq
theorem Pm.mono {a b c d : Nat} {x y : List UInt8} (h : Pm a b x y) (h1 : c ≤ a) (h2 : b ≤ d) : Pm c d x y := ⟨h.perm, fun i hi => h.out i (by omega)⟩
/-- Those at i and at j exchanged. -/
def sw (es : List UInt8) (i j : Nat) (a b : UInt8) : List UInt8 := (es.set i b).set j a
section
variable {es : List UInt8} {i j : Nat} {a b : UInt8}
theorem sw_at (hi : es[i]? = some a) (hj : es[j]? = some b) (k : Nat) : (sw es i j a b)[k]? = if k = j then some a else if k = i then some b else es[k]? := by
  have h1 := (List.getElem?_eq_some_iff.1 hi).1
  have h2 := (List.getElem?_eq_some_iff.1 hj).1
  unfold sw
  simp only [List.getElem?_set, List.length_set]
  by_cases e1 : k = j
  · subst e1
    simp [h2]
  · by_cases e2 : k = i
    · subst e2
      simp [h1, e1, Ne.symm e1]
    · simp [e1, e2, Ne.symm e1, Ne.symm e2]
theorem sw_perm (hi : es[i]? = some a) (hj : es[j]? = some b) : (sw es i j a b).Perm es := by
  obtain ⟨h1, rfl⟩ := List.getElem?_eq_some_iff.1 hi
  obtain ⟨h2, rfl⟩ := List.getElem?_eq_some_iff.1 hj
  exact List.set_set_perm h1 h2
theorem sw_pm {s t : Nat} (hi : es[i]? = some a) (hj : es[j]? = some b) (h1 : s ≤ i) (h2 : i < t) (h3 : s ≤ j) (h4 : j < t) : Pm s t es (sw es i j a b) :=
  ⟨sw_perm hi hj, fun k hk => by rw [sw_at hi hj, if_neg (by omega), if_neg (by omega)]⟩
end
theorem some8 {es : List UInt8} {k : Nat} (h : k < es.length) : ∃ a, es[k]? = some a := ⟨es[k], List.getElem?_eq_getElem h⟩
theorem Sd.start {es : List UInt8} {a i : Nat} (h : Sd es a i) : Sj es a (i + 1) i := fun p q x y h1 h2 h3 h4 h5 h6 => h p q x y h1 h2 (by omega) h5 h6
theorem Sj.done0 {es : List UInt8} {a i : Nat} (h : Sj es a (i + 1) a) : Sd es a (i + 1) := fun p q x y h1 h2 h3 h5 h6 => h p q x y h1 h2 h3 (by omega) h5 h6
theorem Sj.done {es : List UInt8} {a i j : Nat} {x y : UInt8} (h : Sj es a (i + 1) j) (hj : a < j) (hi : j ≤ i) (hx : es[j - 1]? = some x) (hy : es[j]? = some y) (hxy : x.toNat ≤ y.toNat) : Sd es a (i + 1) := by
  intro p q u v h1 h2 h3 h5 h6
  by_cases e : q = j
  · subst e
    rw [hy] at h6
    cases h6
    by_cases e2 : p = q - 1
    · subst e2
      rw [hx] at h5
      cases h5
      exact hxy
    · have := h p (q - 1) u x h1 (by omega) (by omega) (by omega) h5 hx
      omega
  · exact h p q u v h1 h2 h3 e h5 h6
theorem Sj.step {es : List UInt8} {a i j : Nat} {x y : UInt8} (h : Sj es a (i + 1) j) (hj : a < j) (hi : j ≤ i) (hx : es[j - 1]? = some x) (hy : es[j]? = some y) (hxy : y.toNat < x.toNat) : Sj (sw es j (j - 1) y x) a (i + 1) (j - 1) := by
  intro p q u v h1 h2 h3 h4 h5 h6
  rw [sw_at hy hx] at h5 h6
  rw [if_neg h4] at h6
  by_cases e : q = j
  · rw [if_pos e] at h6
    cases h6
    by_cases e2 : p = j - 1
    · rw [if_pos e2] at h5
      cases h5
      omega
    · rw [if_neg e2, if_neg (by omega)] at h5
      exact h p (j - 1) u x h1 (by omega) (by omega) (by omega) h5 hx
  · rw [if_neg e] at h6
    by_cases e2 : p = j - 1
    · rw [if_pos e2] at h5
      cases h5
      exact h j q y v (by omega) (by omega) h3 e hy h6
    · rw [if_neg e2] at h5
      by_cases e3 : p = j
      · rw [if_pos e3] at h5
        cases h5
        exact h (j - 1) q x v (by omega) (by omega) h3 e hx h6
      · rw [if_neg e3] at h5
        exact h p q u v h1 h2 h3 e h5 h6
end Go.Proofs.Ytpcdmjalfabbmaa
