/- Entries, their order, and heaps of them: plain facts, no program. -/
import Derived.WalkKit
namespace Go.Proofs.Ytipcoghhnbgalaa
set_option linter.unusedVariables false

/-- An entry: a name with a deadline. -/
structure E where
  n : ByteArray
  at_ : Int
theorem E.ext' {a b : E} (h1 : a.n = b.n) (h2 : a.at_ = b.at_) : a = b := by cases a; cases b; simp_all
theorem ba_inj {a b : ByteArray} (h : a.toList = b.toList) : a = b := by
  rw [ByteArray.toList_eq, ByteArray.toList_eq] at h
  cases a; cases b
  simp only [ByteArray.mk.injEq]
  exact Array.toList_inj.1 h
/-- The order: by deadlines, then by names. -/
def lt (a b : E) : Prop := a.at_ < b.at_ ∨ (a.at_ = b.at_ ∧ a.n.toList < b.n.toList)
/-- .. as it is reckoned. -/
def ltb (a b : E) : Bool := decide (a.at_ < b.at_) || (decide (a.at_ = b.at_) && decide (a.n.toList < b.n.toList))
theorem ltb_iff {a b : E} : ltb a b = true ↔ lt a b := by simp [ltb, lt]
theorem ltb_f {a b : E} (h : ¬ lt a b) : ltb a b = false := by
  cases e : ltb a b with
  | false => rfl
  | true => exact absurd (ltb_iff.1 e) h
theorem lt_irrefl (a : E) : ¬ lt a a := by
  rintro (h | ⟨_, h⟩)
  · omega
  · exact List.lt_irrefl _ h
theorem lt_trans {a b c : E} (h : lt a b) (k : lt b c) : lt a c := by
  rcases h with h | ⟨h1, h2⟩ <;> rcases k with k | ⟨k1, k2⟩
  · exact .inl (by omega)
  · exact .inl (by omega)
  · exact .inl (by omega)
  · exact .inr ⟨by omega, List.lt_trans h2 k2⟩
theorem lt_asymm {a b : E} (h : lt a b) : ¬ lt b a := fun k => lt_irrefl a (lt_trans h k)
theorem lt_or {a b : E} (h : ¬ lt a b) (hn : a.n ≠ b.n ∨ a.at_ ≠ b.at_) : lt b a := by
  by_cases h1 : b.at_ < a.at_
  · exact .inl h1
  · have h2 : ¬ a.at_ < b.at_ := fun h2 => h (.inl h2)
    have h3 : a.at_ = b.at_ := by omega
    have h4 : ¬ a.n.toList < b.n.toList := fun h4 => h (.inr ⟨h3, h4⟩)
    refine .inr ⟨h3.symm, ?_⟩
    have h5 : b.n.toList ≤ a.n.toList := h4
    rcases List.le_iff_lt_or_eq.1 h5 with h6 | h6
    · exact h6
    · rcases hn with hn | hn
      · exact absurd (ba_inj h6).symm hn
      · exact absurd h3 hn
theorem lt_tri (a b : E) : lt a b ∨ a = b ∨ lt b a := by
  by_cases h : lt a b
  · exact .inl h
  · by_cases hn : a.n = b.n
    · by_cases h2 : a.at_ = b.at_
      · exact .inr (.inl (E.ext' hn h2))
      · exact .inr (.inr (lt_or h (.inr h2)))
    · exact .inr (.inr (lt_or h (.inl hn)))
/-- Not ahead carries on. -/
theorem nlt_trans {a b c : E} (h : ¬ lt a b) (k : ¬ lt b c) : ¬ lt a c := by
  intro hac
  rcases lt_tri b a with h1 | h1 | h1
  · exact k (lt_trans h1 hac)
  · exact k (h1 ▸ hac)
  · exact h h1

/-- Places changed. -/
def swp (es : List E) (i j : Nat) (a b : E) : List E := (es.set i b).set j a
theorem swp_len (es : List E) (i j : Nat) (a b : E) : (swp es i j a b).length = es.length := by simp [swp]
theorem swp_at {es : List E} {i j : Nat} {a b : E} (hi : es[i]? = some a) (hj : es[j]? = some b) (k : Nat) : (swp es i j a b)[k]? = if k = j then some a else if k = i then some b else es[k]? := by
  have h1 := (List.getElem?_eq_some_iff.1 hi).1
  have h2 := (List.getElem?_eq_some_iff.1 hj).1
  unfold swp
  rw [List.getElem?_set, List.getElem?_set]
  by_cases hk : j = k
  · subst hk; simp [h2]
  · by_cases hk2 : i = k
    · subst hk2
      simp [hk, h1, Ne.symm hk]
    · simp [hk, hk2, Ne.symm hk, Ne.symm hk2]
theorem swp_mem {es : List E} {i j : Nat} {a b : E} (hi : es[i]? = some a) (hj : es[j]? = some b) (x : E) : x ∈ swp es i j a b ↔ x ∈ es := by
  constructor
  · intro h
    obtain ⟨k, hk⟩ := List.mem_iff_getElem?.1 h
    rw [swp_at hi hj] at hk
    split at hk
    · cases hk; exact List.mem_of_getElem? hi
    · split at hk
      · cases hk; exact List.mem_of_getElem? hj
      · exact List.mem_of_getElem? hk
  · intro h
    obtain ⟨k, hk⟩ := List.mem_iff_getElem?.1 h
    by_cases e1 : k = i
    · subst e1
      rw [hi] at hk; cases hk
      exact List.mem_of_getElem? (i := j) (by rw [swp_at hi hj]; simp)
    · by_cases e2 : k = j
      · subst e2
        rw [hj] at hk; cases hk
        refine List.mem_of_getElem? (i := i) ?_
        rw [swp_at hi hj]
        simp [Ne.symm e1]
      · refine List.mem_of_getElem? (i := k) ?_
        rw [swp_at hi hj]
        simp [e1, e2, hk]

/-- The place k is not ahead of its parent's. -/
def Ok (es : List E) (k : Nat) : Prop := ∀ a b, es[k]? = some a → es[(k - 1) / 2]? = some b → ¬ lt a b
/-- The first n places are a heap. -/
def Hp (es : List E) (n : Nat) : Prop := ∀ k, 0 < k → k < n → Ok es k
/-- A heap but for the place j, which may be ahead of its parent. -/
def Hu (es : List E) (n j : Nat) : Prop :=
  (∀ k, 0 < k → k < n → k ≠ j → Ok es k) ∧ ∀ k, 0 < k → k < n → 0 < j → (k - 1) / 2 = j → ∀ a b, es[k]? = some a → es[(j - 1) / 2]? = some b → ¬ lt a b
/-- A heap but for the place i, behind which its kids may not be; down from i0. -/
def Hd (es : List E) (n i i0 : Nat) : Prop :=
  (∀ k, 0 < k → k < n → (k - 1) / 2 ≠ i → (k = i → i ≠ i0) → Ok es k) ∧ ∀ k, 0 < k → k < n → 0 < i → (k - 1) / 2 = i → ∀ a b, es[k]? = some a → es[(i - 1) / 2]? = some b → ¬ lt a b

theorem Hu.done {es : List E} {n j : Nat} (h : Hu es n j) (hj : 0 < j → j < n → Ok es j) : Hp es n := fun k h0 hk => by
  by_cases e : k = j
  · subst e; exact hj h0 hk
  · exact h.1 k h0 hk e
/-- One step up. -/
theorem Hu.up {es : List E} {n j : Nat} {a b : E} (h : Hu es n j) (hj0 : 0 < j) (hj : j < n) (hn : n ≤ es.length) (ha : es[(j - 1) / 2]? = some a) (hb : es[j]? = some b) (hl : lt b a) : Hu (swp es ((j - 1) / 2) j a b) n ((j - 1) / 2) := by
  have hat := swp_at ha hb
  refine ⟨fun k h0 hk hne x y hx hy => ?_, fun k h0 hk h1 hp x y hx hy => ?_⟩
  · rw [hat] at hx hy
    by_cases e1 : k = j
    · subst e1
      simp only [if_true] at hx
      cases hx
      rw [if_neg (by omega)] at hy
      simp at hy
      subst hy
      exact lt_asymm hl
    · rw [if_neg e1, if_neg hne] at hx
      by_cases e2 : (k - 1) / 2 = j
      · rw [if_pos e2] at hy
        cases hy
        exact h.2 k h0 hk hj0 e2 x a hx ha
      · rw [if_neg e2] at hy
        by_cases e3 : (k - 1) / 2 = (j - 1) / 2
        · rw [if_pos e3] at hy
          cases hy
          exact nlt_trans (h.1 k h0 hk e1 x a hx (by rw [e3]; exact ha)) (lt_asymm hl)
        · rw [if_neg e3] at hy
          exact h.1 k h0 hk e1 x y hx hy
  · rw [hat] at hx hy
    rw [if_neg (by omega), if_neg (by omega)] at hy
    have hpar : ¬ lt a y := h.1 ((j - 1) / 2) h1 (by omega) (by omega) a y ha hy
    by_cases e1 : k = j
    · subst e1
      simp only [if_true] at hx
      cases hx
      exact hpar
    · rw [if_neg e1, if_neg (by omega)] at hx
      exact nlt_trans (h.1 k h0 hk e1 x a hx (by rw [hp]; exact ha)) hpar
/-- Down is over: nothing ahead below. -/
theorem Hd.stop {es : List E} {n i i0 : Nat} (h : Hd es n i i0) (hk : ∀ k, 0 < k → k < n → (k - 1) / 2 = i → Ok es k) (hi : i0 < i) : Hp es n := fun k h0 hk' => by
  by_cases e : (k - 1) / 2 = i
  · exact hk k h0 hk' e
  · exact h.1 k h0 hk' e (fun _ => by omega)
theorem Hd.stay {es : List E} {n i : Nat} (h : Hd es n i i) (hk : ∀ k, 0 < k → k < n → (k - 1) / 2 = i → Ok es k) : Hu es n i :=
  ⟨fun k h0 hk' hne => by
    by_cases e : (k - 1) / 2 = i
    · exact hk k h0 hk' e
    · exact h.1 k h0 hk' e (fun e2 => absurd e2 hne), h.2⟩
/-- One step down. -/
theorem Hd.down {es : List E} {n i i0 j : Nat} {a b : E} (h : Hd es n i i0) (hi0 : i0 ≤ i) (hj0 : 0 < j) (hj : j < n) (hp : (j - 1) / 2 = i) (ha : es[i]? = some a) (hb : es[j]? = some b) (hl : lt b a)
    (hm : ∀ k c, 0 < k → k < n → (k - 1) / 2 = i → es[k]? = some c → ¬ lt c b) : Hd (swp es i j a b) n j i0 := by
  have hat := swp_at ha hb
  have hij : i < j := by omega
  refine ⟨fun k h0 hk hne hki x y hx hy => ?_, fun k h0 hk h1 hp2 x y hx hy => ?_⟩
  · rw [hat] at hx hy
    rw [if_neg hne] at hy
    by_cases e1 : k = j
    · subst e1
      simp only [if_true] at hx
      cases hx
      rw [if_pos hp] at hy
      cases hy
      exact lt_asymm hl
    · rw [if_neg e1] at hx
      by_cases e2 : k = i
      · subst e2
        rw [if_pos rfl] at hx
        cases hx
        rw [if_neg (by omega)] at hy
        exact h.2 j hj0 hj h0 hp _ y hb hy
      · rw [if_neg e2] at hx
        by_cases e3 : (k - 1) / 2 = i
        · rw [if_pos e3] at hy
          cases hy
          exact hm k x h0 hk e3 hx
        · rw [if_neg e3] at hy
          exact h.1 k h0 hk e3 (fun e => absurd e e2) x y hx hy
  · rw [hat] at hx hy
    rw [if_neg (by omega), if_neg (by omega)] at hx
    rw [hp, if_neg (by omega), if_pos rfl] at hy
    cases hy
    exact h.1 k h0 hk (by omega) (fun e => by omega) x b hx (by rw [hp2]; exact hb)
/-- A heap one place of which was given another entry. -/
theorem Hp.turn {es : List E} {n i : Nat} (h : Hp es n) {e : E} (hi : i < n) (hn : n ≤ es.length) : Hd (es.set i e) n i i := by
  refine ⟨fun k h0 hk hne hki x y hx hy => ?_, fun k h0 hk h1 hp x y hx hy => ?_⟩
  · have e1 : i ≠ k := fun e1 => hki e1.symm rfl
    rw [List.getElem?_set] at hx hy
    rw [if_neg e1] at hx
    rw [if_neg (Ne.symm hne)] at hy
    exact h k h0 hk x y hx hy
  · rw [List.getElem?_set] at hx hy
    rw [if_neg (by omega)] at hx
    rw [if_neg (by omega)] at hy
    obtain ⟨z, hz⟩ : ∃ z, es[i]? = some z := ⟨es[i]'(by omega), List.getElem?_eq_getElem _⟩
    exact nlt_trans (h k h0 hk x z hx (by rw [hp]; exact hz)) (h i h1 hi z y hz hy)
/-- The first one is the least. -/
theorem Hp.least {es : List E} {n : Nat} (h : Hp es n) (hn : n ≤ es.length) {f : E} (hf : es[0]? = some f) : ∀ k x, k < n → es[k]? = some x → ¬ lt x f := by
  intro k
  induction k using Nat.strongRecOn with
  | ind k ih =>
    intro x hk hx
    by_cases h0 : k = 0
    · subst h0
      rw [hf] at hx; cases hx
      exact lt_irrefl _
    · obtain ⟨z, hz⟩ : ∃ z, es[(k - 1) / 2]? = some z := ⟨es[(k - 1) / 2]'(by omega), List.getElem?_eq_getElem _⟩
      exact nlt_trans (h k (by omega) hk x z hx hz) (ih ((k - 1) / 2) (by omega) z (by omega) hz)
theorem Hp.congr {es es' : List E} {n : Nat} (h : Hp es n) (he : ∀ k, k < n → es'[k]? = es[k]?) : Hp es' n := fun k h0 hk a b ha hb => h k h0 hk a b (by rw [← he k hk]; exact ha) (by rw [← he _ (by omega)]; exact hb)
theorem Hd.congr {es es' : List E} {n i i0 : Nat} (h : Hd es n i i0) (hi : i < n) (he : ∀ k, k < n → es'[k]? = es[k]?) : Hd es' n i i0 :=
  ⟨fun k h0 hk hne hki a b ha hb => h.1 k h0 hk hne hki a b (by rw [← he k hk]; exact ha) (by rw [← he _ (by omega)]; exact hb), fun k h0 hk h1 hp a b ha hb => h.2 k h0 hk h1 hp a b (by rw [← he k hk]; exact ha) (by rw [← he _ (by omega)]; exact hb)⟩
end Go.Proofs.Ytipcoghhnbgalaa
