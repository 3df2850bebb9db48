/- Longest. -/
import Derived.Test.YtpcdmjalfabbmaaDro
namespace Go.Proofs.Ytpcdmjalfabbmaa
open Go.RowKit Go.Shelf Go.IntWalk Go.Maps
set_option linter.unusedVariables false
attribute [local go_sem] Oper.semAt_some
/-- The last one of these that has a value. -/
def lgo (L : List E) : List K → Option E
  | ys => ys.foldl (fun o p => match gt L p with | none => o | some v => some ⟨p, v⟩) none
theorem lgo_snoc (L : List E) (ys : List K) (x : K) : lgo L (ys ++ [x]) = match gt L x with | none => lgo L ys | some v => some ⟨x, v⟩ := by
  simp only [lgo, List.foldl_append, List.foldl_cons, List.foldl_nil]
/-- The entry with the longest key that begins one. -/
def lgs (L : List E) (k : K) : Option E := (L.filter fun x => decide (x.k <+: k)).foldl (fun o x => match o with | none => some x | some y => if y.k.length < x.k.length then some x else some y) none
/-- What it is. -/
def IsLong (L : List E) (k : K) : Option E → Prop
  | none => ∀ x ∈ L, ¬ x.k <+: k
  | some y => y ∈ L ∧ y.k <+: k ∧ ∀ x ∈ L, x.k <+: k → x.k <+: y.k
theorem IsLong.un {L : List E} (hs : Srt L) {k : K} : ∀ {o o' : Option E}, IsLong L k o → IsLong L k o' → o = o'
  | none, none, _, _ => rfl
  | none, some y, h, h' => absurd h'.2.1 (h y h'.1)
  | some y, none, h, h' => absurd h.2.1 (h' y h.1)
  | some x, some y, h, h' => by
    have e := pre_anti (h'.2.2 x h.1 h.2.1) (h.2.2 y h'.1 h'.2.1)
    rw [hs.un h.1 h'.1 e]
/-- Those along a key: the last one with a value is it. -/
theorem lgo_long {P : List K} {L : List E} (hs : Srt L) (hk : ∀ p, (gt L p).isSome = true → p ∈ P) (k : K) : ∀ n, (match lgo L (al P k n) with
    | none => ∀ x ∈ L, x.k <+: k → n ≤ x.k.length
    | some y => y ∈ L ∧ y.k <+: k ∧ ∀ x ∈ L, x.k <+: k → x.k <+: y.k ∨ n ≤ x.k.length)
  | 0 => by
    simp only [al_zero, lgo, List.foldl_nil]
    intro x _ _
    omega
  | n + 1 => by
    have ih := lgo_long hs hk k n
    rw [al_succ]
    have cut : ∀ x ∈ L, x.k <+: k → n ≤ x.k.length → x.k = k.take n ∨ n + 1 ≤ x.k.length := fun x _ hx hn => by
      by_cases e : x.k.length = n
      · left
        have := List.prefix_iff_eq_take.1 hx
        rw [e] at this
        exact this
      · right; omega
    by_cases hP : k.take n ∈ P
    · rw [if_pos hP, lgo_snoc]
      cases hg : gt L (k.take n) with
      | none =>
        simp only
        have hno := gt_none hg
        cases ho : lgo L (al P k n) with
        | none =>
          rw [ho] at ih
          simp only at ih ⊢
          intro x hx hxk
          rcases cut x hx hxk (ih x hx hxk) with e | e
          · exact absurd e (hno x hx)
          · exact e
        | some y =>
          rw [ho] at ih
          simp only at ih ⊢
          refine ⟨ih.1, ih.2.1, fun x hx hxk => ?_⟩
          rcases ih.2.2 x hx hxk with e | e
          · exact .inl e
          · rcases cut x hx hxk e with e | e
            · exact absurd e (hno x hx)
            · exact .inr e
      | some v =>
        simp only
        refine ⟨gt_some hg, List.take_prefix n k, fun x hx hxk => ?_⟩
        by_cases e : n + 1 ≤ x.k.length
        · exact .inr e
        · refine .inl ?_
          rw [List.prefix_iff_eq_take.1 hxk]
          exact List.take_prefix_take_left (by omega)
    · rw [if_neg hP, List.append_nil]
      have hno : ∀ x ∈ L, x.k ≠ k.take n := fun x hx e => hP (e ▸ hk x.k (by rw [hs.gt hx]; rfl))
      cases ho : lgo L (al P k n) with
      | none =>
        rw [ho] at ih
        simp only at ih ⊢
        intro x hx hxk
        rcases cut x hx hxk (ih x hx hxk) with e | e
        · exact absurd e (hno x hx)
        · exact e
      | some y =>
        rw [ho] at ih
        simp only at ih ⊢
        refine ⟨ih.1, ih.2.1, fun x hx hxk => ?_⟩
        rcases ih.2.2 x hx hxk with e | e
        · exact .inl e
        · rcases cut x hx hxk e with e | e
          · exact absurd e (hno x hx)
          · exact .inr e
theorem lgo_is {P : List K} {L : List E} (hs : Srt L) (hk : ∀ p, (gt L p).isSome = true → p ∈ P) (k : K) : IsLong L k (lgo L (al P k (k.length + 1))) := by
  have h := lgo_long hs hk k (k.length + 1)
  cases ho : lgo L (al P k (k.length + 1)) with
  | none =>
    rw [ho] at h
    simp only at h
    intro x hx hxk
    have := h x hx hxk
    have := hxk.length_le
    omega
  | some y =>
    rw [ho] at h
    simp only at h
    refine ⟨h.1, h.2.1, fun x hx hxk => ?_⟩
    rcases h.2.2 x hx hxk with e | e
    · exact e
    · have := hxk.length_le
      omega
end Go.Proofs.Ytpcdmjalfabbmaa
