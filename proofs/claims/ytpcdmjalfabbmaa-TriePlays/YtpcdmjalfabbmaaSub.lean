/- The entries whose keys begin so: one's own, then those behind each byte. No program. -/
import Derived.Test.YtpcdmjalfabbmaaTm
import Derived.Test.YtpcdmjalfabbmaaSrt
namespace Go.Proofs.Ytpcdmjalfabbmaa
open Go.RowKit Go.Shelf Go.IntWalk Go.Maps
set_option linter.unusedVariables false
def sub (L : List E) (p : K) : List E := L.filter fun x => decide (p <+: x.k)
def own (L : List E) (p : K) : List E := match gt L p with | some v => [⟨p, v⟩] | none => []
theorem mem_sub {L : List E} {p : K} {x : E} : x ∈ sub L p ↔ x ∈ L ∧ p <+: x.k := by simp [sub]
theorem sub_le (L : List E) (p : K) : (sub L p).length ≤ L.length := List.length_filter_le _ _
theorem sub_nil (L : List E) : sub L [] = L := List.filter_eq_self.2 fun x _ => by simp
theorem own_some {L : List E} {p : K} {v : ByteArray} (h : gt L p = some v) : own L p = [⟨p, v⟩] := by simp [own, h]
theorem own_none {L : List E} {p : K} (h : gt L p = none) : own L p = [] := by simp [own, h]
theorem mem_own {L : List E} (hs : Srt L) {p : K} {x : E} : x ∈ own L p ↔ x ∈ L ∧ x.k = p := by
  cases h : gt L p with
  | none =>
    rw [own_none h]
    constructor
    · intro h; cases h
    · rintro ⟨h1, h2⟩
      exact absurd h2 (gt_none h x h1)
  | some v =>
    rw [own_some h]
    constructor
    · intro hx
      simp at hx
      subst hx
      exact ⟨gt_some h, rfl⟩
    · rintro ⟨h1, rfl⟩
      rw [hs.gt h1] at h
      cases h
      simp
theorem snoc_lt {p a b : K} {c d : UInt8} (h1 : p ++ [c] <+: a) (h2 : p ++ [d] <+: b) (h : c < d) : a < b := by
  obtain ⟨x, rfl⟩ := h1
  obtain ⟨y, rfl⟩ := h2
  simp only [List.append_assoc, List.cons_append, List.nil_append]
  induction p with
  | nil => simp [List.cons_lt_cons_iff, h]
  | cons z p ih => simp only [List.cons_append, List.cons_lt_cons_iff]; exact .inr ⟨trivial, ih⟩
theorem pre_lt {p a : K} {c : UInt8} (h : p ++ [c] <+: a) : p < a := by
  obtain ⟨x, rfl⟩ := h
  simp only [List.append_assoc, List.cons_append, List.nil_append]
  induction p with
  | nil => simp
  | cons z p ih => simp only [List.cons_append, List.cons_lt_cons_iff]; exact .inr ⟨trivial, ih⟩
def behind (L : List E) (p : K) (ks : List UInt8) : List E := ks.flatMap fun c => sub L (p ++ [c])
theorem behind_snoc (L : List E) (p : K) (ks : List UInt8) (c : UInt8) : behind L p (ks ++ [c]) = behind L p ks ++ sub L (p ++ [c]) := by simp [behind]
theorem mem_behind {L : List E} {p : K} {ks : List UInt8} {x : E} : x ∈ behind L p ks ↔ ∃ c ∈ ks, x ∈ L ∧ p ++ [c] <+: x.k := by simp [behind, mem_sub]
theorem sub_split {L : List E} (hs : Srt L) (p : K) {ks : List UInt8} (hk : ks.Pairwise fun x y => x < y) (hall : ∀ x ∈ L, ∀ c, p ++ [c] <+: x.k → c ∈ ks) : sub L p = own L p ++ behind L p ks := by
  refine (hs.sub List.filter_sublist).eq ?_ fun x => ?_
  · refine List.pairwise_append.2 ⟨?_, ?_, fun a ha b hb => ?_⟩
    · unfold own
      split <;> simp
    · refine List.pairwise_flatMap.2 ⟨fun c _ => hs.sub List.filter_sublist, hk.imp fun {c d} hcd x hx y hy => ?_⟩
      exact snoc_lt (mem_sub.1 hx).2 (mem_sub.1 hy).2 hcd
    · obtain ⟨c, _, _, h⟩ := mem_behind.1 hb
      rw [((mem_own hs).1 ha).2]
      exact pre_lt h
  · show x ∈ sub L p ↔ _
    rw [mem_sub, List.mem_append, mem_own hs, mem_behind]
    constructor
    · rintro ⟨h1, h2⟩
      by_cases e : p = x.k
      · exact .inl ⟨h1, e.symm⟩
      · obtain ⟨c, l, h3⟩ := pre_strict h2 e
        have h4 : p ++ [c] <+: x.k := by rw [h3]; exact snoc_pre p c l
        exact .inr ⟨c, hall x h1 c h4, h1, h4⟩
    · rintro (⟨h1, rfl⟩ | ⟨c, _, h1, h2⟩)
      · exact ⟨h1, List.prefix_rfl⟩
      · exact ⟨h1, (snoc_ne h2).1⟩
/-- What begins with a place and a byte begins with the kid that way. -/
theorem sub_kid {P : List K} (hc : Cl P) {L : List E} (hL : ∀ x ∈ L, x.k ∈ P) {p q : K} {c : UInt8} (hK : Kid P p q) (hq : p ++ [c] <+: q) : sub L (p ++ [c]) = sub L q := by
  refine List.filter_congr fun x hx => ?_
  rw [decide_eq_decide]
  constructor
  · intro h
    obtain ⟨k, hk, h1, h2⟩ := kid_ex hK.up _ (Nat.le_refl _) (hL x hx) h
    rw [← hk.un hc hK h1 hq]
    exact h2
  · intro h
    exact hq.trans h
/-- Blocks of bytes stay, and what lies below. -/
structure Kb (n : Nat) (A B : World) : Prop where
  b : Below n A B
  s : ∀ (j : Nat) (cs : Array Value), A.heap[j]? = some (Obj.cells cs 5 (0, 0)) → B.heap[j]? = some (Obj.cells cs 5 (0, 0))
theorem Kb.refl (n : Nat) (A : World) : Kb n A A := ⟨Below.refl _ _, fun _ _ h => h⟩
theorem Kb.trans {n : Nat} {A B C : World} (h : Kb n A B) (k : Kb n B C) : Kb n A C := ⟨h.b.trans k.b, fun j cs e => k.s j cs (h.s j cs e)⟩
theorem Kb.grown {n : Nat} {A B : World} (h : A.grownBy B none) (hn : n ≤ A.heap.size) : Kb n A B :=
  ⟨⟨h.os, h.tape, h.output, h.size, fun j hj => h.block j (by omega) (by simp)⟩, fun j cs e => (h.block j (Array.getElem?_eq_some_iff.1 e).1 (by simp)).trans e⟩
theorem Kb.rows {n : Nat} {A B : World} (h : Kb n A B) {base : Nat} {v : Value} {ks : List UInt8} (hb : A.ownsRow base 5 1 v ks.length (ks.map fun c => .int .u8 c.toNat)) : B.ownsRow base 5 1 v ks.length (ks.map fun c => .int .u8 c.toNat) := by
  obtain ⟨h1, h2⟩ := hb
  refine ⟨h1, ?_⟩
  rcases h2 with h2 | ⟨g, cap, cur, rfl, hbg, hg, hr⟩
  · exact .inl h2
  · exact .inr ⟨g, cap, cur, rfl, hbg, h.s _ _ hg, hr⟩
end Go.Proofs.Ytpcdmjalfabbmaa
