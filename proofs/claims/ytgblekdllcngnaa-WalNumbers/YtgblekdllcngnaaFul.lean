/- A log with one record to a segment: what Append, Force and Truncate do to it. -/
import Derived.Test.YtgblekdllcngnaaTru
import Derived.Test.YtgblekdllcngnaaAlv
namespace Go.Proofs.Ytgblekdllcngnaa
open Go.RowKit Go.Shelf Plain Go.IntWalk
set_option linter.unusedVariables false

/-- The numbers s, s + 1, .., n of them. -/
def stR (s n : Nat) : List Int := (List.range n).map fun i => ((s + i : Nat) : Int)
theorem stR_length (s n : Nat) : (stR s n).length = n := by simp [stR]
theorem stR_succ (s n : Nat) : stR s (n + 1) = stR s n ++ [((s + n : Nat) : Int)] := by simp [stR, List.range_succ]
theorem stR_get {s n j : Nat} (h : j < n) : (stR s n)[j]? = some ((s + j : Nat) : Int) := by simp [stR, h]
theorem stR_up (s n : Nat) : (stR s n).Pairwise (· < ·) := by
  unfold stR
  rw [List.pairwise_map]
  exact (List.pairwise_lt_range (n := n)).imp fun h => by omega
theorem stR_drop (s n m : Nat) (h : m ≤ n) : (stR s n).drop m = stR (s + m) (n - m) := by
  apply List.ext_getElem?
  intro j
  rw [List.getElem?_drop]
  by_cases hj : j < n - m
  · rw [stR_get hj, stR_get (by omega : m + j < n)]; congr 2; omega
  · rw [List.getElem?_eq_none (by rw [stR_length]; omega), List.getElem?_eq_none (by rw [stR_length]; omega)]
theorem stR_hld (s n j : Nat) (h : j < n) : hld (stR s n) ((s + j : Nat) : Int) = j := by
  have : ∀ n, (stR s n).countP (fun z => decide (z ≤ ((s + j : Nat) : Int))) = min n (j + 1) := by
    intro n
    induction n with
    | zero => simp [stR]
    | succ n ih =>
      rw [stR_succ, List.countP_append, ih, List.countP_singleton]
      by_cases hn : n ≤ j
      · rw [if_pos (by simp; omega)]; omega
      · rw [if_neg (by simp; omega)]; omega
  unfold hld
  rw [this n]; omega
theorem getS_del_self (n : Int) (l : List Sg) : getS n (delS n l) = none := by
  unfold getS delS
  rw [List.find?_eq_none]
  intro y hy
  simp at hy
  simpa using hy.2
theorem delS_length : ∀ {l : List Sg} (_ : Up l) (n : Int), (getS n l).isSome = true → (delS n l).length + 1 = l.length
  | [], _, n, h => by simp [getS] at h
  | y :: l, hu, n, h => by
    unfold Up at hu
    rw [List.pairwise_cons] at hu
    by_cases hy : y.n = n
    · have : delS n (y :: l) = l := by
        unfold delS
        rw [List.filter_cons, if_neg (by simp [hy])]
        exact List.filter_eq_self.2 fun z hz => by have := hu.1 z hz; simp; omega
      rw [this, List.length_cons]
    · have e1 : delS n (y :: l) = y :: delS n l := by unfold delS; rw [List.filter_cons, if_pos (by simp [hy])]
      have e2 : getS n (y :: l) = getS n l := by unfold getS; rw [List.find?_cons]; simp [hy]
      rw [e2] at h
      rw [e1, List.length_cons, List.length_cons, delS_length hu.2 n h]
/-- The segments of l are s, s + 1, .., n of them. -/
def Nums_ (s n : Nat) (l : List Sg) : Prop := l.length = n ∧ ∀ k : Int, (getS k l).isSome = (decide ((s : Int) ≤ k) && decide (k < (s + n : Nat)))
theorem Nums_.put {s n : Nat} {l : List Sg} (h : Nums_ s n l) (hu : Up l) (x : Sg) (hx : x.n = ((s + n : Nat) : Int)) : Nums_ s (n + 1) (putS x l) := by
  have hno : (getS x.n l).isSome = false := by rw [h.2, hx]; simp
  refine ⟨by rw [putS_length hu, hno]; simp [h.1], fun k => ?_⟩
  by_cases hk : k = x.n
  · subst hk; rw [getS_put_self hu]; simp [hx]; omega
  · rw [getS_put_other hu x hk, h.2, Bool.eq_iff_iff]; simp; omega
theorem Nums_.same {s n : Nat} {l : List Sg} (h : Nums_ s n l) (hu : Up l) (x : Sg) (hx : (getS x.n l).isSome = true) : Nums_ s n (putS x l) := by
  refine ⟨by rw [putS_length hu, hx]; simp [h.1], fun k => ?_⟩
  by_cases hk : k = x.n
  · subst hk; rw [getS_put_self hu, ← h.2, hx]; rfl
  · rw [getS_put_other hu x hk, h.2]
theorem Nums_.del {s n : Nat} {l : List Sg} (h : Nums_ s n l) (hu : Up l) : ∀ j, j ≤ n → Nums_ (s + j) (n - j) (delUp s j l)
  | 0, _ => h
  | j + 1, hj => by
    have ih := Nums_.del h hu j (by omega)
    have huj := hu.delUp (s : Int) j
    have hin : (getS ((s : Int) + j) (delUp s j l)).isSome = true := by rw [ih.2]; simp; omega
    have hlen := delS_length huj _ hin
    refine ⟨by rw [delUp]; have := ih.1; omega, fun k => ?_⟩
    rw [delUp]
    by_cases hk : k = (s : Int) + j
    · subst hk; rw [getS_del_self]; simp; omega
    · rw [getS_del_other huj hk, ih.2, Bool.eq_iff_iff]; simp; omega
/-- A log with one record to a segment. -/
def FI (M : Nat → Prop) (w : World) (lb sb bm s n : Nat) (F : Int) : Prop := ∃ sv l root size, Lgd M w lb sb bm sv l root s (stR s n) size ((s + n : Nat) : Int) F ∧ Nums_ s n l ∧ 0 ≤ size ∧ size ≤ 1024 ∧ (n = 0 ∨ size = 1006)
theorem FI.last {s n : Nat} {l : List Sg} (h : Nums_ s n l) (hn : 0 < n) : ∃ x, getS ((s : Int) + (stR s n).length - 1) l = some x := by
  refine Option.isSome_iff_exists.1 ?_
  rw [h.2, stR_length]; simp; omega
theorem full_append {M : Nat → Prop} {w : World} {lb sb bm s n : Nat} {F : Int} (h : FI M w lb sb bm s n F) (hn : n < 100) (hs : s ≤ 1000) (a : Option Addr) (cap : Nat) (r : List Int) (hb : Bts w.heap.size w (.slice a 1000 cap) r) (hr : okR r) :
    Calls Try.prog 10 #[.pointer (some ⟨lb, 0, none⟩), .slice a 1000 cap] w fun e w' => e = .returned (.tuple #[.int .i64 ((s + n : Nat) : Int), .int .i64 0]) ∧ FI M w' lb sb bm s (n + 1) ((s + n : Nat) : Int) ∧ Kpt M w w' := by
  obtain ⟨sv, l, root, size, hL, hN, hs0, hs1, hs2⟩ := h
  have hx : getS ((s : Int) + (stR s n).length) l = none := by
    have := hN.2 ((s : Int) + (stR s n).length)
    rw [stR_length] at this ⊢
    cases hg : getS ((s : Int) + n) l with
    | none => rfl
    | some y => rw [hg] at this; simp at this
  obtain ⟨l2, hF, hN2, hu2⟩ : ∃ l2, FOk lb sb bm sv l root s (stR s n) size ((s + n : Nat) : Int) F l2 ∧ Nums_ s n l2 ∧ Up l2 := by
    by_cases h0 : n = 0
    · subst h0; exact ⟨l, fok_none, hN, hL.dsk.up⟩
    · obtain ⟨x, hx1⟩ := FI.last hN (by omega)
      exact ⟨_, fok_some (by omega) (by omega) (by rw [stR_length]; omega) (by rw [stR_length]; omega) hx1, hN.same hL.dsk.up _ (by rw [hx1]; rfl), hL.dsk.up.put _⟩
  have hx2 : getS ((s : Int) + (stR s n).length) l2 = none := by
    have := hN2.2 ((s : Int) + (stR s n).length)
    rw [stR_length] at this ⊢
    cases hg : getS ((s : Int) + n) l2 with
    | none => rfl
    | some y => rw [hg] at this; simp at this
  have hl1 := hN.1
  have hl2 := hN2.1
  refine (lappend_next w hL (by omega) (by omega) (by rw [stR_length]; exact hn) l2 hx (by omega) hF hx2 (by omega) a 1000 cap r hb hr hs0 hs1 (by omega) (by omega) ?_).mono ?_
  · rw [stR_length]
    rcases hs2 with h | h
    · exact .inl h
    · exact .inr (by omega)
  · rintro e w' ⟨rfl, ⟨sv', v', hL'⟩, hK⟩
    refine ⟨rfl, ⟨sv', _, root, 6 + ((1000 : Nat) : Int), ?_, hN2.put hu2 ⟨(s : Int) + (stR s n).length, v', frm r, 0⟩ (by dsimp only; rw [stR_length]; omega), by omega, by omega, .inr (by omega)⟩, hK⟩
    rw [stR_succ]
    have e1 : ((s + n : Nat) : Int) + 1 = ((s + (n + 1) : Nat) : Int) := by omega
    rw [← e1]
    exact hL'
theorem full_full {M : Nat → Prop} {w : World} {lb sb bm s : Nat} {F : Int} (h : FI M w lb sb bm s 100 F) (a : Option Addr) (cap : Nat) (r : List Int) (hb : Bts w.heap.size w (.slice a 1000 cap) r) (hr : okR r) :
    Calls Try.prog 10 #[.pointer (some ⟨lb, 0, none⟩), .slice a 1000 cap] w fun e w' => e = .returned (.tuple #[.int .i64 0, .int .i64 41]) ∧ FI M w' lb sb bm s 100 F ∧ Kpt M w w' := by
  obtain ⟨sv, l, root, size, hL, hN, hs0, hs1, hs2⟩ := h
  refine (lappend_full w hL (by rw [stR_length]; omega) (by rw [stR_length]; omega) a 1000 cap r hb hr hs0 hs1 (by omega)).mono ?_
  rintro e w' ⟨rfl, hL', hK⟩
  exact ⟨rfl, ⟨sv, l, root, size, hL', hN, hs0, hs1, hs2⟩, hK⟩
theorem full_force {M : Nat → Prop} {w : World} {lb sb bm s n : Nat} {F : Int} (h : FI M w lb sb bm s n F) (hn : 0 < n) (hn1 : n ≤ 100) (hs : s ≤ 1000) :
    Calls Try.prog 12 #[.pointer (some ⟨lb, 0, none⟩)] w fun e w' => e = .returned (.int .i64 0) ∧ FI M w' lb sb bm s n ((s + n : Nat) : Int) ∧ Kpt M w w' := by
  obtain ⟨sv, l, root, size, hL, hN, hs0, hs1, hs2⟩ := h
  obtain ⟨x, hx⟩ := FI.last hN hn
  refine (force_some w hL (by omega) (by omega) (by rw [stR_length]; omega) (by rw [stR_length]; omega) hx).mono ?_
  rintro e w' ⟨rfl, hL', hK⟩
  exact ⟨rfl, ⟨sv, _, root, size, hL', hN.same hL.dsk.up _ (by rw [hx]; rfl), hs0, hs1, hs2⟩, hK⟩
theorem full_truncate {M : Nat → Prop} {w : World} {lb sb bm s n : Nat} (h : FI M w lb sb bm s n ((s + n : Nat) : Int)) (hs : s ≤ 1000) (hn : n ≤ 100) (m : Nat) (hm0 : 0 < m) (hm : m < n) (x : Int) (hx : Hid (x = ((s + m : Nat) : Int))) :
    Calls Try.prog 13 #[.pointer (some ⟨lb, 0, none⟩), .int .i64 x] w fun e w' => e = .returned (.int .i64 0) ∧ FI M w' lb sb bm (s + m) (n - m) ((s + n : Nat) : Int) ∧ Kpt M w w' := by
  rw [hx.out]
  obtain ⟨sv, l, root, size, hL, hN, hs0, hs1, hs2⟩ := h
  have hf : fst (stR s n) ((s + n : Nat) : Int) = s := by
    obtain ⟨k, rfl⟩ : ∃ k, n = k + 1 := ⟨n - 1, by omega⟩
    simp [fst, stR, List.range_succ_eq_map]
  refine (truncate_some w hL (stR_up s n) (by rw [stR_length]; omega) (by omega) (by omega) ((s + m : Nat) : Int) (by omega) (by rw [hf]; simp; omega) (by simp; omega) m (by show max 0 (hld _ _) = _; rw [stR_hld s n m hm]; omega) hm0 (by rw [stR_length]; exact hm) ((s + m : Nat) : Int) (stR_get hm) (by omega) (by omega) (fun j hj => by rw [hN.2]; simp; omega)).mono ?_
  rintro e w' ⟨rfl, ⟨sv', hL'⟩, hK⟩
  refine ⟨rfl, ⟨sv', delUp s m l, rootB ((s : Int) + (m : Int)) ((s + m : Nat) : Int), size, ?_, hN.del hL.dsk.up m (by omega), hs0, hs1, ?_⟩, hK⟩
  · rw [stR_drop s n m (by omega)] at hL'
    have e1 : ((s : Int) + (m : Int)) = ((s + m : Nat) : Int) := by omega
    have e2 : ((s + m + (n - m) : Nat) : Int) = ((s + n : Nat) : Int) := by omega
    rw [e2]
    rw [e1] at hL' ⊢
    exact hL'
  · rcases hs2 with h | h
    · omega
    · exact .inr h
set_option maxRecDepth 100000 in
set_option maxHeartbeats 1000000 in
/-- belfryref03.Pick. -/
theorem pick_any (c n : Int) (h0 : -9223372036854775808 ≤ c) (h1 : c < 9223372036854775808) (hn : 0 < n) (hn1 : n ≤ 1000000) (w : World) :
    Calls Try.prog 15 #[.int .i64 c, .int .i64 n] w fun e w' => ∃ k, e = .returned (.int .i64 k) ∧ 0 ≤ k ∧ k < n ∧ w' = w := by
  have hne : (n == 0) = false := beq_eq_false_iff_ne.2 (by omega)
  by_cases hc : c < 0
  · have hd : decide (c < 0) = true := by simpa using hc
    have ht : (-(c + 1)).tmod n = (-(c + 1)) % n := Int.tmod_eq_emod_of_nonneg (by omega)
    have hk0 := Int.emod_nonneg (-(c + 1)) (b := n) (by omega)
    have hk1 := Int.emod_lt_of_pos (-(c + 1)) hn
    go_enter Try.func15, Try.ntmps15
    go_wp2
    go_ret
    exact ⟨_, rfl, by assumption, by assumption, rfl⟩
  · have hd : decide (c < 0) = false := by simpa using hc
    have ht : c.tmod n = c % n := Int.tmod_eq_emod_of_nonneg (by omega)
    have hk0 := Int.emod_nonneg c (b := n) (by omega)
    have hk1 := Int.emod_lt_of_pos c hn
    go_enter Try.func15, Try.ntmps15
    go_wp2
    go_ret
    exact ⟨_, rfl, by assumption, by assumption, rfl⟩
end Go.Proofs.Ytgblekdllcngnaa
