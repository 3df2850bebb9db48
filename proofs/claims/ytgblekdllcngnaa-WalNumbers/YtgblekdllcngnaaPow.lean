/- What a disk's Power does. -/
import Derived.Test.YtgblekdllcngnaaNums
namespace Go.Proofs.Ytgblekdllcngnaa
open Go.RowKit Go.IntWalk Go.Maps Go.Sort
set_option linter.unusedVariables false

/-- Ints that can be read. -/
def Ins (n₀ : Nat) (W : World) (v : Value) (zs : List Int) : Prop :=
  (((v = .slice none 0 0 ∨ ∃ ad cap, v = .slice (some ad) 0 cap) ∧ zs = []) ∨ ∃ b off cap, v = .slice (some ⟨b, off, none⟩) zs.length cap ∧ b < n₀ ∧ zs.length ≤ cap ∧ cap ≤ maxLen ∧ ∀ j, j < zs.length → W.cell? ⟨b, off + j, none⟩ = some (.int .i64 (zs[j]?.getD 0))) ∧ ∀ z ∈ zs, -9223372036854775808 ≤ z ∧ z < 9223372036854775808
theorem Ins.shape {n₀ : Nat} {W : World} {v : Value} {zs : List Int} (h : Ins n₀ W v zs) : ∃ a cap, v = .slice a zs.length cap := by
  obtain ⟨⟨rfl | ⟨ad, cap, rfl⟩, rfl⟩ | ⟨b, off, cap, rfl, _⟩, _⟩ := id h <;> exact ⟨_, _, rfl⟩
theorem Ins.grown0 {W W' : World} {v : Value} {zs : List Int} (h : Ins W.heap.size W v zs) (hg : W.grownBy W' none) : Ins W'.heap.size W' v zs := by
  obtain ⟨e | ⟨b, off, cap, e, hb, hl, hm, hc⟩, hz⟩ := h
  · exact ⟨.inl e, hz⟩
  · exact ⟨.inr ⟨b, off, cap, e, Nat.lt_of_lt_of_le hb hg.size, hl, hm, fun j hj => grown_cell hg (hc j hj)⟩, hz⟩
theorem Ins.at {n₀ : Nat} {W : World} {a : Option Addr} {cap len : Nat} {zs : List Int} (h : Ins n₀ W (.slice a len cap) zs) {j : Nat} (hj : j < zs.length) :
    ∃ b off, a = some ⟨b, off, none⟩ ∧ b < n₀ ∧ W.cell? ⟨b, off + j, none⟩ = some (.int .i64 (zs[j]?.getD 0)) := by
  obtain ⟨⟨_, rfl⟩ | ⟨b, off, c, e, hb, hl, hm, hc⟩, hz⟩ := h
  · simp at hj
  · simp only [Value.slice.injEq] at e
    exact ⟨b, off, e.1, hb, hc j hj⟩

/-- Which of m + 1 a number speaks of. -/
def cr (k m : Int) : Int := (if k < 0 then -(k + 1) else k) % (m + 1)
theorem cr_lo (k m : Int) (hm : 0 ≤ m) : 0 ≤ cr k m := Int.emod_nonneg _ (by omega)
theorem cr_hi (k m : Int) (hm : 0 ≤ m) : cr k m ≤ m := by
  have := Int.emod_lt_of_pos (if k < 0 then -(k + 1) else k) (show 0 < m + 1 by omega)
  unfold cr
  omega
set_option maxRecDepth 100000 in
set_option maxHeartbeats 1000000 in
/-- disk.countRound. -/
theorem countRound_any (k m c : Int) (hc : Hid (c = cr k m)) (hk0 : -9223372036854775808 ≤ k) (hk1 : k < 9223372036854775808) (hm0 : 0 ≤ m) (hm1 : m ≤ 100000) (w : World) :
    Calls Try.prog 39 #[.int .i64 k, .int .i64 m] w fun e w' => e = .returned (.int .i64 c) ∧ w = w' := by
  have hwm : IntKind.i64.wrap (m + 1) = m + 1 := by rw [IntKind.wrap_i64]; omega
  have hz : (m + 1 == 0) = false := by simp; omega
  have hne : ¬ m + 1 = 0 := by omega
  by_cases hk : k < 0
  · have hd : decide (k < 0) = true := by simpa using hk
    have hw1 : IntKind.i64.wrap (k + 1) = k + 1 := by rw [IntKind.wrap_i64]; omega
    have hw2 : IntKind.i64.wrap (-(k + 1)) = -(k + 1) := by rw [IntKind.wrap_i64]; omega
    have hr : (-(k + 1)).tmod (m + 1) = c := by
      rw [hc.out, cr, if_pos hk]
      exact Int.tmod_eq_emod_of_nonneg (by omega)
    have hlo := cr_lo k m hm0
    have hhi := cr_hi k m hm0
    have hwc : IntKind.i64.wrap c = c := by rw [hc.out, IntKind.wrap_i64]; omega
    clear hlo hhi hk
    go_enter Try.func39, Try.ntmps39
    go_wp2
    go_ret
    exact ⟨rfl, rfl⟩
  · have hd : decide (k < 0) = false := by simpa using hk
    have hr : k.tmod (m + 1) = c := by
      rw [hc.out, cr, if_neg hk]
      exact Int.tmod_eq_emod_of_nonneg (by omega)
    have hlo := cr_lo k m hm0
    have hhi := cr_hi k m hm0
    have hwc : IntKind.i64.wrap c = c := by rw [hc.out, IntKind.wrap_i64]; omega
    clear hlo hhi hk
    go_enter Try.func39, Try.ntmps39
    go_wp2
    go_ret
    exact ⟨rfl, rfl⟩

/-- How many bytes of a segment power leaves. -/
def pn (k : Option Int) (x : Sg) : Int := match k with | some k => x.s + cr k (x.b.length - x.s) | none => x.s
def Sg.abs (x : Sg) : Int × List Int × Int := (x.n, x.b, x.s)
def pwItem (k : Option Int) (x : Sg) : List (Int × List Int × Int) := if 0 < pn k x then [(x.n, x.b.take (pn k x).toNat, pn k x)] else []
def powN (ks : List Int) (l : List Sg) (j : Nat) : List (Int × List Int × Int) := (List.range j).flatMap fun i => match l[i]? with | some x => pwItem ks[i]? x | none => []
/-- What power leaves of the segments. -/
def powS (ks : List Int) (l : List Sg) : List (Int × List Int × Int) := powN ks l l.length
theorem powN_succ {ks : List Int} {l : List Sg} {j : Nat} {x : Sg} (hx : l[j]? = some x) : powN ks l (j + 1) = powN ks l j ++ pwItem ks[j]? x := by
  simp [powN, List.range_succ, List.flatMap_append, hx]
theorem powN_mem {ks : List Int} {l : List Sg} {j : Nat} {y : Int × List Int × Int} (h : y ∈ powN ks l j) : ∃ i x, i < j ∧ l[i]? = some x ∧ y.1 = x.n := by
  obtain ⟨i, hi, hy⟩ := List.mem_flatMap.1 h
  cases hx : l[i]? with
  | none => simp [hx] at hy
  | some x =>
    rw [hx] at hy
    refine ⟨i, x, List.mem_range.1 hi, hx, ?_⟩
    simp only [pwItem] at hy
    split at hy
    · simp at hy
      rw [hy]
    · simp at hy
theorem powN_len (ks : List Int) (l : List Sg) : ∀ j, (powN ks l j).length ≤ j
  | 0 => by simp [powN]
  | j + 1 => by
    have ih := powN_len ks l j
    cases hx : l[j]? with
    | none =>
      have e : powN ks l (j + 1) = powN ks l j := by simp [powN, List.range_succ, List.flatMap_append, hx]
      rw [e]
      omega
    | some x =>
      rw [powN_succ hx, List.length_append]
      have : (pwItem ks[j]? x).length ≤ 1 := by
        unfold pwItem
        split <;> simp
      omega
theorem putS_last {l : List Sg} {x : Sg} (h : ∀ y ∈ l, y.n < x.n) : putS x l = l ++ [x] := by
  unfold putS
  rw [List.filter_eq_self.2 fun y hy => by simpa using h y hy, List.filter_eq_nil_iff.2 fun y hy => by have := h y hy; simp; omega]
theorem pn_lo {k : Option Int} {x : Sg} (h0 : 0 ≤ x.s) (h1 : x.s ≤ x.b.length) : x.s ≤ pn k x ∧ pn k x ≤ x.b.length := by
  cases k with
  | none => exact ⟨Int.le_refl _, h1⟩
  | some k =>
    have := cr_lo k (x.b.length - x.s) (by omega)
    have := cr_hi k (x.b.length - x.s) (by omega)
    unfold pn
    dsimp only
    omega
end Go.Proofs.Ytgblekdllcngnaa
