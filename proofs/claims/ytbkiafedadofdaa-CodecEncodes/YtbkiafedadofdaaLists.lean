/- Lists of fields that a call makes itself: what they own, what can be read of them, what an append adds. -/
import Derived.Test.YtbkiafedadofdaaFew
namespace Go.Proofs.Ytbkiafedadofdaa
open Go.RowKit Go.Shelf Plain Go.IntWalk
set_option linter.unusedVariables false

theorem Try.info37 : (Try.prog.info? 37).map (fun i => (i.zero, i.size, i.bytes)) = some (some (.agg #[.int .i64 0, .slice none 0 0]), 2, 32) := by kernel_rfl

/-- The cells of fields. -/
def cellsF (x : Fd) : List Value := [.int .i64 x.tag, .slice x.a x.len x.cap]
def cellsL (xs : List Fd) : List Value := xs.flatMap cellsF
theorem cellsL_append (xs ys : List Fd) : cellsL (xs ++ ys) = cellsL xs ++ cellsL ys := List.flatMap_append
theorem cellsL_cons (x : Fd) (xs : List Fd) : cellsL (x :: xs) = .int .i64 x.tag :: .slice x.a x.len x.cap :: cellsL xs := rfl
theorem cellsL_length (xs : List Fd) : (cellsL xs).length = xs.length * 2 := by
  induction xs with
  | nil => rfl
  | cons x xs ih => rw [cellsL_cons, List.length_cons, List.length_cons, List.length_cons, ih]; omega
theorem cellsL_get (xs : List Fd) (j : Nat) (x : Fd) (h : xs[j]? = some x) : (cellsL xs)[j * 2]? = some (.int .i64 x.tag) ∧ (cellsL xs)[j * 2 + 1]? = some (.slice x.a x.len x.cap) := by
  induction xs generalizing j with
  | nil => simp at h
  | cons y ys ih =>
    cases j with
    | zero => simp at h; subst h; exact ⟨rfl, rfl⟩
    | succ j =>
      rw [List.getElem?_cons_succ] at h
      have := ih j h
      rw [cellsL_cons, show (j + 1) * 2 = j * 2 + 1 + 1 from by omega, List.getElem?_cons_succ, List.getElem?_cons_succ, List.getElem?_cons_succ, List.getElem?_cons_succ]
      exact this
theorem cellsL_one (xs : List Fd) : ∀ u ∈ cellsL xs, u.oneCell' = true := by
  intro u hu
  obtain ⟨x, _, hx⟩ := List.mem_flatMap.1 hu
  simp only [cellsF, List.mem_cons, List.not_mem_nil, or_false] at hx
  rcases hx with rfl | rfl <;> rfl
theorem cellsL_set (xs : List Fd) (j : Nat) (x y : Fd) (h : xs[j]? = some x) (ht : y.tag = x.tag) : (cellsL xs).set (j * 2 + 1) (.slice y.a y.len y.cap) = cellsL (xs.set j y) := by
  induction xs generalizing j with
  | nil => simp at h
  | cons z zs ih =>
    cases j with
    | zero =>
      simp at h; subst h
      simp only [Nat.zero_mul, Nat.zero_add, List.set_cons_zero, cellsL_cons, ht]
      rfl
    | succ j =>
      rw [List.getElem?_cons_succ] at h
      rw [cellsL_cons, show (j + 1) * 2 + 1 = j * 2 + 1 + 1 + 1 from by omega, List.set_cons_succ, List.set_cons_succ, ih j h, List.set_cons_succ, cellsL_cons]

/-- What the call itself made. -/
theorem Flds.of_own {W : World} {base : Nat} {v : Value} {xs : List Fd} {k : Nat} (h : W.ownsRow base 37 2 v k (cellsL xs)) (hz : ∀ x ∈ xs, x.ok W.heap.size W) : Flds W.heap.size W v xs := by
  have hk : xs.length = k := by have := h.1; rw [cellsL_length] at this; omega
  refine ⟨?_, hz⟩
  rcases h.2 with ⟨rfl, h0⟩ | ⟨g, cap, cur, rfl, hb, hg, hn, hm, hs, ht⟩
  · exact .inl ⟨.inl rfl, List.eq_nil_of_length_eq_zero (by omega)⟩
  · refine .inr ⟨g, 0, cap, by rw [hk], (Array.getElem?_eq_some_iff.1 hg).1, by omega, hm, fun j x hj => ?_⟩
    have hadd : ∀ i, (⟨g, 0, none⟩ : Addr).add i = ⟨g, 0 + i, none⟩ := fun i => by unfold Addr.add; split <;> simp_all
    obtain ⟨c1, c2⟩ := cellsL_get xs j x hj
    have d1 := h.cells (g := g) rfl _ _ c1
    have d2 := h.cells (g := g) rfl _ _ c2
    rw [hadd] at d1 d2
    rw [Nat.add_assoc]
    exact ⟨d1, d2⟩

/-- 'append(xs, ys...)', xs the call's own fields, ys whatever fields can be read. -/
theorem wpList_append_flds (w : World) {ops : Array Oper} {rest : List Oper} {o : Oper} {a : Act} {Q : Exit → Act → World → Prop}
    (hg : o.guard = none) (s x : Operand) (hop : o.op = Op.call { callee := Callee.builtin Builtin.append, args := #[s, x], argTypes := #[22, 22] })
    (base n₀ : Nat) (v sv : Value) (k : Nat) (xs ys : List Fd) (hs : a.eval s = v) (hx : a.eval x = sv) (hown : w.ownsRow base 37 2 v k (cellsL xs)) (hz : Flds n₀ w sv ys)
    (b1 : k + ys.length ≤ 4398046511104) (b3 : base ≤ w.heap.size)
    (hK : ∀ v' w', w'.ownsRow base 37 2 v' (k + ys.length) (cellsL (xs ++ ys)) → w.grownBy w' v.ownBlock → wpList Try.prog ops Q rest (a.put o.dst v') w') :
    wpList Try.prog ops Q (o :: rest) a w := by
  obtain ⟨i0, hi, hz0, hz1, hz2⟩ := info_parts Try.info37
  obtain ⟨⟨rfl | ⟨ad, cap, rfl⟩, rfl⟩ | ⟨b, off, cap, rfl, hb, hl, hm, hc⟩, hzz⟩ := hz
  · refine wpList_plain hg fun K hK' => ?_
    have hrun := run_append_owned_none (P := Try.prog) (w := w) base 22 o.type 37 i0 2 Try.underlying22 hi v k _ hown
    unfold Oper.wp
    simp [execOp, hop, resolve, invoke, builtin, hs, hx, hrun, Result.andThen]
    exact hK' _ _ (hK v w (by simpa using hown) ⟨rfl, rfl, rfl, Nat.le_refl _, fun _ _ _ => rfl⟩)
  · refine wpList_append_own w hg s x 22 hop base 37 i0 (.agg #[.int .i64 0, .slice none 0 0]) 2 32 Try.underlying22 hi hz0 hz1 hz2 rfl (by decide) v k _ hs hown ad 0 cap [] hx (by simp) (fun j u hj => by simp at hj) (fun u hu => by cases hu) (by unfold maxLen; simp at b1; omega) (by simp at b1; omega) b3 ?_
    intro v' w' h1 h2 _
    exact hK v' w' (by simpa using h1) h2
  · refine wpList_append_own w hg s x 22 hop base 37 i0 (.agg #[.int .i64 0, .slice none 0 0]) 2 32 Try.underlying22 hi hz0 hz1 hz2 rfl (by decide) v k _ hs hown ⟨b, off, none⟩ ys.length cap (cellsL ys) hx (cellsL_length ys) ?_ (cellsL_one ys) (by unfold maxLen; omega) (by omega) b3 ?_
    · intro j u hj
      have hadd : (⟨b, off, none⟩ : Addr).add j = ⟨b, off + j, none⟩ := by unfold Addr.add; split <;> simp_all
      have hjl : j < ys.length * 2 := by
        rcases Nat.lt_or_ge j (ys.length * 2) with h | h
        · exact h
        · rw [List.getElem?_eq_none (by rw [cellsL_length]; exact h)] at hj; cases hj
      have hyj : ys[j / 2]? = some (ys[j / 2]'(by omega)) := List.getElem?_eq_getElem _
      obtain ⟨c1, c2⟩ := cellsL_get ys (j / 2) _ hyj
      obtain ⟨d1, d2⟩ := hc (j / 2) _ hyj
      rw [hadd]
      rcases (show j = j / 2 * 2 ∨ j = j / 2 * 2 + 1 from by omega) with h | h
      · rw [← h] at c1 d1
        rw [c1] at hj; cases hj
        exact d1
      · rw [← h] at c2
        rw [Nat.add_assoc, ← h] at d2
        rw [c2] at hj; cases hj
        exact d2
    · intro v' w' h1 h2 _
      exact hK v' w' (by rw [cellsL_append]; exact h1) h2

/-- The empty list that a literal lays. -/
theorem lit0 (W : World) (base : Nat) (hb : base ≤ W.heap.size) : (W.alloc (.cells #[] 37)).ownsRow base 37 2 (.slice (some ⟨W.heap.size, 0, none⟩) 0 0) 0 (cellsL []) :=
  World.ownsRow_lit W #[] 0 hb (by unfold maxLen; omega) rfl
end Go.Proofs.Ytbkiafedadofdaa
