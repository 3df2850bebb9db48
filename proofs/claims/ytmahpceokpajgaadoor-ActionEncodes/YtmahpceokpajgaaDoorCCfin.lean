/- Own lists of fields; regions that only read; bytes.Clone in a round of a range over a function. -/
import Derived.Test.YtmahpceokpajgaaDoorCEnca
import Derived.Deep.QuietTactic
import Derived.BigQuiet
import Derived.Lib.SliceRun
namespace Go.Proofs.YtmahpceokpajgaaDoor.C
open Go.RowKit Go.Shelf Plain Go.IntWalk
set_option linter.unusedVariables false
attribute [local go_sem] Oper.semAt_some

theorem Tryd.info55 : (Tryd.prog.info? 55).map (fun i => (i.zero, i.size, i.bytes)) = some (some (.agg #[.int .i64 0, .slice none 0 0]), 2, 32) := by kernel_rfl

/-- The cells of fields. -/
def cellsF (x : Fd) : List Value := [.int .i64 x.tag, .slice x.a x.len x.cap]
def cellsL (xs : List Fd) : List Value := xs.flatMap cellsF
theorem cellsL_append (xs ys : List Fd) : cellsL (xs ++ ys) = cellsL xs ++ cellsL ys := List.flatMap_append
theorem cellsL_cons (x : Fd) (xs : List Fd) : cellsL (x :: xs) = .int .i64 x.tag :: .slice x.a x.len x.cap :: cellsL xs := rfl
theorem cellsL_length (xs : List Fd) : (cellsL xs).length = xs.length * 2 := by
  induction xs with
  | nil => rfl
  | cons x xs ih => rw [cellsL_cons, List.length_cons, List.length_cons, List.length_cons, ih]; omega
theorem cellsL_get (xs : List Fd) (j : Nat) (x : Fd) (h : xs[j]? = some x) : (cellsL xs)[j * 2]? = some (.int .i64 x.tag) ∧ (cellsL xs)[j * 2 + 1]? = some (.slice x.a x.len x.cap) := by
  induction xs generalizing j with
  | nil => simp at h
  | cons y ys ih =>
    cases j with
    | zero => simp at h; subst h; exact ⟨rfl, rfl⟩
    | succ j =>
      rw [List.getElem?_cons_succ] at h
      have := ih j h
      rw [cellsL_cons, show (j + 1) * 2 = j * 2 + 1 + 1 from by omega, List.getElem?_cons_succ, List.getElem?_cons_succ, List.getElem?_cons_succ, List.getElem?_cons_succ]
      exact this
theorem cellsL_one (xs : List Fd) : ∀ u ∈ cellsL xs, u.oneCell' = true := by
  intro u hu
  obtain ⟨x, _, hx⟩ := List.mem_flatMap.1 hu
  simp only [cellsF, List.mem_cons, List.not_mem_nil, or_false] at hx
  rcases hx with rfl | rfl <;> rfl
theorem cellsL_set (xs : List Fd) (j : Nat) (x y : Fd) (h : xs[j]? = some x) (ht : y.tag = x.tag) : (cellsL xs).set (j * 2 + 1) (.slice y.a y.len y.cap) = cellsL (xs.set j y) := by
  induction xs generalizing j with
  | nil => simp at h
  | cons z zs ih =>
    cases j with
    | zero =>
      simp at h; subst h
      simp only [Nat.zero_mul, Nat.zero_add, List.set_cons_zero, cellsL_cons, ht]
      rfl
    | succ j =>
      rw [List.getElem?_cons_succ] at h
      rw [cellsL_cons, show (j + 1) * 2 + 1 = j * 2 + 1 + 1 + 1 from by omega, List.set_cons_succ, List.set_cons_succ, ih j h, List.set_cons_succ, cellsL_cons]

/-- What the call itself made. -/
theorem Flds.of_own {W : World} {base : Nat} {v : Value} {xs : List Fd} {k : Nat} (h : W.ownsRow base 55 2 v k (cellsL xs)) (hz : ∀ x ∈ xs, x.ok W.heap.size W) : Flds W.heap.size W v xs := by
  have hk : xs.length = k := by have := h.1; rw [cellsL_length] at this; omega
  refine ⟨?_, hz⟩
  rcases h.2 with ⟨rfl, h0⟩ | ⟨g, cap, cur, rfl, hb, hg, hn, hm, hs, ht⟩
  · exact .inl ⟨.inl rfl, List.eq_nil_of_length_eq_zero (by omega)⟩
  · refine .inr ⟨g, 0, cap, by rw [hk], (Array.getElem?_eq_some_iff.1 hg).1, by omega, hm, fun j x hj => ?_⟩
    have hadd : ∀ i, (⟨g, 0, none⟩ : Addr).add i = ⟨g, 0 + i, none⟩ := fun i => by unfold Addr.add; split <;> simp_all
    obtain ⟨c1, c2⟩ := cellsL_get xs j x hj
    have d1 := h.cells (g := g) rfl _ _ c1
    have d2 := h.cells (g := g) rfl _ _ c2
    rw [hadd] at d1 d2
    rw [Nat.add_assoc]
    exact ⟨d1, d2⟩

/-- A world in which whatever lay in w lies as it lay. -/
structure Lat (w : World) where
  W : World
  h : Below w.heap.size w W
theorem wp_region_lat {P : Program} {id : Nat} {Q : Exit → Act → World → Prop} {a : Act} {w : World} {l : List Oper} (hm : P.follows .mixedOrders = true) (hB : Region.lexB .any l.toArray = true)
    (h : wpQuiet P l.toArray (fun w' => ∃ p : Lat w, w' = p.W) (fun a' => ∀ w', (∃ p : Lat w, w' = p.W) → Q .normal a' w') l a) : (Code.region id l.toArray true).wp P Q a w :=
  wp_region_quiet (C := fun w' => ∃ p : Lat w, w' = p.W) hm hB ⟨⟨_, (Below.refl _ w).drew⟩, rfl⟩ (by simpa using h)
theorem lat_nonempty (w : World) : Nonempty (Lat w) := ⟨⟨w, Below.refl _ _⟩⟩
theorem lat_cell {w : World} {b o : Nat} {v : Value} (h : w.cell? ⟨b, o, none⟩ = some v) (p : Lat w) : p.W.cell? ⟨b, o, none⟩ = some v := (p.h.cell (p := ⟨b, o, none⟩) (World.block_lt_of_cell? w _ h)).trans h
theorem lit_zero (W : World) (base : Nat) (hb : base ≤ W.heap.size) : (W.alloc (.cells #[] 5)).ownsRow base 5 1 (.slice (some ⟨W.heap.size, 0, none⟩) 0 0) 0 (([] : List Int).map (Value.int .u8)) :=
  World.ownsRow_lit W #[] 0 hb (by unfold maxLen; omega) rfl

set_option maxRecDepth 100000 in
set_option maxHeartbeats 1000000 in
theorem clone_in (F : Fence) (n : Nat) (h : F.fn 42) (hro : F.round = none) (n₀ : Nat) (a : Option Addr) (len cap : Nat) (zs : List Int) (w : World) (hz : Bts n₀ w (.slice a len cap) zs) (hl : zs.length ≤ 140737488355328) (hn : n₀ ≤ w.heap.size) :
    CallsIn F n Tryd.prog 42 #[.slice a len cap] w fun e w' => ∃ a' c', e = .returned (.slice a' zs.length c') ∧ w'.ownsRow w.heap.size 5 1 (.slice a' zs.length c') zs.length (zs.map (Value.int .u8)) ∧ Below w.heap.size w w' ∧ KeepsOthers w w' := by
  have hq := fun (w : World) (a : Option Addr) (n c n' c' : Nat) => Lib.run_eql_slice_nil (P := Tryd.prog) w 23 5 a n c n' c' Tryd.underlying23
  cases a with
  | none =>
    have e : len = 0 ∧ cap = 0 ∧ zs = [] := by
      obtain ⟨⟨e | ⟨ad, c, e⟩, h⟩ | ⟨b, off, c, e, _⟩, _⟩ := hz
      · simp at e; exact ⟨e.1, e.2, h⟩
      · simp at e
      · simp at e
    obtain ⟨rfl, rfl, rfl⟩ := e
    refine callsIn_of_wp Tryd.func42 rfl h ?_ hro
    simp only [Tryd.ntmps42, List.size_toArray, List.length_cons, List.length_nil, Nat.reduceAdd, Nat.reduceSub, Array.replicate_succ, Array.replicate_zero, List.push_toArray, List.append_toArray, List.nil_append, List.cons_append]
    gi_wp2
    go_ret
    exact ⟨none, 0, rfl, World.ownsRow_nil _ _ _ _, Below.refl _ _, KeepsOthers.refl _⟩
  | some ad =>
    refine callsIn_of_wp Tryd.func42 rfl h ?_ hro
    simp only [Tryd.ntmps42, List.size_toArray, List.length_cons, List.length_nil, Nat.reduceAdd, Nat.reduceSub, Array.replicate_succ, Array.replicate_zero, List.push_toArray, List.append_toArray, List.nil_append, List.cons_append]
    gi_wp2_with (gi_at_builtin; go_must (refine wpListIn_append_bts _ rfl (.tmp 5) (.tmp 6) rfl w.heap.size n₀ _ _ _ [] zs rfl rfl (lit_zero w _ (Nat.le_refl _)) (hz.below ((Below.refl _ w).alloc hn _)) (by omega) (by simp) ?_); intro v4 w4 hr4 hg4; rw [Nat.zero_add] at hr4)
    go_ret
    obtain ⟨a', c', rfl⟩ : ∃ a' c', v4 = .slice a' zs.length c' := by
      rcases Joins.ownsRow_forms hr4 with ⟨rfl, h0⟩ | ⟨g, c, rfl⟩
      · exact ⟨none, 0, by rw [h0]⟩
      · exact ⟨_, c, rfl⟩
    refine ⟨a', c', rfl, hr4, ((Below.refl _ w).alloc (Nat.le_refl _) _).grown hg4 (by simp) (fun k e => by cases e; exact Nat.le_refl _), (KeepsOthers.alloc w _).trans (KeepsOthers.of_grownBy hg4 fun j o ej hj => ?_)⟩
    cases ej
    rw [heap_alloc_new] at hj
    cases hj
    rfl

theorem boxed_below {A B : World} {C : Nat} {t : TypeId} {v : Value} (h : Boxed A C t v) (hB : Below A.heap.size A B) : Boxed B C t v := (hB.block C h.lt).trans h
theorem Flds.len {n₀ : Nat} {A : World} {a : Option Addr} {l c : Nat} {xs : List Fd} (k : Flds n₀ A (.slice a l c) xs) : l = xs.length := by
  obtain ⟨⟨e | ⟨ad, cap, e⟩, h⟩ | ⟨b, off, cap, e, _⟩, _⟩ := k
  · simp at e; simp [h, e]
  · simp at e; simp [h, e]
  · simp at e; exact e.2.1
theorem Flds.len_le {n₀ : Nat} {A : World} {a : Option Addr} {l c : Nat} {xs : List Fd} (k : Flds n₀ A (.slice a l c) xs) : l ≤ 9223372036854775807 := by
  obtain ⟨⟨e | ⟨ad, cap, e⟩, h⟩ | ⟨b, off, cap, e, _, h1, h2, _⟩, _⟩ := k
  · simp at e; omega
  · simp at e; omega
  · simp at e; unfold maxLen at h2; omega
theorem Bts.len_le {n₀ : Nat} {A : World} {a : Option Addr} {l c : Nat} {zs : List Int} (k : Bts n₀ A (.slice a l c) zs) : l ≤ 9223372036854775807 := by
  obtain ⟨⟨e | ⟨ad, cap, e⟩, h⟩ | ⟨b, off, cap, e, _, h1, h2, _⟩, _⟩ := k
  · simp at e; omega
  · simp at e; omega
  · simp at e; unfold maxLen at h2; omega

/-- What a field says. -/
def said (x : Fd) : Int × List Int := (x.tag, x.zs)
end Go.Proofs.YtmahpceokpajgaaDoor.C
