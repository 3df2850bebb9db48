/- A disk's segments as a list that rises, and as the map that holds them. -/
import Derived.Test.YtgblekdllcngnaaBase
import Derived.Maps.RangeWalk
namespace Go.Proofs.Ytgblekdllcngnaa
open Go.RowKit Go.IntWalk Go.Maps
set_option linter.unusedVariables false

/-- A segment: its number, the slice that holds its bytes, its bytes, how many are safe. -/
structure Sg where
  n : Int
  v : Value
  b : List Int
  s : Int
def Sg.val (x : Sg) : Value := .agg #[x.v, .int .i64 x.s]
def Sg.ent (x : Sg) : Lit × DataW Value := (.int .i64 x.n, .held x.val)
def DM (l : List Sg) : DataW Value := .map (l.map Sg.ent)
def Up (l : List Sg) : Prop := l.Pairwise fun x y => x.n < y.n
def putS (x : Sg) (l : List Sg) : List Sg := l.filter (fun y => decide (y.n < x.n)) ++ x :: l.filter (fun y => decide (x.n < y.n))
def delS (n : Int) (l : List Sg) : List Sg := l.filter (fun y => !decide (y.n = n))
def getS (n : Int) (l : List Sg) : Option Sg := l.find? (fun y => decide (y.n = n))

theorem getS_mem {n : Int} {l : List Sg} {x : Sg} (h : getS n l = some x) : x ∈ l ∧ x.n = n :=
  ⟨List.mem_of_find?_eq_some h, by simpa using List.find?_some h⟩
theorem getS_none {n : Int} {l : List Sg} (h : getS n l = none) : ∀ y ∈ l, y.n ≠ n := fun y hy => by
  have := List.find?_eq_none.1 h y hy
  simpa using this
theorem Up.eq {l : List Sg} (h : Up l) {x y : Sg} (hx : x ∈ l) (hy : y ∈ l) (e : x.n = y.n) : x = y := by
  induction l with
  | nil => simp at hx
  | cons a r ih =>
    obtain ⟨h1, h2⟩ := List.pairwise_cons.1 h
    rcases List.mem_cons.1 hx with rfl | hx'
    · rcases List.mem_cons.1 hy with rfl | hy'
      · rfl
      · have := h1 y hy'; omega
    · rcases List.mem_cons.1 hy with rfl | hy'
      · have := h1 x hx'; omega
      · exact ih h2 hx' hy'
theorem Up.get {l : List Sg} (h : Up l) {x : Sg} (hx : x ∈ l) : getS x.n l = some x := by
  cases e : getS x.n l with
  | none => exact absurd rfl (getS_none e x hx)
  | some y => rw [h.eq (getS_mem e).1 hx (getS_mem e).2]
theorem mem_putS {x y : Sg} {l : List Sg} : y ∈ putS x l ↔ y = x ∨ (y ∈ l ∧ y.n ≠ x.n) := by
  simp only [putS, List.mem_append, List.mem_cons, List.mem_filter, decide_eq_true_eq]
  constructor
  · rintro (⟨h1, h2⟩ | h | ⟨h1, h2⟩)
    · exact .inr ⟨h1, by omega⟩
    · exact .inl h
    · exact .inr ⟨h1, by omega⟩
  · rintro (h | ⟨h1, h2⟩)
    · exact .inr (.inl h)
    · rcases Int.lt_or_gt_of_ne h2 with h3 | h3
      · exact .inl ⟨h1, h3⟩
      · exact .inr (.inr ⟨h1, h3⟩)
theorem mem_delS {n : Int} {y : Sg} {l : List Sg} : y ∈ delS n l ↔ y ∈ l ∧ y.n ≠ n := by simp [delS]
theorem Up.put {l : List Sg} (h : Up l) (x : Sg) : Up (putS x l) := by
  unfold putS
  refine List.pairwise_append.2 ⟨h.sublist List.filter_sublist, List.pairwise_cons.2 ⟨fun y hy => ?_, h.sublist List.filter_sublist⟩, fun y hy z hz => ?_⟩
  · simpa using (List.mem_filter.1 hy).2
  · have h1 : y.n < x.n := by simpa using (List.mem_filter.1 hy).2
    rcases List.mem_cons.1 hz with rfl | hz
    · exact h1
    · have h2 : x.n < z.n := by simpa using (List.mem_filter.1 hz).2
      omega
theorem Up.del {l : List Sg} (h : Up l) (n : Int) : Up (delS n l) := h.sublist List.filter_sublist
theorem getS_put_self {l : List Sg} (h : Up l) (x : Sg) : getS x.n (putS x l) = some x := (h.put x).get (mem_putS.2 (.inl rfl))
theorem getS_iff {l : List Sg} (h : Up l) {n : Int} {x : Sg} : getS n l = some x ↔ x ∈ l ∧ x.n = n := ⟨getS_mem, fun ⟨h1, h2⟩ => h2 ▸ h.get h1⟩
theorem getS_put_other {l : List Sg} (h : Up l) (x : Sg) {n : Int} (hn : n ≠ x.n) : getS n (putS x l) = getS n l := by
  cases e : getS n l with
  | none =>
    cases e2 : getS n (putS x l) with
    | none => rfl
    | some y =>
      obtain ⟨h1, h2⟩ := getS_mem e2
      rcases mem_putS.1 h1 with rfl | ⟨h3, h4⟩
      · exact absurd h2.symm hn
      · exact absurd h2 (getS_none e y h3)
  | some y =>
    obtain ⟨h1, h2⟩ := getS_mem e
    exact (getS_iff (h.put x)).2 ⟨mem_putS.2 (.inr ⟨h1, by rw [h2]; exact hn⟩), h2⟩
theorem getS_del_other {l : List Sg} (h : Up l) {m n : Int} (hn : n ≠ m) : getS n (delS m l) = getS n l := by
  cases e : getS n l with
  | none =>
    cases e2 : getS n (delS m l) with
    | none => rfl
    | some y =>
      obtain ⟨h1, h2⟩ := getS_mem e2
      exact absurd h2 (getS_none e y (mem_delS.1 h1).1)
  | some y =>
    obtain ⟨h1, h2⟩ := getS_mem e
    exact (getS_iff (h.del m)).2 ⟨mem_delS.2 ⟨h1, by rw [h2]; exact hn⟩, h2⟩
theorem putS_length : ∀ {l : List Sg} (_ : Up l) (x : Sg), (putS x l).length = if (getS x.n l).isSome then l.length else l.length + 1
  | [], _, x => by simp [putS, getS]
  | a :: r, h, x => by
    obtain ⟨h1, h2⟩ := List.pairwise_cons.1 h
    have ih := putS_length h2 x
    have e0 : (putS x r).length = (r.filter fun y => decide (y.n < x.n)).length + ((r.filter fun y => decide (x.n < y.n)).length + 1) := by simp [putS]
    have e1 : (putS x (a :: r)).length = ((a :: r).filter fun y => decide (y.n < x.n)).length + (((a :: r).filter fun y => decide (x.n < y.n)).length + 1) := by simp [putS]
    rcases Int.lt_trichotomy a.n x.n with h3 | h3 | h3
    · have h4 : ¬ x.n < a.n := by omega
      have h5 : ¬ a.n = x.n := by omega
      rw [e1]
      simp only [List.filter_cons, h3, h4, decide_true, decide_false, if_true, List.length_cons, getS, List.find?_cons, h5, Bool.false_eq_true, if_false]
      rw [e0] at ih
      simp only [getS] at ih
      cases hf : (r.find? fun y => decide (y.n = x.n)).isSome
      · simp only [hf, Bool.false_eq_true, if_false] at ih ⊢
        omega
      · simp only [hf, if_true] at ih ⊢
        omega
    · have h4 : ¬ x.n < a.n := by omega
      have h5 : ¬ a.n < x.n := by omega
      have e2 : r.filter (fun y => decide (y.n < x.n)) = [] := List.filter_eq_nil_iff.2 fun y hy => by have := h1 y hy; simp; omega
      have e3 : r.filter (fun y => decide (x.n < y.n)) = r := List.filter_eq_self.2 fun y hy => by have := h1 y hy; simp; omega
      rw [e1]
      simp [e2, e3, getS, h3]
    · have h4 : ¬ a.n < x.n := by omega
      have h5 : ¬ a.n = x.n := by omega
      have e2 : r.filter (fun y => decide (y.n < x.n)) = [] := List.filter_eq_nil_iff.2 fun y hy => by have := h1 y hy; simp; omega
      have e3 : r.filter (fun y => decide (x.n < y.n)) = r := List.filter_eq_self.2 fun y hy => by have := h1 y hy; simp; omega
      have e4 : r.find? (fun y => decide (y.n = x.n)) = none := List.find?_eq_none.2 fun y hy => by have := h1 y hy; simp; omega
      rw [e1]
      simp [h4, h3, e2, e3, getS, h5, e4]

theorem ent_same (y : Sg) (n : Int) : Lit.sameKey y.ent.1 (.int .i64 n) = decide (y.n = n) := by simp [Sg.ent, Lit.sameKey]
theorem DM_size (l : List Sg) : Maps.size (DM l) = l.length := by simp [DM, Maps.size]
theorem DM_has (l : List Sg) (n : Int) : Maps.has (DM l) (.int .i64 n) = (getS n l).isSome := by
  induction l with
  | nil => rfl
  | cons a r ih =>
    simp only [DM, Maps.has, List.map_cons, List.any_cons, ent_same, getS, List.find?_cons] at ih ⊢
    by_cases h : a.n = n
    · simp [h]
    · simp [h, ih]
theorem DM_at (l : List Sg) (n : Int) (z : DataW Value) : (DM l).atKey (.int .i64 n) z = match getS n l with | some x => .held x.val | none => z := by
  induction l with
  | nil => rfl
  | cons a r ih =>
    simp only [DM, DataW.atKey, List.map_cons, ent_same, getS, List.find?_cons] at ih ⊢
    by_cases h : a.n = n
    · simp [h, Sg.ent]
    · simp only [h, decide_false]
      exact ih
theorem DM_del (l : List Sg) (n : Int) : (DM l).del (.int .i64 n) = DM (delS n l) := by
  simp only [DM, DataW.del, delS, List.filter_map]
  congr 2
  exact List.filter_congr fun y _ => by simp [ent_same]
theorem DM_put {l : List Sg} (h : Up l) (x : Sg) : (DM l).put (.int .i64 x.n) (.held x.val) = DM (putS x l) := by
  have hi : ∀ {l : List Sg} (_ : Up l) (_ : ∀ y ∈ l, y.n ≠ x.n), DataW.insert x.ent (l.map Sg.ent) = (putS x l).map Sg.ent := by
    intro l
    induction l with
    | nil => intro _ _; rfl
    | cons a r ih =>
      intro hu hn
      obtain ⟨h1, h2⟩ := List.pairwise_cons.1 hu
      have hb : Lit.before x.ent.1 a.ent.1 = decide (x.n < a.n) := rfl
      simp only [List.map_cons, DataW.insert, hb]
      rcases Int.lt_or_gt_of_ne (hn a (by simp)) with h3 | h3
      · have h4 : ¬ x.n < a.n := by omega
        rw [ih h2 fun y hy => hn y (by simp [hy])]
        simp [h4, putS, h3]
      · have h4 : ¬ a.n < x.n := by omega
        have e2 : r.filter (fun y => decide (y.n < x.n)) = [] := List.filter_eq_nil_iff.2 fun y hy => by have := h1 y hy; simp; omega
        have e3 : r.filter (fun y => decide (x.n < y.n)) = r := List.filter_eq_self.2 fun y hy => by have := h1 y hy; simp; omega
        have h3' : x.n < a.n := h3
        simp [h3', putS, h4, e2, e3]
  have e : (DM l).put (.int .i64 x.n) (.held x.val) = .map (DataW.insert x.ent ((delS x.n l).map Sg.ent)) := by
    have := DM_del l x.n
    simp only [DM, DataW.del, DataW.map.injEq] at this
    simp only [DM, DataW.put, Sg.ent] at this ⊢
    rw [← this]
  rw [e, hi (h.del x.n) fun y hy => (mem_delS.1 hy).2]
  unfold DM putS delS
  congr 2
  have e5 : ∀ y : Sg, (decide (y.n < x.n) && !decide (y.n = x.n)) = decide (y.n < x.n) := fun y => by
    by_cases h : y.n < x.n
    · have : ¬ y.n = x.n := by omega
      simp [h, this]
    · simp [h]
  have e6 : ∀ y : Sg, (decide (x.n < y.n) && !decide (y.n = x.n)) = decide (x.n < y.n) := fun y => by
    by_cases h : x.n < y.n
    · have : ¬ y.n = x.n := by omega
      simp [h, this]
    · simp [h]
  simp only [List.filter_filter, e5, e6]

/-- How an element of the map reads: it is a struct of a slice and an int. -/
def cElem : Value → Option (DataW Value × List MemPlace)
  | .agg cs => match cs.toList with
    | [_, .int .i64 _] => some (.held (.agg cs), [])
    | _ => none
  | _ => none
theorem cElem_val (x : Sg) : cElem x.val = some (.held x.val, []) := rfl
theorem cElem_inv {v : Value} {y : DataW Value × List MemPlace} (h : cElem v = some y) : y = (.held v, []) := by
  unfold cElem at h
  split at h
  · split at h
    · simpa using h.symm
    · cases h
  · cases h
theorem cElem_shape {v : Value} {y : DataW Value × List MemPlace} (h : cElem v = some y) : ∃ c : Value × Int, v = .agg #[c.1, .int .i64 c.2] := by
  unfold cElem at h
  split at h
  · rename_i cs
    split at h
    · rename_i a b hcs
      refine ⟨(a, b), ?_⟩
      show Value.agg cs = .agg #[a, .int .i64 b]
      congr 1
      apply Array.toList_inj.1
      simpa using hcs
    · cases h
  · cases h
def zeroC : Value := .agg #[.slice none 0 0, .int .i64 0]
theorem zero61 (w : World) : (zeroValue 67).run Try.prog w = .ok (.agg #[.slice none 0 0, .int .i64 0]) w := by kernel_rfl
theorem keyed3 : Keyed Try.prog 3 := int_keyed Try.underlying3
theorem key3 {n : Int} (h0 : -9223372036854775808 ≤ n) (h1 : n < 9223372036854775808) : keyOf Try.prog 3 (.int .i64 n) = some (.int .i64 n) := keyOf_int_mk Try.underlying3 (WalkArith.wf_i64 (by omega))

/-- Block bm is the map of these segments. -/
def Mp (w : World) (bm : Nat) (l : List Sg) : Prop := w.ownsMap Try.prog 3 cElem bm l.length (DM l)
theorem Mp.tight {w : World} {bm n : Nat} {l : List Sg} (h : w.ownsMap Try.prog 3 cElem bm n (DM l)) : Mp w bm l := by
  obtain ⟨es, clock, hb, F, hs, hD⟩ := h
  refine ⟨es, clock, hb, F, ?_, hD⟩
  have := congrArg Maps.size hD
  rw [DM_size] at this
  rw [this]
  simp [Maps.size, length_sorted]
theorem Mp.lookup {w : World} {bm : Nat} {l : List Sg} (h : Mp w bm l) {n : Int} (h0 : -9223372036854775808 ≤ n) (h1 : n < 9223372036854775808) {x : Sg} (hx : getS n l = some x) :
    (Instr.lookup 51 (.map (some bm)) (.int .i64 n) true).run Try.prog w = .ok (.tuple #[.agg #[x.v, .int .i64 x.s], .bool true]) w := by
  obtain ⟨v, ps, hrun, hv⟩ := World.ownsMap.look_ok h keyed3 Try.underlying51 (zero61 w) (zd := .held zeroC) (zp := []) rfl (key3 h0 h1)
  rw [DM_at, hx] at hv
  have e := cElem_inv hv
  simp only [Prod.mk.injEq, DataW.held.injEq] at e
  rw [DM_has, hx, ← e.1] at hrun
  exact hrun
theorem Mp.lookup_none {w : World} {bm : Nat} {l : List Sg} (h : Mp w bm l) {n : Int} (h0 : -9223372036854775808 ≤ n) (h1 : n < 9223372036854775808) (hx : getS n l = none) :
    (Instr.lookup 51 (.map (some bm)) (.int .i64 n) true).run Try.prog w = .ok (.tuple #[.agg #[.slice none 0 0, .int .i64 0], .bool false]) w := by
  obtain ⟨v, ps, hrun, hv⟩ := World.ownsMap.look_ok h keyed3 Try.underlying51 (zero61 w) (zd := .held zeroC) (zp := []) rfl (key3 h0 h1)
  rw [DM_at, hx] at hv
  have e := cElem_inv hv
  simp only [Prod.mk.injEq, DataW.held.injEq] at e
  rw [DM_has, hx, ← e.1] at hrun
  exact hrun
theorem Mp.lookup1 {w : World} {bm : Nat} {l : List Sg} (h : Mp w bm l) {n : Int} (h0 : -9223372036854775808 ≤ n) (h1 : n < 9223372036854775808) {x : Sg} (hx : getS n l = some x) :
    (Instr.lookup 51 (.map (some bm)) (.int .i64 n) false).run Try.prog w = .ok (.agg #[x.v, .int .i64 x.s]) w := by
  obtain ⟨v, ps, hrun, hv⟩ := World.ownsMap.lookup h keyed3 Try.underlying51 (zero61 w) (zd := .held zeroC) (zp := []) rfl (key3 h0 h1)
  rw [DM_at, hx] at hv
  have e := cElem_inv hv
  simp only [Prod.mk.injEq, DataW.held.injEq] at e
  rw [← e.1] at hrun
  exact hrun
theorem Mp.store {w : World} {bm : Nat} {l : List Sg} (h : Mp w bm l) (hu : Up l) (hl : l.length < maxLen) (x : Sg) (h0 : -9223372036854775808 ≤ x.n) (h1 : x.n < 9223372036854775808) :
    ∃ w', (Instr.mapUpdate 51 (.map (some bm)) (.int .i64 x.n) (.agg #[x.v, .int .i64 x.s])).run Try.prog w = .ok () w' ∧ Mp w' bm (putS x l) ∧ w.mapTurned w' bm := by
  obtain ⟨w', hrun, hown, ht⟩ := World.ownsMap.store h keyed3 Try.underlying51 hl (key3 h0 h1) (cElem_val x)
  rw [DM_put hu] at hown
  exact ⟨w', hrun, Mp.tight hown, ht⟩
theorem Mp.drop {w : World} {bm : Nat} {l : List Sg} (h : Mp w bm l) {n : Int} (h0 : -9223372036854775808 ≤ n) (h1 : n < 9223372036854775808) (ty : TypeId) :
    ∃ w', (Builtin.delete_ #[51, 3] ty #[.map (some bm), .int .i64 n]).run Try.prog w = .ok (.tuple #[]) w' ∧ Mp w' bm (delS n l) ∧ w.mapTurned w' bm := by
  obtain ⟨w', hrun, hown, ht⟩ := World.ownsMap.drop h keyed3 Try.underlying51 (key3 h0 h1) ty
  rw [DM_del] at hown
  exact ⟨w', hrun, Mp.tight hown, ht⟩
theorem Mp.len {w : World} {bm : Nat} {l : List Sg} (h : Mp w bm l) (ty : TypeId) : (Builtin.len_ #[51] ty #[.map (some bm)]).run Try.prog w = .ok (.int .i64 l.length) w := by
  have := World.ownsMap.len h Try.underlying51 ty
  rwa [DM_size] at this
theorem Mp.made (w : World) : Mp (w.alloc (.map #[] 0)) w.heap.size [] := World.ownsMap_made w Try.prog 3 cElem
end Go.Proofs.Ytgblekdllcngnaa
