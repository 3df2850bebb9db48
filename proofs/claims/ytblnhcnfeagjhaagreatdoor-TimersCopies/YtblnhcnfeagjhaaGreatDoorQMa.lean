/- Entries, their order, and heaps of them: plain facts, no program. -/
import Derived.WalkKit
import Derived.WalkSpells
import Derived.WalkLawsBesides
import Derived.Outline
import Derived.Maps.RangeWalk
import Derived.Maps.OwnSet
import Derived.Maps.AppendAt
import Derived.ArgAppend
import Derived.Lib.SliceRun
import Derived.Laws.ResultCell
import Derived.Deep.RegionHeld3
import Derived.RegionTactic
import Derived.BigQuiet
import Derived.StringKeys
import Derived.Test.YtblnhcnfeagjhaaGreatDoorProg
import Derived.Deep.QuietTactic
namespace Go.Proofs.YtblnhcnfeagjhaaGreatDoor.Q
set_option linter.unusedVariables false

/-- An entry: a name with a deadline. -/
structure E where
  n : ByteArray
  at_ : Int
theorem E.ext' {a b : E} (h1 : a.n = b.n) (h2 : a.at_ = b.at_) : a = b := by cases a; cases b; simp_all
theorem ba_inj {a b : ByteArray} (h : a.toList = b.toList) : a = b := by
  rw [ByteArray.toList_eq, ByteArray.toList_eq] at h
  cases a; cases b
  simp only [ByteArray.mk.injEq]
  exact Array.toList_inj.1 h
/-- The order: by deadlines, then by names. -/
def lt (a b : E) : Prop := a.at_ < b.at_ ∨ (a.at_ = b.at_ ∧ a.n.toList < b.n.toList)
/-- .. as it is reckoned. -/
def ltb (a b : E) : Bool := decide (a.at_ < b.at_) || (decide (a.at_ = b.at_) && decide (a.n.toList < b.n.toList))
theorem ltb_iff {a b : E} : ltb a b = true ↔ lt a b := by simp [ltb, lt]
theorem ltb_f {a b : E} (h : ¬ lt a b) : ltb a b = false := by
  cases e : ltb a b with
  | false => rfl
  | true => exact absurd (ltb_iff.1 e) h
theorem lt_irrefl (a : E) : ¬ lt a a := by
  rintro (h | ⟨_, h⟩)
  · omega
  · exact List.lt_irrefl _ h
theorem lt_trans {a b c : E} (h : lt a b) (k : lt b c) : lt a c := by
  rcases h with h | ⟨h1, h2⟩ <;> rcases k with k | ⟨k1, k2⟩
  · exact .inl (by omega)
  · exact .inl (by omega)
  · exact .inl (by omega)
  · exact .inr ⟨by omega, List.lt_trans h2 k2⟩
theorem lt_asymm {a b : E} (h : lt a b) : ¬ lt b a := fun k => lt_irrefl a (lt_trans h k)
theorem lt_or {a b : E} (h : ¬ lt a b) (hn : a.n ≠ b.n ∨ a.at_ ≠ b.at_) : lt b a := by
  by_cases h1 : b.at_ < a.at_
  · exact .inl h1
  · have h2 : ¬ a.at_ < b.at_ := fun h2 => h (.inl h2)
    have h3 : a.at_ = b.at_ := by omega
    have h4 : ¬ a.n.toList < b.n.toList := fun h4 => h (.inr ⟨h3, h4⟩)
    refine .inr ⟨h3.symm, ?_⟩
    have h5 : b.n.toList ≤ a.n.toList := h4
    rcases List.le_iff_lt_or_eq.1 h5 with h6 | h6
    · exact h6
    · rcases hn with hn | hn
      · exact absurd (ba_inj h6).symm hn
      · exact absurd h3 hn
theorem lt_tri (a b : E) : lt a b ∨ a = b ∨ lt b a := by
  by_cases h : lt a b
  · exact .inl h
  · by_cases hn : a.n = b.n
    · by_cases h2 : a.at_ = b.at_
      · exact .inr (.inl (E.ext' hn h2))
      · exact .inr (.inr (lt_or h (.inr h2)))
    · exact .inr (.inr (lt_or h (.inl hn)))
/-- Not ahead carries on. -/
theorem nlt_trans {a b c : E} (h : ¬ lt a b) (k : ¬ lt b c) : ¬ lt a c := by
  intro hac
  rcases lt_tri b a with h1 | h1 | h1
  · exact k (lt_trans h1 hac)
  · exact k (h1 ▸ hac)
  · exact h h1

/-- Places changed. -/
def swp (es : List E) (i j : Nat) (a b : E) : List E := (es.set i b).set j a
theorem swp_len (es : List E) (i j : Nat) (a b : E) : (swp es i j a b).length = es.length := by simp [swp]
theorem swp_at {es : List E} {i j : Nat} {a b : E} (hi : es[i]? = some a) (hj : es[j]? = some b) (k : Nat) : (swp es i j a b)[k]? = if k = j then some a else if k = i then some b else es[k]? := by
  have h1 := (List.getElem?_eq_some_iff.1 hi).1
  have h2 := (List.getElem?_eq_some_iff.1 hj).1
  unfold swp
  rw [List.getElem?_set, List.getElem?_set]
  by_cases hk : j = k
  · subst hk; simp [h2]
  · by_cases hk2 : i = k
    · subst hk2
      simp [hk, h1, Ne.symm hk]
    · simp [hk, hk2, Ne.symm hk, Ne.symm hk2]
theorem swp_mem {es : List E} {i j : Nat} {a b : E} (hi : es[i]? = some a) (hj : es[j]? = some b) (x : E) : x ∈ swp es i j a b ↔ x ∈ es := by
  constructor
  · intro h
    obtain ⟨k, hk⟩ := List.mem_iff_getElem?.1 h
    rw [swp_at hi hj] at hk
    split at hk
    · cases hk; exact List.mem_of_getElem? hi
    · split at hk
      · cases hk; exact List.mem_of_getElem? hj
      · exact List.mem_of_getElem? hk
  · intro h
    obtain ⟨k, hk⟩ := List.mem_iff_getElem?.1 h
    by_cases e1 : k = i
    · subst e1
      rw [hi] at hk; cases hk
      exact List.mem_of_getElem? (i := j) (by rw [swp_at hi hj]; simp)
    · by_cases e2 : k = j
      · subst e2
        rw [hj] at hk; cases hk
        refine List.mem_of_getElem? (i := i) ?_
        rw [swp_at hi hj]
        simp [Ne.symm e1]
      · refine List.mem_of_getElem? (i := k) ?_
        rw [swp_at hi hj]
        simp [e1, e2, hk]

/-- The place k is not ahead of its parent's. -/
def Ok (es : List E) (k : Nat) : Prop := ∀ a b, es[k]? = some a → es[(k - 1) / 2]? = some b → ¬ lt a b
/-- The first n places are a heap. -/
def Hp (es : List E) (n : Nat) : Prop := ∀ k, 0 < k → k < n → Ok es k
/-- A heap but for the place j, which may be ahead of its parent. -/
def Hu (es : List E) (n j : Nat) : Prop :=
  (∀ k, 0 < k → k < n → k ≠ j → Ok es k) ∧ ∀ k, 0 < k → k < n → 0 < j → (k - 1) / 2 = j → ∀ a b, es[k]? = some a → es[(j - 1) / 2]? = some b → ¬ lt a b
/-- A heap but for the place i, behind which its kids may not be; down from i0. -/
def Hd (es : List E) (n i i0 : Nat) : Prop :=
  (∀ k, 0 < k → k < n → (k - 1) / 2 ≠ i → (k = i → i ≠ i0) → Ok es k) ∧ ∀ k, 0 < k → k < n → 0 < i → (k - 1) / 2 = i → ∀ a b, es[k]? = some a → es[(i - 1) / 2]? = some b → ¬ lt a b

theorem Hu.done {es : List E} {n j : Nat} (h : Hu es n j) (hj : 0 < j → j < n → Ok es j) : Hp es n := fun k h0 hk => by
  by_cases e : k = j
  · subst e; exact hj h0 hk
  · exact h.1 k h0 hk e
/-- One step up. -/
theorem Hu.up {es : List E} {n j : Nat} {a b : E} (h : Hu es n j) (hj0 : 0 < j) (hj : j < n) (hn : n ≤ es.length) (ha : es[(j - 1) / 2]? = some a) (hb : es[j]? = some b) (hl : lt b a) : Hu (swp es ((j - 1) / 2) j a b) n ((j - 1) / 2) := by
  have hat := swp_at ha hb
  refine ⟨fun k h0 hk hne x y hx hy => ?_, fun k h0 hk h1 hp x y hx hy => ?_⟩
  · rw [hat] at hx hy
    by_cases e1 : k = j
    · subst e1
      simp only [if_true] at hx
      cases hx
      rw [if_neg (by omega)] at hy
      simp at hy
      subst hy
      exact lt_asymm hl
    · rw [if_neg e1, if_neg hne] at hx
      by_cases e2 : (k - 1) / 2 = j
      · rw [if_pos e2] at hy
        cases hy
        exact h.2 k h0 hk hj0 e2 x a hx ha
      · rw [if_neg e2] at hy
        by_cases e3 : (k - 1) / 2 = (j - 1) / 2
        · rw [if_pos e3] at hy
          cases hy
          exact nlt_trans (h.1 k h0 hk e1 x a hx (by rw [e3]; exact ha)) (lt_asymm hl)
        · rw [if_neg e3] at hy
          exact h.1 k h0 hk e1 x y hx hy
  · rw [hat] at hx hy
    rw [if_neg (by omega), if_neg (by omega)] at hy
    have hpar : ¬ lt a y := h.1 ((j - 1) / 2) h1 (by omega) (by omega) a y ha hy
    by_cases e1 : k = j
    · subst e1
      simp only [if_true] at hx
      cases hx
      exact hpar
    · rw [if_neg e1, if_neg (by omega)] at hx
      exact nlt_trans (h.1 k h0 hk e1 x a hx (by rw [hp]; exact ha)) hpar
/-- Down is over: nothing ahead below. -/
theorem Hd.stop {es : List E} {n i i0 : Nat} (h : Hd es n i i0) (hk : ∀ k, 0 < k → k < n → (k - 1) / 2 = i → Ok es k) (hi : i0 < i) : Hp es n := fun k h0 hk' => by
  by_cases e : (k - 1) / 2 = i
  · exact hk k h0 hk' e
  · exact h.1 k h0 hk' e (fun _ => by omega)
theorem Hd.stay {es : List E} {n i : Nat} (h : Hd es n i i) (hk : ∀ k, 0 < k → k < n → (k - 1) / 2 = i → Ok es k) : Hu es n i :=
  ⟨fun k h0 hk' hne => by
    by_cases e : (k - 1) / 2 = i
    · exact hk k h0 hk' e
    · exact h.1 k h0 hk' e (fun e2 => absurd e2 hne), h.2⟩
/-- One step down. -/
theorem Hd.down {es : List E} {n i i0 j : Nat} {a b : E} (h : Hd es n i i0) (hi0 : i0 ≤ i) (hj0 : 0 < j) (hj : j < n) (hp : (j - 1) / 2 = i) (ha : es[i]? = some a) (hb : es[j]? = some b) (hl : lt b a)
    (hm : ∀ k c, 0 < k → k < n → (k - 1) / 2 = i → es[k]? = some c → ¬ lt c b) : Hd (swp es i j a b) n j i0 := by
  have hat := swp_at ha hb
  have hij : i < j := by omega
  refine ⟨fun k h0 hk hne hki x y hx hy => ?_, fun k h0 hk h1 hp2 x y hx hy => ?_⟩
  · rw [hat] at hx hy
    rw [if_neg hne] at hy
    by_cases e1 : k = j
    · subst e1
      simp only [if_true] at hx
      cases hx
      rw [if_pos hp] at hy
      cases hy
      exact lt_asymm hl
    · rw [if_neg e1] at hx
      by_cases e2 : k = i
      · subst e2
        rw [if_pos rfl] at hx
        cases hx
        rw [if_neg (by omega)] at hy
        exact h.2 j hj0 hj h0 hp _ y hb hy
      · rw [if_neg e2] at hx
        by_cases e3 : (k - 1) / 2 = i
        · rw [if_pos e3] at hy
          cases hy
          exact hm k x h0 hk e3 hx
        · rw [if_neg e3] at hy
          exact h.1 k h0 hk e3 (fun e => absurd e e2) x y hx hy
  · rw [hat] at hx hy
    rw [if_neg (by omega), if_neg (by omega)] at hx
    rw [hp, if_neg (by omega), if_pos rfl] at hy
    cases hy
    exact h.1 k h0 hk (by omega) (fun e => by omega) x b hx (by rw [hp2]; exact hb)
/-- A heap one place of which was given another entry. -/
theorem Hp.turn {es : List E} {n i : Nat} (h : Hp es n) {e : E} (hi : i < n) (hn : n ≤ es.length) : Hd (es.set i e) n i i := by
  refine ⟨fun k h0 hk hne hki x y hx hy => ?_, fun k h0 hk h1 hp x y hx hy => ?_⟩
  · have e1 : i ≠ k := fun e1 => hki e1.symm rfl
    rw [List.getElem?_set] at hx hy
    rw [if_neg e1] at hx
    rw [if_neg (Ne.symm hne)] at hy
    exact h k h0 hk x y hx hy
  · rw [List.getElem?_set] at hx hy
    rw [if_neg (by omega)] at hx
    rw [if_neg (by omega)] at hy
    obtain ⟨z, hz⟩ : ∃ z, es[i]? = some z := ⟨es[i]'(by omega), List.getElem?_eq_getElem _⟩
    exact nlt_trans (h k h0 hk x z hx (by rw [hp]; exact hz)) (h i h1 hi z y hz hy)
/-- The first one is the least. -/
theorem Hp.least {es : List E} {n : Nat} (h : Hp es n) (hn : n ≤ es.length) {f : E} (hf : es[0]? = some f) : ∀ k x, k < n → es[k]? = some x → ¬ lt x f := by
  intro k
  induction k using Nat.strongRecOn with
  | ind k ih =>
    intro x hk hx
    by_cases h0 : k = 0
    · subst h0
      rw [hf] at hx; cases hx
      exact lt_irrefl _
    · obtain ⟨z, hz⟩ : ∃ z, es[(k - 1) / 2]? = some z := ⟨es[(k - 1) / 2]'(by omega), List.getElem?_eq_getElem _⟩
      exact nlt_trans (h k (by omega) hk x z hx hz) (ih ((k - 1) / 2) (by omega) z (by omega) hz)
theorem Hp.congr {es es' : List E} {n : Nat} (h : Hp es n) (he : ∀ k, k < n → es'[k]? = es[k]?) : Hp es' n := fun k h0 hk a b ha hb => h k h0 hk a b (by rw [← he k hk]; exact ha) (by rw [← he _ (by omega)]; exact hb)
theorem Hd.congr {es es' : List E} {n i i0 : Nat} (h : Hd es n i i0) (hi : i < n) (he : ∀ k, k < n → es'[k]? = es[k]?) : Hd es' n i i0 :=
  ⟨fun k h0 hk hne hki a b ha hb => h.1 k h0 hk hne hki a b (by rw [← he k hk]; exact ha) (by rw [← he _ (by omega)]; exact hb), fun k h0 hk h1 hp a b ha hb => h.2 k h0 hk h1 hp a b (by rw [← he k hk]; exact ha) (by rw [← he _ (by omega)]; exact hb)⟩
end Go.Proofs.YtblnhcnfeagjhaaGreatDoor.Q

/- Entries in memory; a line of entries in memory; which of two comes ahead. -/
namespace Go.Proofs.YtblnhcnfeagjhaaGreatDoor.Q
open Go.RowKit Go.IntWalk Go.Maps
set_option linter.unusedVariables false

theorem bytesLess_eq : ∀ (x y : List UInt8), Op.bytesLess x y = decide (x < y)
  | [], [] => by simp [Op.bytesLess]
  | _ :: _, [] => by simp [Op.bytesLess]
  | [], _ :: _ => by simp [Op.bytesLess]
  | a :: x, b :: y => by
    rw [Op.bytesLess, bytesLess_eq x y]
    by_cases h : a < b
    · simp [h, List.cons_lt_cons_iff]
    · by_cases h2 : a = b
      · subst h2; simp
      · simp [h, h2, List.cons_lt_cons_iff]
/-- Told, and kept from the walk. -/
structure Hid (p : Prop) : Prop where
  out : p
theorem grown_refl (w : World) : w.grownBy w none := ⟨rfl, rfl, rfl, Nat.le_refl _, fun _ _ _ => rfl⟩
theorem grown_drew (w : World) : w.grownBy w.drew none := ⟨rfl, rfl, rfl, Nat.le_refl _, fun _ _ _ => rfl⟩
theorem grown_none {a b c : World} (h : a.grownBy b none) (k : b.grownBy c none) : a.grownBy c none := h.andThen k (by simp)
theorem grown_new {a b c : World} {row : Option Nat} {r : Nat} (h : a.grownBy b row) (k : b.grownBy c (some r)) (hr : a.heap.size ≤ r) : a.grownBy c row := h.andThen k fun j hj => .inl (by cases hj; exact hr)
theorem grown_add {a b c : World} {row : Option Nat} (h : a.grownBy b row) (k : b.grownBy c none) : a.grownBy c row := h.andThen k (by simp)
theorem grown_same {a b c : World} {row : Option Nat} (h : a.grownBy b none) (k : b.grownBy c row) : a.grownBy c row := (h.but row).andThen k fun j hj => .inr hj
theorem grown_setCell (w : World) (a : Addr) (u : Value) : w.grownBy (w.setCell a u) (some a.block) := ⟨rfl, rfl, rfl, by simp, fun k _ hk => Below.heap_setCell w a u k (fun e => hk (by rw [e]))⟩
theorem grown_cell {w w' : World} (hg : w.grownBy w' none) {a : Addr} {v : Value} (h : w.cell? a = some v) : w'.cell? a = some v := hg.cell h (by simp)
theorem grown_frozen {w w' : World} (hg : w.grownBy w' none) {a : Addr} (h : a.block < w.heap.size) : w'.frozen? a = w.frozen? a := World.frozen?_of_block (hg.block a.block h (by simp))
theorem addr_add (b off j : Nat) : (⟨b, off, none⟩ : Addr).add j = ⟨b, off + j, none⟩ := by unfold Addr.add; split <;> simp_all
theorem heap_set {W : World} {B : Nat} {cs : Array Value} {t : TypeId} (h : W.heap[B]? = some (.cells cs t (0, 0))) (i : Nat) (v : Value) : (W.setCell ⟨B, i, none⟩ v).heap[B]? = some (.cells (cs.setIfInBounds i v) t (0, 0)) := by
  simp [World.setCell, Array.getElem?_modify, h]

theorem results_cell1 {fn : Func} {p : Tmp} {ty : TypeId} (h : fn.results = #[.cell p ty]) (tmps : Array Value) (P : Program) (w : World) :
    (results fn tmps).run P w = ((asAddr (tmps.getD p undef)).run P w).andThen fun a w₁ => (loadVar ty a).run P w₁ := by
  simp only [results, h]
  simp [Sem.run_bind, Result.andThen]
def E.cells (e : E) : List Value := [.string e.n, .int .u64 e.at_]
def cellsE (es : List E) : List Value := es.flatMap E.cells
theorem cellsE_len (es : List E) : (cellsE es).length = es.length * 2 := by
  induction es with
  | nil => rfl
  | cons a r ih => simp only [cellsE, List.flatMap_cons, List.length_append, List.length_cons] at ih ⊢; rw [ih]; simp [E.cells]; omega
theorem cellsE_app (a b : List E) : cellsE (a ++ b) = cellsE a ++ cellsE b := by simp [cellsE]
theorem cellsE_at {es : List E} {i : Nat} {e : E} (h : es[i]? = some e) : (cellsE es)[i * 2]? = some (.string e.n) ∧ (cellsE es)[i * 2 + 1]? = some (.int .u64 e.at_) := by
  induction es generalizing i with
  | nil => simp at h
  | cons a r ih =>
    cases i with
    | zero => simp at h; subst h; simp [cellsE, E.cells]
    | succ i =>
      obtain ⟨h1, h2⟩ := ih (i := i) (by simpa using h)
      have e1 : (i + 1) * 2 = i * 2 + 1 + 1 := by omega
      simp only [cellsE, List.flatMap_cons, E.cells, e1, List.cons_append, List.nil_append, List.getElem?_cons_succ] at h1 h2 ⊢
      exact ⟨h1, h2⟩
theorem cellsE_set (es : List E) (i : Nat) (e : E) : ((cellsE es).set (i * 2) (.string e.n)).set (i * 2 + 1) (.int .u64 e.at_) = cellsE (es.set i e) := by
  induction es generalizing i with
  | nil => simp [cellsE]
  | cons a r ih =>
    cases i with
    | zero => simp [cellsE, E.cells]
    | succ i =>
      have e1 : (i + 1) * 2 = i * 2 + 1 + 1 := by omega
      have := ih i
      simp only [cellsE, List.flatMap_cons, E.cells, e1, List.cons_append, List.nil_append, List.set_cons_succ] at this ⊢
      rw [this]
theorem cellsE_take (es : List E) (n : Nat) : (cellsE es).take (n * 2) = cellsE (es.take n) := by
  induction es generalizing n with
  | nil => simp [cellsE]
  | cons a r ih =>
    cases n with
    | zero => simp [cellsE]
    | succ n =>
      have e1 : (n + 1) * 2 = n * 2 + 1 + 1 := by omega
      have := ih n
      simp only [cellsE, List.flatMap_cons, E.cells, e1, List.cons_append, List.nil_append, List.take_succ_cons] at this ⊢
      rw [this]
/-- Entries in a row of our own, of element type t. -/
abbrev Rw (t : TypeId) (w : World) (v : Value) (es : List E) : Prop := w.ownsRow 0 t 2 v es.length (cellsE es)
theorem Rw.shape {t : TypeId} {w : World} {v : Value} {es : List E} (h : Rw t w v es) : ∃ a cap, v = .slice a es.length cap := by
  rcases h.2 with ⟨rfl, h0⟩ | ⟨g, cap, cur, rfl, _⟩
  · exact ⟨none, 0, by rw [h0]⟩
  · exact ⟨_, _, rfl⟩
theorem Rw.at {t : TypeId} {w : World} {a : Option Addr} {len cap : Nat} {es : List E} (h : Rw t w (.slice a len cap) es) {i : Nat} {e : E} (hi : es[i]? = some e) :
    ∃ g, a = some ⟨g, 0, none⟩ ∧ g < w.heap.size ∧ len = es.length ∧ w.cell? ⟨g, i * 2, none⟩ = some (.string e.n) ∧ w.cell? ⟨g, i * 2 + 1, none⟩ = some (.int .u64 e.at_) ∧ ∀ k, w.frozen? ⟨g, k, none⟩ = false := by
  have hl := (List.getElem?_eq_some_iff.1 hi).1
  rcases id h.2 with ⟨e1, h0⟩ | ⟨g, c, cur, e1, _, hg, _⟩
  · omega
  · simp only [Value.slice.injEq] at e1
    obtain ⟨rfl, rfl, rfl⟩ := e1
    obtain ⟨h1, h2⟩ := cellsE_at hi
    have k1 := h.cells (g := g) rfl _ _ h1
    have k2 := h.cells (g := g) rfl _ _ h2
    rw [addr_add, Nat.zero_add] at k1 k2
    exact ⟨g, rfl, (Array.getElem?_eq_some_iff.1 hg).1, rfl, k1, k2, fun k => by simp [World.frozen?, hg]⟩
/-- An entry stored. -/
theorem Rw.set {t : TypeId} {w : World} {g len cap : Nat} {es : List E} (h : Rw t w (.slice (some ⟨g, 0, none⟩) len cap) es) (i : Nat) (e : E) (hi : i < es.length) :
    Rw t ((w.setCell ⟨g, i * 2, none⟩ (.string e.n)).setCell ⟨g, i * 2 + 1, none⟩ (.int .u64 e.at_)) (.slice (some ⟨g, 0, none⟩) len cap) (es.set i e) := by
  rcases h with ⟨h1, ⟨e1, h0⟩ | ⟨g', c, cur, e1, h0, hg, hn, hm, hs, ht⟩⟩
  · cases e1
  · simp only [Value.slice.injEq, Option.some.injEq, Addr.mk.injEq] at e1
    obtain ⟨⟨rfl, _⟩, rfl, rfl⟩ := e1
    have hb1 := heap_set hg (i * 2) (.string e.n)
    have hb2 := heap_set hb1 (i * 2 + 1) (.int .u64 e.at_)
    refine ⟨by rw [cellsE_len], .inr ⟨g, cap, _, by simp, h0, hb2, by simpa using hn, hm, by simpa using hs, ?_⟩⟩
    rw [← cellsE_set, ← ht]
    have l2 : (es.set i e).length = es.length := by simp
    rw [l2]
    apply List.ext_getElem?
    intro k
    simp only [List.getElem?_take, List.getElem?_set, Array.getElem?_toList, Array.getElem?_setIfInBounds, List.length_take, List.length_set, Array.length_toList, Array.size_setIfInBounds]
    have hcs : cur.size = cap * 2 := hs
    have hi2 : i * 2 + 1 < cur.size := by omega
    by_cases k1 : i * 2 + 1 = k
    · subst k1
      have : i * 2 + 1 < es.length * 2 := by omega
      simp [this, hi2]
      omega
    · by_cases k2 : i * 2 = k
      · subst k2
        have : i * 2 < es.length * 2 := by omega
        have h3 : i * 2 < cur.size := by omega
        simp [this, h3]
        omega
      · simp [k1, k2]
theorem Rw.kept {t : TypeId} {w w' : World} {v : Value} {es : List E} (h : Rw t w v es) (hb : ∀ k, v.ownBlock = some k → w'.heap[k]? = w.heap[k]?) : Rw t w' v es := by
  obtain ⟨h1, h2⟩ := h
  refine ⟨h1, ?_⟩
  rcases h2 with h2 | ⟨g, cap, cur, rfl, hbg, hg, hr⟩
  · exact .inl h2
  · exact .inr ⟨g, cap, cur, rfl, hbg, (hb g rfl).trans hg, hr⟩

/-- A name as a key. -/
def ky (n : ByteArray) : Lit := .string n.data.toList
theorem ky_inj {a b : ByteArray} (h : ky a = ky b) : a = b := by
  simp only [ky, Lit.string.injEq] at h
  cases a; cases b
  simp only [ByteArray.mk.injEq]
  exact Array.toList_inj.1 h
theorem keyed9 : Keyed Tryz.prog 9 := string_keyed Tryz.underlying9
theorem zero3 (w : World) : (zeroValue 3).run Tryz.prog w = .ok (.int .i64 0) w := by kernel_rfl
/-- What the map of places holds. -/
structure Plc (D : DataW Value) (es : List E) : Prop where
  has : ∀ (i : Nat) (e : E), es[i]? = some e → Maps.has D (ky e.n) = true ∧ D.atKey (ky e.n) (.lit (.int .i64 0)) = .lit (.int .i64 i)
  all : ∀ n : ByteArray, Maps.has D (ky n) = true → ∃ e ∈ es, e.n = n
  size : Maps.size D = es.length
/-- The map of places. -/
def Mp (w : World) (bm : Nat) (D : DataW Value) : Prop := w.ownsMap Tryz.prog 9 (plainElem Tryz.prog 3) bm (Maps.size D) D
theorem Mp.tight {w : World} {bm n : Nat} {D : DataW Value} (h : w.ownsMap Tryz.prog 9 (plainElem Tryz.prog 3) bm n D) : Mp w bm D := by
  obtain ⟨es, clock, hb, F, hs, rfl⟩ := h
  exact ⟨es, clock, hb, F, by simp [Maps.size, length_sorted], rfl⟩
theorem key9 {n : ByteArray} (hn : n.size ≤ maxLen) : keyOf Tryz.prog 9 (.string n) = some (ky n) := WideMaps.keyOf_string_mk Tryz.underlying9 hn
theorem Mp.look {w : World} {bm : Nat} {D : DataW Value} (h : Mp w bm D) {n : ByteArray} (hn : n.size ≤ maxLen) :
    ∃ c, (Instr.lookup 107 (.map (some bm)) (.string n) false).run Tryz.prog w = .ok (.int .i64 c) w ∧ (Instr.lookup 107 (.map (some bm)) (.string n) true).run Tryz.prog w = .ok (.tuple #[.int .i64 c, .bool (Maps.has D (ky n))]) w ∧ D.atKey (ky n) (.lit (.int .i64 0)) = .lit (.int .i64 c) := by
  have hw0 : (Lit.int .i64 0).wf = true := by decide
  obtain ⟨c, h1, h2, h3⟩ := World.ownsMap.lookup_int h keyed9 Tryz.underlying107 Tryz.underlying3 (zero3 w) (key9 hn)
  obtain ⟨v, ps, h4, h5⟩ := World.ownsMap.look_ok h keyed9 Tryz.underlying107 (zero3 w) (plainElem_int Tryz.underlying3 hw0) (key9 hn)
  obtain ⟨c', rfl, hc, hwc⟩ := plainElem_int_inv Tryz.underlying3 h5
  simp only [Prod.mk.injEq] at hc
  rw [h2] at hc
  have : c = c' := by simpa using hc.1
  subst this
  exact ⟨c, h1, h4, h2⟩
theorem Mp.store {w : World} {bm : Nat} {D : DataW Value} (h : Mp w bm D) (hl : Maps.size D < maxLen) {n : ByteArray} (hn : n.size ≤ maxLen) {c : Int} (hc : (Lit.int .i64 c).wf = true) :
    ∃ w', (Instr.mapUpdate 107 (.map (some bm)) (.string n) (.int .i64 c)).run Tryz.prog w = .ok () w' ∧ Mp w' bm (D.put (ky n) (.lit (.int .i64 c))) ∧ w.mapTurned w' bm := by
  obtain ⟨w', hrun, hown, ht⟩ := World.ownsMap.store h keyed9 Tryz.underlying107 hl (key9 hn) (plainElem_int Tryz.underlying3 hc)
  exact ⟨w', hrun, Mp.tight hown, ht⟩
theorem Mp.drop {w : World} {bm : Nat} {D : DataW Value} (h : Mp w bm D) {n : ByteArray} (hn : n.size ≤ maxLen) (ty : TypeId) :
    ∃ w', (Builtin.delete_ #[107, 9] ty #[.map (some bm), .string n]).run Tryz.prog w = .ok (.tuple #[]) w' ∧ Mp w' bm (D.del (ky n)) ∧ w.mapTurned w' bm := by
  obtain ⟨w', hrun, hown, ht⟩ := World.ownsMap.drop h keyed9 Tryz.underlying107 (key9 hn) ty
  exact ⟨w', hrun, Mp.tight hown, ht⟩
theorem Mp.isMap {w : World} {bm : Nat} {D : DataW Value} (h : Mp w bm D) : IsMap D := World.ownsMap.isMap h
theorem Mp.tidy {w : World} {bm : Nat} {D : DataW Value} (h : Mp w bm D) : Tidy D := World.ownsMap.tidy h keyed9
theorem ky_key (n : ByteArray) : WideAt.IsKeyLit (ky n) := trivial
set_option maxRecDepth 100000 in
set_option maxHeartbeats 1000000 in
/-- Entry.ahead. -/
theorem ahead_any (a b : E) (w : World) : Calls Tryz.prog 173 #[.agg #[.string a.n, .int .u64 a.at_], .agg #[.string b.n, .int .u64 b.at_]] w fun e w' => e = .returned (.bool (ltb a b)) ∧ w.grownBy w' none := by
  obtain ⟨an, aa⟩ := a
  obtain ⟨bn, ba⟩ := b
  dsimp only
  go_enter Tryz.func173, Tryz.ntmps173
  go_wp2
  · rename_i h
    have h1 : aa ≠ ba := by simpa using h
    have e : ltb ⟨an, aa⟩ ⟨bn, ba⟩ = decide (aa < ba) := by simp [ltb, h1]
    go_ret
    exact ⟨by rw [e]; rfl, grown_none (World.grownBy_alloc w _ none) (World.grownBy_alloc _ _ none)⟩
  · rename_i h
    have h1 : aa = ba := by simpa using h
    have e : ltb ⟨an, aa⟩ ⟨bn, ba⟩ = Op.bytesLess an.toList bn.toList := by rw [bytesLess_eq]; simp [ltb, h1]
    go_ret
    exact ⟨by rw [e]; rfl, grown_none (World.grownBy_alloc w _ none) (World.grownBy_alloc _ _ none)⟩
end Go.Proofs.YtblnhcnfeagjhaaGreatDoor.Q

/- A line of entries in memory: what turns, what is kept; Len, Less, front. -/
namespace Go.Proofs.YtblnhcnfeagjhaaGreatDoor.Q
open Go.RowKit Go.IntWalk Go.Maps
set_option linter.unusedVariables false

/-- What lies outside blocks of which C is true lies as it lay. -/
structure Kp (C : Nat → Prop) (w w' : World) : Prop where
  os : w'.os = w.os
  tape : w'.tape = w.tape
  output : w'.output = w.output
  size : w.heap.size ≤ w'.heap.size
  block : ∀ k, k < w.heap.size → ¬ C k → w'.heap[k]? = w.heap[k]?
theorem Kp.of {C : Nat → Prop} {w w' : World} {row : Option Nat} (hg : w.grownBy w' row) (hr : ∀ k, row = some k → C k) : Kp C w w' :=
  ⟨hg.os, hg.tape, hg.output, hg.size, fun k hk hc => hg.block k hk (fun e => hc (hr k e.symm))⟩
theorem Kp.of0 {C : Nat → Prop} {w w' : World} (hg : w.grownBy w' none) : Kp C w w' := Kp.of hg (by simp)
theorem Kp.refl (C : Nat → Prop) (w : World) : Kp C w w := ⟨rfl, rfl, rfl, Nat.le_refl _, fun _ _ _ => rfl⟩
theorem Kp.trans {C C' : Nat → Prop} {a b c : World} (h : Kp C a b) (k : Kp C' b c) (hc : ∀ i, i < a.heap.size → C' i → C i) : Kp C a c :=
  ⟨k.os.trans h.os, k.tape.trans h.tape, k.output.trans h.output, Nat.le_trans h.size k.size, fun i hi hn => (k.block i (Nat.lt_of_lt_of_le hi h.size) (fun e => hn (hc i hi e))).trans (h.block i hi hn)⟩
theorem Kp.mono {C C' : Nat → Prop} {w w' : World} (h : Kp C w w') (hc : ∀ k, C k → C' k) : Kp C' w w' := ⟨h.os, h.tape, h.output, h.size, fun k hk hn => h.block k hk (fun e => hn (hc k e))⟩
theorem Kp.below {C : Nat → Prop} {n : Nat} {w w' : World} (h : Kp C w w') (hn : n ≤ w.heap.size) (hc : ∀ k, C k → n ≤ k) : Below n w w' := ⟨h.os, h.tape, h.output, h.size, fun k hk => h.block k (by omega) (fun e => by have := hc k e; omega)⟩

/-- The blocks of a line. -/
def fp (qb bm : Nat) (rv : Value) (k : Nat) : Prop := k = qb ∨ k = bm ∨ rv.ownBlock = some k
/-- A line: block qb is its struct, bm its map of places, rv its entries. -/
structure Ln (w : World) (qb bm : Nat) (rv : Value) (es : List E) : Prop where
  blk : w.heap[qb]? = some (.cells #[rv, .map (some bm)] 111 (0, 0))
  row : Rw 91 w rv es
  mp : ∃ D, Mp w bm D ∧ Plc D es
  nq : rv.ownBlock ≠ some qb
  nm : rv.ownBlock ≠ some bm
  ok : ∀ e ∈ es, e.n.size ≤ maxLen ∧ 0 ≤ e.at_ ∧ e.at_ < 18446744073709551616
  len : es.length ≤ 100000
/-- What has turned: the line alone; its entries lie where they lay, or in new memory. -/
structure Tn (w w' : World) (qb bm : Nat) (rv rv' : Value) : Prop where
  kp : Kp (fp qb bm rv) w w'
  own : rv'.ownBlock = rv.ownBlock ∨ ∃ k, rv'.ownBlock = some k ∧ w.heap.size ≤ k
section
variable {w w' w'' : World} {qb bm : Nat} {rv rv' rv'' : Value} {es es' : List E}
theorem Ln.qbl (h : Ln w qb bm rv es) : qb < w.heap.size := (Array.getElem?_eq_some_iff.1 h.blk).1
theorem Ln.bml (h : Ln w qb bm rv es) : bm < w.heap.size := by obtain ⟨D, h1, _⟩ := h.mp; exact World.ownsMap.lt h1
theorem Ln.rvl (h : Ln w qb bm rv es) : ∀ k, rv.ownBlock = some k → k < w.heap.size := fun k hk => (h.row.lt k hk).2
theorem Ln.ne (h : Ln w qb bm rv es) : qb ≠ bm := by
  rintro rfl
  obtain ⟨D, ⟨es, clock, hb, _⟩, _⟩ := h.mp
  rw [h.blk] at hb
  cases hb
theorem Ln.c0 (h : Ln w qb bm rv es) : w.cell? ⟨qb, 0, none⟩ = some rv := by simp [World.cell?, h.blk]
theorem Ln.c1 (h : Ln w qb bm rv es) : w.cell? ⟨qb, 1, none⟩ = some (.map (some bm)) := by simp [World.cell?, h.blk]
theorem Ln.fz (h : Ln w qb bm rv es) (i : Nat) : w.frozen? ⟨qb, i, none⟩ = false := by simp [World.frozen?, h.blk]
theorem Mp.kept {bm : Nat} {D : DataW Value} (h : Mp w bm D) (hb : w'.heap[bm]? = w.heap[bm]?) : Mp w' bm D := by
  obtain ⟨es, clock, h1, F, hs, hD⟩ := h
  exact ⟨es, clock, hb.trans h1, F, hs, hD⟩
theorem Ln.kept (h : Ln w qb bm rv es) (hb : ∀ k, fp qb bm rv k → w'.heap[k]? = w.heap[k]?) : Ln w' qb bm rv es := by
  obtain ⟨D, h1, h2⟩ := h.mp
  exact ⟨(hb qb (.inl rfl)).trans h.blk, h.row.kept fun k hk => hb k (.inr (.inr hk)), ⟨D, h1.kept (hb bm (.inr (.inl rfl))), h2⟩, h.nq, h.nm, h.ok, h.len⟩
theorem Ln.fpl (h : Ln w qb bm rv es) : ∀ k, fp qb bm rv k → k < w.heap.size := by
  rintro k (rfl | rfl | e)
  · exact h.qbl
  · exact h.bml
  · exact h.rvl k e
theorem Ln.keep (h : Ln w qb bm rv es) (hg : w.grownBy w' none) : Ln w' qb bm rv es := h.kept fun k hk => hg.block k (h.fpl k hk) (by simp)
theorem Tn.of0 (hg : w.grownBy w' none) : Tn w w' qb bm rv rv := ⟨Kp.of0 hg, .inl rfl⟩
theorem Tn.trans (h : Tn w w' qb bm rv rv') (k : Tn w' w'' qb bm rv' rv'') : Tn w w'' qb bm rv rv'' := by
  refine ⟨h.kp.trans k.kp ?_, ?_⟩
  · rintro i hi (e | e | e)
    · exact .inl e
    · exact .inr (.inl e)
    · rcases h.own with ho | ⟨j, hj, hjl⟩
      · exact .inr (.inr (by rw [← ho]; exact e))
      · rw [hj] at e; cases e; omega
  · rcases k.own with ko | ⟨j, hj, hjl⟩
    · rcases h.own with ho | ⟨j, hj, hjl⟩
      · exact .inl (ko.trans ho)
      · exact .inr ⟨j, ko.trans hj, hjl⟩
    · exact .inr ⟨j, hj, Nat.le_trans h.kp.size hjl⟩
theorem Ln.nodup (h : Ln w qb bm rv es) {i j : Nat} {a b : E} (hi : es[i]? = some a) (hj : es[j]? = some b) (e : a.n = b.n) : i = j := by
  obtain ⟨D, h1, h2⟩ := h.mp
  have k1 := (h2.has i a hi).2
  have k2 := (h2.has j b hj).2
  rw [e, k2] at k1
  have : (j : Int) = i := by simpa using k1
  omega
theorem Ln.shape (h : Ln w qb bm rv es) : ∃ a cap, rv = .slice a es.length cap := h.row.shape
end
/-- A world in which whatever lay in w lies as it lay. -/
structure Lat (w : World) where
  W : World
  h : w.grownBy W none
theorem wp_region_lat {P : Program} {id : Nat} {Q : Exit → Act → World → Prop} {a : Act} {w : World} {l : List Oper} (hm : P.follows .mixedOrders = true) (hB : Region.lexB .any l.toArray = true)
    (h : wpQuiet P l.toArray (fun w' => ∃ p : Lat w, w' = p.W) (fun a' => ∀ w', (∃ p : Lat w, w' = p.W) → Q .normal a' w') l a) : (Code.region id l.toArray true).wp P Q a w :=
  wp_region_quiet (C := fun w' => ∃ p : Lat w, w' = p.W) hm hB ⟨⟨_, grown_drew w⟩, rfl⟩ (by simpa using h)
theorem lat_nonempty (w : World) : Nonempty (Lat w) := ⟨⟨w, grown_refl _⟩⟩
theorem lat_cell {w : World} {b o : Nat} {v : Value} (h : w.cell? ⟨b, o, none⟩ = some v) (p : Lat w) : p.W.cell? ⟨b, o, none⟩ = some v := grown_cell p.h h
theorem lat_ahead {w : World} (a b : E) (p : Lat w) : Calls Tryz.prog 173 #[.agg #[.string a.n, .int .u64 a.at_], .agg #[.string b.n, .int .u64 b.at_]] p.W fun e w'' => e = .returned (.bool (ltb a b)) ∧ ∃ p' : Lat w, w'' = p'.W :=
  (ahead_any a b p.W).mono fun e w'' ⟨he, hB⟩ => ⟨he, ⟨w'', grown_none p.h hB⟩, rfl⟩
set_option maxRecDepth 100000 in
set_option maxHeartbeats 1000000 in
/-- line.Len. -/
theorem llen_any (w : World) {qb bm : Nat} {rv : Value} {es : List E} (h : Ln w qb bm rv es) : Calls Tryz.prog 144 #[.pointer (some ⟨qb, 0, none⟩)] w fun e w' => e = .returned (.int .i64 es.length) ∧ w' = w := by
  obtain ⟨a, cap, rfl⟩ := h.shape
  have c0 := h.c0
  go_enter Tryz.func144, Tryz.ntmps144
  go_wp2
  go_ret
  exact ⟨rfl, rfl⟩
set_option maxRecDepth 100000 in
set_option maxHeartbeats 1000000 in
/-- line.front. -/
theorem front_any (w : World) {qb bm : Nat} {rv : Value} {es : List E} (h : Ln w qb bm rv es) {e : E} (he : es[0]? = some e) : Calls Tryz.prog 120 #[.pointer (some ⟨qb, 0, none⟩)] w fun r w' => r = .returned (.agg #[.string e.n, .int .u64 e.at_]) ∧ w.grownBy w' none := by
  obtain ⟨a, cap, rfl⟩ := h.shape
  have hg1 := World.grownBy_alloc w (.cells #[.string ByteArray.empty, .int .u64 0] 91) none
  obtain ⟨g, rfl, hgl, _, k1, k2, _⟩ := h.row.at he
  have c0 := h.c0
  have hpos : 0 < es.length := (List.getElem?_eq_some_iff.1 he).1
  simp only [Nat.zero_mul, Nat.zero_add] at k1 k2
  have c0' := fun o => grown_cell (World.grownBy_alloc w o none) c0
  have k1' := fun o => grown_cell (World.grownBy_alloc w o none) k1
  have k2' := fun o => grown_cell (World.grownBy_alloc w o none) k2
  go_enter Tryz.func120, Tryz.ntmps120
  go_wp2
  refine bodyPost_ret (v := .agg #[.string e.n, .int .u64 e.at_]) (by rw [results_cell1 rfl]; go_simp) rfl ?_
  exact ⟨rfl, World.grownBy_alloc w _ none⟩
set_option maxRecDepth 100000 in
set_option maxHeartbeats 1000000 in
/-- line.Less. -/
theorem less_any (w : World) {qb bm : Nat} {rv : Value} {es : List E} (h : Ln w qb bm rv es) {i j : Nat} {a b : E} (hi : es[i]? = some a) (hj : es[j]? = some b) :
    Calls Tryz.prog 174 #[.pointer (some ⟨qb, 0, none⟩), .int .i64 i, .int .i64 j] w fun r w' => r = .returned (.bool (ltb a b)) ∧ w.grownBy w' none := by
  obtain ⟨ad, cap, rfl⟩ := h.shape
  obtain ⟨g, rfl, hgl, _, k1, k2, _⟩ := h.row.at hi
  obtain ⟨g', e', _, _, k3, k4, _⟩ := h.row.at hj
  cases e'
  have c0 := h.c0
  have hil : i < es.length := (List.getElem?_eq_some_iff.1 hi).1
  have hjl : j < es.length := (List.getElem?_eq_some_iff.1 hj).1
  have hl := h.len
  haveI := lat_nonempty w
  have kc0 := lat_cell c0
  have kk1 := lat_cell k1
  have kk2 := lat_cell k2
  have kk3 := lat_cell k3
  have kk4 := lat_cell k4
  have ka := fun p : Lat w => lat_ahead a b p
  go_enter Tryz.func174, Tryz.ntmps174
  go_wp2_with fail
  refine wp_region_lat (by kernel_rfl) (by kernel_rfl) ?_
  repeat (go_big_quiet_step (fail))
  go_big_quiet_step ((go_at_call 173; exact ka _))
  repeat (go_big_quiet_step (fail))
  refine wpQuiet_nil ?_
  intro _ hw'
  obtain ⟨p, hw''⟩ := hw'
  subst hw''
  go_wp2
  go_ret
  exact ⟨rfl, p.h⟩
end Go.Proofs.YtblnhcnfeagjhaaGreatDoor.Q
