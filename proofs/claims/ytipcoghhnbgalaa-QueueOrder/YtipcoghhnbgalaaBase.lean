/- Entries in memory; a line of entries in memory; which of two comes ahead. -/
import Derived.WalkKit
import Derived.WalkSpells
import Derived.WalkLawsBesides
import Derived.Outline
import Derived.Maps.RangeWalk
import Derived.Maps.OwnSet
import Derived.Maps.AppendAt
import Derived.ArgAppend
import Derived.Lib.SliceRun
import Derived.Laws.ResultCell
import Derived.Deep.RegionHeld3
import Derived.RegionTactic
import Derived.BigQuiet
import Derived.StringKeys
import Derived.Test.YtipcoghhnbgalaaProg
import Derived.Test.YtipcoghhnbgalaaHeap
namespace Go.Proofs.Ytipcoghhnbgalaa
open Go.RowKit Go.IntWalk Go.Maps
set_option linter.unusedVariables false

theorem bytesLess_eq : ∀ (x y : List UInt8), Op.bytesLess x y = decide (x < y)
  | [], [] => by simp [Op.bytesLess]
  | _ :: _, [] => by simp [Op.bytesLess]
  | [], _ :: _ => by simp [Op.bytesLess]
  | a :: x, b :: y => by
    rw [Op.bytesLess, bytesLess_eq x y]
    by_cases h : a < b
    · simp [h, List.cons_lt_cons_iff]
    · by_cases h2 : a = b
      · subst h2; simp
      · simp [h, h2, List.cons_lt_cons_iff]
/-- Told, and kept from the walk. -/
structure Hid (p : Prop) : Prop where
  out : p
theorem grown_refl (w : World) : w.grownBy w none := ⟨rfl, rfl, rfl, Nat.le_refl _, fun _ _ _ => rfl⟩
theorem grown_drew (w : World) : w.grownBy w.drew none := ⟨rfl, rfl, rfl, Nat.le_refl _, fun _ _ _ => rfl⟩
theorem grown_none {a b c : World} (h : a.grownBy b none) (k : b.grownBy c none) : a.grownBy c none := h.andThen k (by simp)
theorem grown_new {a b c : World} {row : Option Nat} {r : Nat} (h : a.grownBy b row) (k : b.grownBy c (some r)) (hr : a.heap.size ≤ r) : a.grownBy c row := h.andThen k fun j hj => .inl (by cases hj; exact hr)
theorem grown_add {a b c : World} {row : Option Nat} (h : a.grownBy b row) (k : b.grownBy c none) : a.grownBy c row := h.andThen k (by simp)
theorem grown_same {a b c : World} {row : Option Nat} (h : a.grownBy b none) (k : b.grownBy c row) : a.grownBy c row := (h.but row).andThen k fun j hj => .inr hj
theorem grown_setCell (w : World) (a : Addr) (u : Value) : w.grownBy (w.setCell a u) (some a.block) := ⟨rfl, rfl, rfl, by simp, fun k _ hk => Below.heap_setCell w a u k (fun e => hk (by rw [e]))⟩
theorem grown_cell {w w' : World} (hg : w.grownBy w' none) {a : Addr} {v : Value} (h : w.cell? a = some v) : w'.cell? a = some v := hg.cell h (by simp)
theorem grown_frozen {w w' : World} (hg : w.grownBy w' none) {a : Addr} (h : a.block < w.heap.size) : w'.frozen? a = w.frozen? a := World.frozen?_of_block (hg.block a.block h (by simp))
theorem addr_add (b off j : Nat) : (⟨b, off, none⟩ : Addr).add j = ⟨b, off + j, none⟩ := by unfold Addr.add; split <;> simp_all
theorem heap_set {W : World} {B : Nat} {cs : Array Value} {t : TypeId} (h : W.heap[B]? = some (.cells cs t (0, 0))) (i : Nat) (v : Value) : (W.setCell ⟨B, i, none⟩ v).heap[B]? = some (.cells (cs.setIfInBounds i v) t (0, 0)) := by
  simp [World.setCell, Array.getElem?_modify, h]

theorem results_cell1 {fn : Func} {p : Tmp} {ty : TypeId} (h : fn.results = #[.cell p ty]) (tmps : Array Value) (P : Program) (w : World) :
    (results fn tmps).run P w = ((asAddr (tmps.getD p undef)).run P w).andThen fun a w₁ => (loadVar ty a).run P w₁ := by
  simp only [results, h]
  simp [Sem.run_bind, Result.andThen]
def E.cells (e : E) : List Value := [.string e.n, .int .u64 e.at_]
def cellsE (es : List E) : List Value := es.flatMap E.cells
theorem cellsE_len (es : List E) : (cellsE es).length = es.length * 2 := by
  induction es with
  | nil => rfl
  | cons a r ih => simp only [cellsE, List.flatMap_cons, List.length_append, List.length_cons] at ih ⊢; rw [ih]; simp [E.cells]; omega
theorem cellsE_app (a b : List E) : cellsE (a ++ b) = cellsE a ++ cellsE b := by simp [cellsE]
theorem cellsE_at {es : List E} {i : Nat} {e : E} (h : es[i]? = some e) : (cellsE es)[i * 2]? = some (.string e.n) ∧ (cellsE es)[i * 2 + 1]? = some (.int .u64 e.at_) := by
  induction es generalizing i with
  | nil => simp at h
  | cons a r ih =>
    cases i with
    | zero => simp at h; subst h; simp [cellsE, E.cells]
    | succ i =>
      obtain ⟨h1, h2⟩ := ih (i := i) (by simpa using h)
      have e1 : (i + 1) * 2 = i * 2 + 1 + 1 := by omega
      simp only [cellsE, List.flatMap_cons, E.cells, e1, List.cons_append, List.nil_append, List.getElem?_cons_succ] at h1 h2 ⊢
      exact ⟨h1, h2⟩
theorem cellsE_set (es : List E) (i : Nat) (e : E) : ((cellsE es).set (i * 2) (.string e.n)).set (i * 2 + 1) (.int .u64 e.at_) = cellsE (es.set i e) := by
  induction es generalizing i with
  | nil => simp [cellsE]
  | cons a r ih =>
    cases i with
    | zero => simp [cellsE, E.cells]
    | succ i =>
      have e1 : (i + 1) * 2 = i * 2 + 1 + 1 := by omega
      have := ih i
      simp only [cellsE, List.flatMap_cons, E.cells, e1, List.cons_append, List.nil_append, List.set_cons_succ] at this ⊢
      rw [this]
theorem cellsE_take (es : List E) (n : Nat) : (cellsE es).take (n * 2) = cellsE (es.take n) := by
  induction es generalizing n with
  | nil => simp [cellsE]
  | cons a r ih =>
    cases n with
    | zero => simp [cellsE]
    | succ n =>
      have e1 : (n + 1) * 2 = n * 2 + 1 + 1 := by omega
      have := ih n
      simp only [cellsE, List.flatMap_cons, E.cells, e1, List.cons_append, List.nil_append, List.take_succ_cons] at this ⊢
      rw [this]
/-- Entries in a row of our own, of element type t. -/
abbrev Rw (t : TypeId) (w : World) (v : Value) (es : List E) : Prop := w.ownsRow 0 t 2 v es.length (cellsE es)
theorem Rw.shape {t : TypeId} {w : World} {v : Value} {es : List E} (h : Rw t w v es) : ∃ a cap, v = .slice a es.length cap := by
  rcases h.2 with ⟨rfl, h0⟩ | ⟨g, cap, cur, rfl, _⟩
  · exact ⟨none, 0, by rw [h0]⟩
  · exact ⟨_, _, rfl⟩
theorem Rw.at {t : TypeId} {w : World} {a : Option Addr} {len cap : Nat} {es : List E} (h : Rw t w (.slice a len cap) es) {i : Nat} {e : E} (hi : es[i]? = some e) :
    ∃ g, a = some ⟨g, 0, none⟩ ∧ g < w.heap.size ∧ len = es.length ∧ w.cell? ⟨g, i * 2, none⟩ = some (.string e.n) ∧ w.cell? ⟨g, i * 2 + 1, none⟩ = some (.int .u64 e.at_) ∧ ∀ k, w.frozen? ⟨g, k, none⟩ = false := by
  have hl := (List.getElem?_eq_some_iff.1 hi).1
  rcases id h.2 with ⟨e1, h0⟩ | ⟨g, c, cur, e1, _, hg, _⟩
  · omega
  · simp only [Value.slice.injEq] at e1
    obtain ⟨rfl, rfl, rfl⟩ := e1
    obtain ⟨h1, h2⟩ := cellsE_at hi
    have k1 := h.cells (g := g) rfl _ _ h1
    have k2 := h.cells (g := g) rfl _ _ h2
    rw [addr_add, Nat.zero_add] at k1 k2
    exact ⟨g, rfl, (Array.getElem?_eq_some_iff.1 hg).1, rfl, k1, k2, fun k => by simp [World.frozen?, hg]⟩
/-- An entry stored. -/
theorem Rw.set {t : TypeId} {w : World} {g len cap : Nat} {es : List E} (h : Rw t w (.slice (some ⟨g, 0, none⟩) len cap) es) (i : Nat) (e : E) (hi : i < es.length) :
    Rw t ((w.setCell ⟨g, i * 2, none⟩ (.string e.n)).setCell ⟨g, i * 2 + 1, none⟩ (.int .u64 e.at_)) (.slice (some ⟨g, 0, none⟩) len cap) (es.set i e) := by
  rcases h with ⟨h1, ⟨e1, h0⟩ | ⟨g', c, cur, e1, h0, hg, hn, hm, hs, ht⟩⟩
  · cases e1
  · simp only [Value.slice.injEq, Option.some.injEq, Addr.mk.injEq] at e1
    obtain ⟨⟨rfl, _⟩, rfl, rfl⟩ := e1
    have hb1 := heap_set hg (i * 2) (.string e.n)
    have hb2 := heap_set hb1 (i * 2 + 1) (.int .u64 e.at_)
    refine ⟨by rw [cellsE_len], .inr ⟨g, cap, _, by simp, h0, hb2, by simpa using hn, hm, by simpa using hs, ?_⟩⟩
    rw [← cellsE_set, ← ht]
    have l2 : (es.set i e).length = es.length := by simp
    rw [l2]
    apply List.ext_getElem?
    intro k
    simp only [List.getElem?_take, List.getElem?_set, Array.getElem?_toList, Array.getElem?_setIfInBounds, List.length_take, List.length_set, Array.length_toList, Array.size_setIfInBounds]
    have hcs : cur.size = cap * 2 := hs
    have hi2 : i * 2 + 1 < cur.size := by omega
    by_cases k1 : i * 2 + 1 = k
    · subst k1
      have : i * 2 + 1 < es.length * 2 := by omega
      simp [this, hi2]
      omega
    · by_cases k2 : i * 2 = k
      · subst k2
        have : i * 2 < es.length * 2 := by omega
        have h3 : i * 2 < cur.size := by omega
        simp [this, h3]
        omega
      · simp [k1, k2]
theorem Rw.kept {t : TypeId} {w w' : World} {v : Value} {es : List E} (h : Rw t w v es) (hb : ∀ k, v.ownBlock = some k → w'.heap[k]? = w.heap[k]?) : Rw t w' v es := by
  obtain ⟨h1, h2⟩ := h
  refine ⟨h1, ?_⟩
  rcases h2 with h2 | ⟨g, cap, cur, rfl, hbg, hg, hr⟩
  · exact .inl h2
  · exact .inr ⟨g, cap, cur, rfl, hbg, (hb g rfl).trans hg, hr⟩

/-- A name as a key. -/
def ky (n : ByteArray) : Lit := .string n.data.toList
theorem ky_inj {a b : ByteArray} (h : ky a = ky b) : a = b := by
  simp only [ky, Lit.string.injEq] at h
  cases a; cases b
  simp only [ByteArray.mk.injEq]
  exact Array.toList_inj.1 h
theorem keyed9 : Keyed Try.prog 9 := string_keyed Try.underlying9
theorem zero3 (w : World) : (zeroValue 3).run Try.prog w = .ok (.int .i64 0) w := by kernel_rfl
/-- What the map of places holds. -/
structure Plc (D : DataW Value) (es : List E) : Prop where
  has : ∀ (i : Nat) (e : E), es[i]? = some e → Maps.has D (ky e.n) = true ∧ D.atKey (ky e.n) (.lit (.int .i64 0)) = .lit (.int .i64 i)
  all : ∀ n : ByteArray, Maps.has D (ky n) = true → ∃ e ∈ es, e.n = n
  size : Maps.size D = es.length
/-- The map of places. -/
def Mp (w : World) (bm : Nat) (D : DataW Value) : Prop := w.ownsMap Try.prog 9 (plainElem Try.prog 3) bm (Maps.size D) D
theorem Mp.tight {w : World} {bm n : Nat} {D : DataW Value} (h : w.ownsMap Try.prog 9 (plainElem Try.prog 3) bm n D) : Mp w bm D := by
  obtain ⟨es, clock, hb, F, hs, rfl⟩ := h
  exact ⟨es, clock, hb, F, by simp [Maps.size, length_sorted], rfl⟩
theorem key9 {n : ByteArray} (hn : n.size ≤ maxLen) : keyOf Try.prog 9 (.string n) = some (ky n) := WideMaps.keyOf_string_mk Try.underlying9 hn
theorem Mp.look {w : World} {bm : Nat} {D : DataW Value} (h : Mp w bm D) {n : ByteArray} (hn : n.size ≤ maxLen) :
    ∃ c, (Instr.lookup 54 (.map (some bm)) (.string n) false).run Try.prog w = .ok (.int .i64 c) w ∧ (Instr.lookup 54 (.map (some bm)) (.string n) true).run Try.prog w = .ok (.tuple #[.int .i64 c, .bool (Maps.has D (ky n))]) w ∧ D.atKey (ky n) (.lit (.int .i64 0)) = .lit (.int .i64 c) := by
  have hw0 : (Lit.int .i64 0).wf = true := by decide
  obtain ⟨c, h1, h2, h3⟩ := World.ownsMap.lookup_int h keyed9 Try.underlying54 Try.underlying3 (zero3 w) (key9 hn)
  obtain ⟨v, ps, h4, h5⟩ := World.ownsMap.look_ok h keyed9 Try.underlying54 (zero3 w) (plainElem_int Try.underlying3 hw0) (key9 hn)
  obtain ⟨c', rfl, hc, hwc⟩ := plainElem_int_inv Try.underlying3 h5
  simp only [Prod.mk.injEq] at hc
  rw [h2] at hc
  have : c = c' := by simpa using hc.1
  subst this
  exact ⟨c, h1, h4, h2⟩
theorem Mp.store {w : World} {bm : Nat} {D : DataW Value} (h : Mp w bm D) (hl : Maps.size D < maxLen) {n : ByteArray} (hn : n.size ≤ maxLen) {c : Int} (hc : (Lit.int .i64 c).wf = true) :
    ∃ w', (Instr.mapUpdate 54 (.map (some bm)) (.string n) (.int .i64 c)).run Try.prog w = .ok () w' ∧ Mp w' bm (D.put (ky n) (.lit (.int .i64 c))) ∧ w.mapTurned w' bm := by
  obtain ⟨w', hrun, hown, ht⟩ := World.ownsMap.store h keyed9 Try.underlying54 hl (key9 hn) (plainElem_int Try.underlying3 hc)
  exact ⟨w', hrun, Mp.tight hown, ht⟩
theorem Mp.drop {w : World} {bm : Nat} {D : DataW Value} (h : Mp w bm D) {n : ByteArray} (hn : n.size ≤ maxLen) (ty : TypeId) :
    ∃ w', (Builtin.delete_ #[54, 9] ty #[.map (some bm), .string n]).run Try.prog w = .ok (.tuple #[]) w' ∧ Mp w' bm (D.del (ky n)) ∧ w.mapTurned w' bm := by
  obtain ⟨w', hrun, hown, ht⟩ := World.ownsMap.drop h keyed9 Try.underlying54 (key9 hn) ty
  exact ⟨w', hrun, Mp.tight hown, ht⟩
theorem Mp.isMap {w : World} {bm : Nat} {D : DataW Value} (h : Mp w bm D) : IsMap D := World.ownsMap.isMap h
theorem Mp.tidy {w : World} {bm : Nat} {D : DataW Value} (h : Mp w bm D) : Tidy D := World.ownsMap.tidy h keyed9
theorem ky_key (n : ByteArray) : WideAt.IsKeyLit (ky n) := trivial
set_option maxRecDepth 100000 in
set_option maxHeartbeats 1000000 in
/-- Entry.ahead. -/
theorem ahead_any (a b : E) (w : World) : Calls Try.prog 57 #[.agg #[.string a.n, .int .u64 a.at_], .agg #[.string b.n, .int .u64 b.at_]] w fun e w' => e = .returned (.bool (ltb a b)) ∧ w.grownBy w' none := by
  obtain ⟨an, aa⟩ := a
  obtain ⟨bn, ba⟩ := b
  dsimp only
  go_enter Try.func57, Try.ntmps57
  go_wp2
  · rename_i h
    have h1 : aa ≠ ba := by simpa using h
    have e : ltb ⟨an, aa⟩ ⟨bn, ba⟩ = decide (aa < ba) := by simp [ltb, h1]
    go_ret
    exact ⟨by rw [e]; rfl, grown_none (World.grownBy_alloc w _ none) (World.grownBy_alloc _ _ none)⟩
  · rename_i h
    have h1 : aa = ba := by simpa using h
    have e : ltb ⟨an, aa⟩ ⟨bn, ba⟩ = Op.bytesLess an.toList bn.toList := by rw [bytesLess_eq]; simp [ltb, h1]
    go_ret
    exact ⟨by rw [e]; rfl, grown_none (World.grownBy_alloc w _ none) (World.grownBy_alloc _ _ none)⟩
end Go.Proofs.Ytipcoghhnbgalaa
