/- Timers in memory: rows of them, the map of deadlines, sets of them. -/
import Derived.WalkKit
import Derived.WalkSpells
import Derived.WalkLawsBesides
import Derived.Outline
import Derived.Maps.RangeWalk
import Derived.Maps.OwnSet
import Derived.Maps.AppendAt
import Derived.ArgAppend
import Derived.Lib.SliceRun
import Derived.Laws.ResultCell
import Derived.Deep.RegionHeld3
import Derived.RegionTactic
import Derived.BigQuiet
import Derived.StringKeys
import Derived.Test.YtlljfgpmjpmoiaaProg
import Derived.Test.YtlljfgpmjpmoiaaOrd
import Derived.Deep.QuietTactic
import Derived.DeepKeys4
import Derived.ChangeKeysEq
namespace Go.Proofs.Ytlljfgpmjpmoiaa
open Go.RowKit Go.IntWalk Go.Maps
set_option linter.unusedVariables false

theorem bytesLess_eq : ∀ (x y : List UInt8), Op.bytesLess x y = decide (x < y)
  | [], [] => by simp [Op.bytesLess]
  | _ :: _, [] => by simp [Op.bytesLess]
  | [], _ :: _ => by simp [Op.bytesLess]
  | a :: x, b :: y => by
    rw [Op.bytesLess, bytesLess_eq x y]
    by_cases h : a < b
    · simp [h, List.cons_lt_cons_iff]
    · by_cases h2 : a = b
      · subst h2; simp
      · simp [h, h2, List.cons_lt_cons_iff]
/-- Told, and kept from the walk. -/
structure Hid (p : Prop) : Prop where
  out : p
theorem grown_refl (w : World) : w.grownBy w none := ⟨rfl, rfl, rfl, Nat.le_refl _, fun _ _ _ => rfl⟩
theorem grown_drew (w : World) : w.grownBy w.drew none := ⟨rfl, rfl, rfl, Nat.le_refl _, fun _ _ _ => rfl⟩
theorem grown_none {a b c : World} (h : a.grownBy b none) (k : b.grownBy c none) : a.grownBy c none := h.andThen k (by simp)
theorem grown_new {a b c : World} {row : Option Nat} {r : Nat} (h : a.grownBy b row) (k : b.grownBy c (some r)) (hr : a.heap.size ≤ r) : a.grownBy c row := h.andThen k fun j hj => .inl (by cases hj; exact hr)
theorem grown_add {a b c : World} {row : Option Nat} (h : a.grownBy b row) (k : b.grownBy c none) : a.grownBy c row := h.andThen k (by simp)
theorem grown_same {a b c : World} {row : Option Nat} (h : a.grownBy b none) (k : b.grownBy c row) : a.grownBy c row := (h.but row).andThen k fun j hj => .inr hj
theorem grown_setCell (w : World) (a : Addr) (u : Value) : w.grownBy (w.setCell a u) (some a.block) := ⟨rfl, rfl, rfl, by simp, fun k _ hk => Below.heap_setCell w a u k (fun e => hk (by rw [e]))⟩
theorem grown_cell {w w' : World} (hg : w.grownBy w' none) {a : Addr} {v : Value} (h : w.cell? a = some v) : w'.cell? a = some v := hg.cell h (by simp)
theorem grown_frozen {w w' : World} (hg : w.grownBy w' none) {a : Addr} (h : a.block < w.heap.size) : w'.frozen? a = w.frozen? a := World.frozen?_of_block (hg.block a.block h (by simp))
theorem addr_add (b off j : Nat) : (⟨b, off, none⟩ : Addr).add j = ⟨b, off + j, none⟩ := by unfold Addr.add; split <;> simp_all
theorem heap_set {W : World} {B : Nat} {cs : Array Value} {t : TypeId} (h : W.heap[B]? = some (.cells cs t (0, 0))) (i : Nat) (v : Value) : (W.setCell ⟨B, i, none⟩ v).heap[B]? = some (.cells (cs.setIfInBounds i v) t (0, 0)) := by
  simp [World.setCell, Array.getElem?_modify, h]

theorem results_cell1 {fn : Func} {p : Tmp} {ty : TypeId} (h : fn.results = #[.cell p ty]) (tmps : Array Value) (P : Program) (w : World) :
    (results fn tmps).run P w = ((asAddr (tmps.getD p undef)).run P w).andThen fun a w₁ => (loadVar ty a).run P w₁ := by
  simp only [results, h]
  simp [Sem.run_bind, Result.andThen]
def E.cells (e : E) : List Value := [.string e.n, .int .u64 e.at_]
def cellsE (es : List E) : List Value := es.flatMap E.cells
theorem cellsE_len (es : List E) : (cellsE es).length = es.length * 2 := by
  induction es with
  | nil => rfl
  | cons a r ih => simp only [cellsE, List.flatMap_cons, List.length_append, List.length_cons] at ih ⊢; rw [ih]; simp [E.cells]; omega
theorem cellsE_app (a b : List E) : cellsE (a ++ b) = cellsE a ++ cellsE b := by simp [cellsE]
theorem cellsE_at {es : List E} {i : Nat} {e : E} (h : es[i]? = some e) : (cellsE es)[i * 2]? = some (.string e.n) ∧ (cellsE es)[i * 2 + 1]? = some (.int .u64 e.at_) := by
  induction es generalizing i with
  | nil => simp at h
  | cons a r ih =>
    cases i with
    | zero => simp at h; subst h; simp [cellsE, E.cells]
    | succ i =>
      obtain ⟨h1, h2⟩ := ih (i := i) (by simpa using h)
      have e1 : (i + 1) * 2 = i * 2 + 1 + 1 := by omega
      simp only [cellsE, List.flatMap_cons, E.cells, e1, List.cons_append, List.nil_append, List.getElem?_cons_succ] at h1 h2 ⊢
      exact ⟨h1, h2⟩
theorem cellsE_set (es : List E) (i : Nat) (e : E) : ((cellsE es).set (i * 2) (.string e.n)).set (i * 2 + 1) (.int .u64 e.at_) = cellsE (es.set i e) := by
  induction es generalizing i with
  | nil => simp [cellsE]
  | cons a r ih =>
    cases i with
    | zero => simp [cellsE, E.cells]
    | succ i =>
      have e1 : (i + 1) * 2 = i * 2 + 1 + 1 := by omega
      have := ih i
      simp only [cellsE, List.flatMap_cons, E.cells, e1, List.cons_append, List.nil_append, List.set_cons_succ] at this ⊢
      rw [this]
theorem cellsE_take (es : List E) (n : Nat) : (cellsE es).take (n * 2) = cellsE (es.take n) := by
  induction es generalizing n with
  | nil => simp [cellsE]
  | cons a r ih =>
    cases n with
    | zero => simp [cellsE]
    | succ n =>
      have e1 : (n + 1) * 2 = n * 2 + 1 + 1 := by omega
      have := ih n
      simp only [cellsE, List.flatMap_cons, E.cells, e1, List.cons_append, List.nil_append, List.take_succ_cons] at this ⊢
      rw [this]
/-- Entries in a row of our own, of element type t. -/
abbrev Rw (t : TypeId) (w : World) (v : Value) (es : List E) : Prop := w.ownsRow 0 t 2 v es.length (cellsE es)
theorem Rw.shape {t : TypeId} {w : World} {v : Value} {es : List E} (h : Rw t w v es) : ∃ a cap, v = .slice a es.length cap := by
  rcases h.2 with ⟨rfl, h0⟩ | ⟨g, cap, cur, rfl, _⟩
  · exact ⟨none, 0, by rw [h0]⟩
  · exact ⟨_, _, rfl⟩
theorem Rw.at {t : TypeId} {w : World} {a : Option Addr} {len cap : Nat} {es : List E} (h : Rw t w (.slice a len cap) es) {i : Nat} {e : E} (hi : es[i]? = some e) :
    ∃ g, a = some ⟨g, 0, none⟩ ∧ g < w.heap.size ∧ len = es.length ∧ w.cell? ⟨g, i * 2, none⟩ = some (.string e.n) ∧ w.cell? ⟨g, i * 2 + 1, none⟩ = some (.int .u64 e.at_) ∧ ∀ k, w.frozen? ⟨g, k, none⟩ = false := by
  have hl := (List.getElem?_eq_some_iff.1 hi).1
  rcases id h.2 with ⟨e1, h0⟩ | ⟨g, c, cur, e1, _, hg, _⟩
  · omega
  · simp only [Value.slice.injEq] at e1
    obtain ⟨rfl, rfl, rfl⟩ := e1
    obtain ⟨h1, h2⟩ := cellsE_at hi
    have k1 := h.cells (g := g) rfl _ _ h1
    have k2 := h.cells (g := g) rfl _ _ h2
    rw [addr_add, Nat.zero_add] at k1 k2
    exact ⟨g, rfl, (Array.getElem?_eq_some_iff.1 hg).1, rfl, k1, k2, fun k => by simp [World.frozen?, hg]⟩
/-- An entry stored. -/
theorem Rw.set {t : TypeId} {w : World} {g len cap : Nat} {es : List E} (h : Rw t w (.slice (some ⟨g, 0, none⟩) len cap) es) (i : Nat) (e : E) (hi : i < es.length) :
    Rw t ((w.setCell ⟨g, i * 2, none⟩ (.string e.n)).setCell ⟨g, i * 2 + 1, none⟩ (.int .u64 e.at_)) (.slice (some ⟨g, 0, none⟩) len cap) (es.set i e) := by
  rcases h with ⟨h1, ⟨e1, h0⟩ | ⟨g', c, cur, e1, h0, hg, hn, hm, hs, ht⟩⟩
  · cases e1
  · simp only [Value.slice.injEq, Option.some.injEq, Addr.mk.injEq] at e1
    obtain ⟨⟨rfl, _⟩, rfl, rfl⟩ := e1
    have hb1 := heap_set hg (i * 2) (.string e.n)
    have hb2 := heap_set hb1 (i * 2 + 1) (.int .u64 e.at_)
    refine ⟨by rw [cellsE_len], .inr ⟨g, cap, _, by simp, h0, hb2, by simpa using hn, hm, by simpa using hs, ?_⟩⟩
    rw [← cellsE_set, ← ht]
    have l2 : (es.set i e).length = es.length := by simp
    rw [l2]
    apply List.ext_getElem?
    intro k
    simp only [List.getElem?_take, List.getElem?_set, Array.getElem?_toList, Array.getElem?_setIfInBounds, List.length_take, List.length_set, Array.length_toList, Array.size_setIfInBounds]
    have hcs : cur.size = cap * 2 := hs
    have hi2 : i * 2 + 1 < cur.size := by omega
    by_cases k1 : i * 2 + 1 = k
    · subst k1
      have : i * 2 + 1 < es.length * 2 := by omega
      simp [this, hi2]
      omega
    · by_cases k2 : i * 2 = k
      · subst k2
        have : i * 2 < es.length * 2 := by omega
        have h3 : i * 2 < cur.size := by omega
        simp [this, h3]
        omega
      · simp [k1, k2]
theorem Rw.kept {t : TypeId} {w w' : World} {v : Value} {es : List E} (h : Rw t w v es) (hb : ∀ k, v.ownBlock = some k → w'.heap[k]? = w.heap[k]?) : Rw t w' v es := by
  obtain ⟨h1, h2⟩ := h
  refine ⟨h1, ?_⟩
  rcases h2 with h2 | ⟨g, cap, cur, rfl, hbg, hg, hr⟩
  · exact .inl h2
  · exact .inr ⟨g, cap, cur, rfl, hbg, (hb g rfl).trans hg, hr⟩

/-- What lies outside blocks of which C is true lies as it lay. -/
structure Kp (C : Nat → Prop) (w w' : World) : Prop where
  os : w'.os = w.os
  tape : w'.tape = w.tape
  output : w'.output = w.output
  size : w.heap.size ≤ w'.heap.size
  block : ∀ k, k < w.heap.size → ¬ C k → w'.heap[k]? = w.heap[k]?
theorem Kp.of {C : Nat → Prop} {w w' : World} {row : Option Nat} (hg : w.grownBy w' row) (hr : ∀ k, row = some k → C k) : Kp C w w' :=
  ⟨hg.os, hg.tape, hg.output, hg.size, fun k hk hc => hg.block k hk (fun e => hc (hr k e.symm))⟩
theorem Kp.of0 {C : Nat → Prop} {w w' : World} (hg : w.grownBy w' none) : Kp C w w' := Kp.of hg (by simp)
theorem Kp.refl (C : Nat → Prop) (w : World) : Kp C w w := ⟨rfl, rfl, rfl, Nat.le_refl _, fun _ _ _ => rfl⟩
theorem Kp.trans {C C' : Nat → Prop} {a b c : World} (h : Kp C a b) (k : Kp C' b c) (hc : ∀ i, i < a.heap.size → C' i → C i) : Kp C a c :=
  ⟨k.os.trans h.os, k.tape.trans h.tape, k.output.trans h.output, Nat.le_trans h.size k.size, fun i hi hn => (k.block i (Nat.lt_of_lt_of_le hi h.size) (fun e => hn (hc i hi e))).trans (h.block i hi hn)⟩
theorem Kp.mono {C C' : Nat → Prop} {w w' : World} (h : Kp C w w') (hc : ∀ k, C k → C' k) : Kp C' w w' := ⟨h.os, h.tape, h.output, h.size, fun k hk hn => h.block k hk (fun e => hn (hc k e))⟩
theorem Kp.below {C : Nat → Prop} {n : Nat} {w w' : World} (h : Kp C w w') (hn : n ≤ w.heap.size) (hc : ∀ k, C k → n ≤ k) : Below n w w' := ⟨h.os, h.tape, h.output, h.size, fun k hk => h.block k (by omega) (fun e => by have := hc k e; omega)⟩

/-- .. and what is new. -/
def Gw (S : Nat → Prop) (w w' : World) (k : Nat) : Prop := S k ∨ (w.heap.size ≤ k ∧ k < w'.heap.size)
/-- A world in which whatever lay in w lies as it lay. -/
structure Lat (w : World) where
  W : World
  h : w.grownBy W none
theorem wp_region_lat {P : Program} {id : Nat} {Q : Exit → Act → World → Prop} {a : Act} {w : World} {l : List Oper} (hm : P.follows .mixedOrders = true) (hB : Region.lexB .any l.toArray = true)
    (h : wpQuiet P l.toArray (fun w' => ∃ p : Lat w, w' = p.W) (fun a' => ∀ w', (∃ p : Lat w, w' = p.W) → Q .normal a' w') l a) : (Code.region id l.toArray true).wp P Q a w :=
  wp_region_quiet (C := fun w' => ∃ p : Lat w, w' = p.W) hm hB ⟨⟨_, grown_drew w⟩, rfl⟩ (by simpa using h)
theorem lat_nonempty (w : World) : Nonempty (Lat w) := ⟨⟨w, grown_refl _⟩⟩
theorem lat_cell {w : World} {b o : Nat} {v : Value} (h : w.cell? ⟨b, o, none⟩ = some v) (p : Lat w) : p.W.cell? ⟨b, o, none⟩ = some v := grown_cell p.h h
/-- A name as a key. -/
def ky (n : ByteArray) : Lit := .string n.data.toList
theorem ky_inj {a b : ByteArray} (h : ky a = ky b) : a = b := by
  simp only [ky, Lit.string.injEq] at h
  cases a; cases b
  simp only [ByteArray.mk.injEq]
  exact Array.toList_inj.1 h
theorem keyed9 : Keyed Try.prog 9 := string_keyed Try.underlying9
theorem zero22 (w : World) : (zeroValue 22).run Try.prog w = .ok (.int .u64 0) w := by kernel_rfl
/-- What a timer must be. -/
def E.ok (e : E) : Prop := e.n.size ≤ maxLen ∧ 0 ≤ e.at_ ∧ e.at_ < 18446744073709551616
theorem wf64 {a : Int} (h0 : 0 ≤ a) (h1 : a < 18446744073709551616) : (Lit.int .u64 a).wf = true := by
  have h2 : IntKind.u64.min = 0 := rfl
  have h3 : IntKind.u64.max = 18446744073709551615 := rfl
  simp [Lit.wf, h2, h3]
  omega
/-- What the map of deadlines holds. -/
structure Plc (D : DataW Value) (es : List E) : Prop where
  has : ∀ e ∈ es, Maps.has D (ky e.n) = true ∧ D.atKey (ky e.n) (.lit (.int .u64 0)) = .lit (.int .u64 e.at_)
  all : ∀ n : ByteArray, Maps.has D (ky n) = true → ∃ e ∈ es, e.n = n
  size : Maps.size D = es.length
/-- The map of deadlines. -/
def Mp (w : World) (bm : Nat) (D : DataW Value) : Prop := w.ownsMap Try.prog 9 (plainElem Try.prog 22) bm (Maps.size D) D
theorem Mp.tight {w : World} {bm n : Nat} {D : DataW Value} (h : w.ownsMap Try.prog 9 (plainElem Try.prog 22) bm n D) : Mp w bm D := by
  obtain ⟨es, clock, hb, F, hs, rfl⟩ := h
  exact ⟨es, clock, hb, F, by simp [Maps.size, length_sorted], rfl⟩
theorem Mp.kept {w w' : World} {bm : Nat} {D : DataW Value} (h : Mp w bm D) (hb : w'.heap[bm]? = w.heap[bm]?) : Mp w' bm D := by
  obtain ⟨es, clock, h1, F, hs, hD⟩ := h
  exact ⟨es, clock, hb.trans h1, F, hs, hD⟩
theorem key9 {n : ByteArray} (hn : n.size ≤ maxLen) : keyOf Try.prog 9 (.string n) = some (ky n) := WideMaps.keyOf_string_mk Try.underlying9 hn
theorem Mp.isMap {w : World} {bm : Nat} {D : DataW Value} (h : Mp w bm D) : IsMap D := World.ownsMap.isMap h
theorem Mp.tidy {w : World} {bm : Nat} {D : DataW Value} (h : Mp w bm D) : Tidy D := World.ownsMap.tidy h keyed9
theorem ky_key (n : ByteArray) : WideAt.IsKeyLit (ky n) := trivial
/-- The map of deadlines of timers. -/
def Dl (w : World) (bm : Nat) (L : List E) : Prop := ∃ D, Mp w bm D ∧ Plc D L
theorem Dl.lt {w : World} {bm : Nat} {L : List E} (h : Dl w bm L) : bm < w.heap.size := by obtain ⟨D, h1, _⟩ := h; exact World.ownsMap.lt h1
theorem Dl.kept {w w' : World} {bm : Nat} {L : List E} (h : Dl w bm L) (hb : w'.heap[bm]? = w.heap[bm]?) : Dl w' bm L := by
  obtain ⟨D, h1, h2⟩ := h
  exact ⟨D, h1.kept hb, h2⟩
theorem Dl.len {w : World} {bm : Nat} {L : List E} (h : Dl w bm L) (ty : TypeId) : (Builtin.len_ #[58] ty #[.map (some bm)]).run Try.prog w = .ok (.int .i64 L.length) w := by
  obtain ⟨D, h1, h2⟩ := h
  rw [← h2.size]
  exact World.ownsMap.len h1 Try.underlying58 ty
/-- A name looked up. -/
theorem Dl.look {w : World} {bm : Nat} {L : List E} (h : Dl w bm L) {n : ByteArray} (hn : n.size ≤ maxLen) :
    (∃ e ∈ L, e.n = n ∧ (Instr.lookup 58 (.map (some bm)) (.string n) true).run Try.prog w = .ok (.tuple #[.int .u64 e.at_, .bool true]) w) ∨
    ((∀ x ∈ L, x.n ≠ n) ∧ ∃ c, (Instr.lookup 58 (.map (some bm)) (.string n) true).run Try.prog w = .ok (.tuple #[.int .u64 c, .bool false]) w) := by
  obtain ⟨D, hM, hP⟩ := h
  have hw0 : (Lit.int .u64 0).wf = true := by decide
  obtain ⟨c, h1, h2, h3⟩ := World.ownsMap.lookup_int hM keyed9 Try.underlying58 Try.underlying22 (zero22 w) (key9 hn)
  obtain ⟨v, ps, h4, h5⟩ := World.ownsMap.look_ok hM keyed9 Try.underlying58 (zero22 w) (plainElem_int Try.underlying22 hw0) (key9 hn)
  obtain ⟨c', rfl, hc, hwc⟩ := plainElem_int_inv Try.underlying22 h5
  simp only [Prod.mk.injEq] at hc
  rw [h2] at hc
  have : c = c' := by simpa using hc.1
  subst this
  cases hh : Maps.has D (ky n) with
  | true =>
    obtain ⟨e, he, hen⟩ := hP.all n hh
    have h6 := (hP.has e he).2
    rw [hen, h2] at h6
    have hc : c = e.at_ := by simpa using h6
    rw [hh, hc] at h4
    exact .inl ⟨e, he, hen, h4⟩
  | false =>
    rw [hh] at h4
    refine .inr ⟨fun x hx hxn => ?_, c, h4⟩
    have := (hP.has x hx).1
    rw [hxn, hh] at this
    cases this
/-- A new name's deadline. -/
theorem Dl.store {w : World} {bm : Nat} {L L' : List E} (h : Dl w bm L) (hl : L.length < maxLen) {e : E} (he : e.ok) (hno : ∀ x ∈ L, x.n ≠ e.n) (hm : ∀ x, x ∈ L' ↔ x = e ∨ x ∈ L) (hl' : L'.length = L.length + 1) :
    ∃ w', (Instr.mapUpdate 58 (.map (some bm)) (.string e.n) (.int .u64 e.at_)).run Try.prog w = .ok () w' ∧ Dl w' bm L' ∧ w.grownBy w' (some bm) := by
  obtain ⟨D, hM, hP⟩ := h
  obtain ⟨w', hrun, hown, ht⟩ := World.ownsMap.store hM keyed9 Try.underlying58 (by rw [hP.size]; exact hl) (key9 he.1) (plainElem_int Try.underlying22 (wf64 he.2.1 he.2.2))
  have hnh : Maps.has D (ky e.n) = false := by
    cases hh : Maps.has D (ky e.n) with
    | false => rfl
    | true =>
      obtain ⟨x, hx, hxn⟩ := hP.all e.n hh
      exact absurd hxn (hno x hx)
  refine ⟨w', hrun, ⟨_, Mp.tight hown, ⟨fun x hx => ?_, fun n hn => ?_, ?_⟩⟩, ht.grown⟩
  · rcases (hm x).1 hx with rfl | hx
    · exact ⟨has_put_same hM.isMap (ky_key _) _, atKey_put_same hM.isMap (ky_key _) _ _⟩
    · have hne : ky x.n ≠ ky e.n := fun e' => hno x hx (ky_inj e')
      rw [has_put_other hne, atKey_put_other hne]
      exact hP.has x hx
  · by_cases hne : n = e.n
    · exact ⟨e, (hm e).2 (.inl rfl), hne.symm⟩
    · rw [has_put_other (fun e' => hne (ky_inj e'))] at hn
      obtain ⟨x, hx, hxn⟩ := hP.all n hn
      exact ⟨x, (hm x).2 (.inr hx), hxn⟩
  · rw [size_put hM.tidy, hnh, hP.size, hl']
    rfl
/-- A name dropped. -/
theorem Dl.drop {w : World} {bm : Nat} {L : List E} (h : Dl w bm L) (hs : Srt L) {n : ByteArray} (hn : n.size ≤ maxLen) (ty : TypeId) :
    ∃ w', (Builtin.delete_ #[58, 9] ty #[.map (some bm), .string n]).run Try.prog w = .ok (.tuple #[]) w' ∧ Dl w' bm (delN n L) ∧ w.grownBy w' (some bm) := by
  obtain ⟨D, hM, hP⟩ := h
  obtain ⟨w', hrun, hown, ht⟩ := World.ownsMap.drop hM keyed9 Try.underlying58 (key9 hn) ty
  refine ⟨w', hrun, ⟨_, Mp.tight hown, ⟨fun x hx => ?_, fun m hm => ?_, ?_⟩⟩, ht.grown⟩
  · obtain ⟨hx, hxn⟩ := mem_delN.1 hx
    have hne : ky x.n ≠ ky n := fun e' => hxn (ky_inj e')
    rw [has_del_other hne, atKey_del_other hne]
    exact hP.has x hx
  · by_cases hne : m = n
    · subst hne
      rw [has_del_same] at hm
      cases hm
    · rw [has_del_other (fun e' => hne (ky_inj e'))] at hm
      obtain ⟨x, hx, hxn⟩ := hP.all m hm
      exact ⟨x, mem_delN.2 ⟨hx, by rw [hxn]; exact hne⟩, hxn⟩
  · have h1 := size_del (k := ky n) hM.tidy
    rw [hP.size] at h1
    cases hh : Maps.has D (ky n) with
    | true =>
      rw [hh] at h1
      obtain ⟨x, hx, hxn⟩ := hP.all n hh
      have h2 : (x :: delN n L).Nodup := List.nodup_cons.2 ⟨fun hc => (mem_delN.1 hc).2 hxn, (hs.del _).nodup⟩
      have h3 := len_mem h2 hs.nodup (fun y => by
        rw [List.mem_cons, mem_delN]
        constructor
        · rintro (rfl | h)
          · exact hx
          · exact h.1
        · intro hy
          by_cases hyn : y.n = n
          · exact .inl (hs.un y hy x hx (by rw [hyn, hxn]))
          · exact .inr ⟨hy, hyn⟩)
      simp at h1 h3
      omega
    | false =>
      rw [hh] at h1
      have h2 : delN n L = L := delN_not (hasN_not.2 fun x hx hxn => by
        have := (hP.has x hx).1
        rw [hxn, hh] at this
        cases this)
      rw [h2]
      simpa using h1
/-- A timer as a value, and as a key. -/
def E.val (e : E) : Value := .agg #[.string e.n, .int .u64 e.at_]
def kyE (e : E) : Lit := .string (keyBytes [.string e.n.data.toList, .int .u64 e.at_])
theorem laidOut : laidOutB Try.prog = true := by kernel_rfl
theorem row52 : (52 : TypeId) < Try.prog.types.size := of_decide_eq_true (by kernel_rfl)
theorem cells52 : Try.prog.cellsOf 52 = 2 := by kernel_rfl
theorem wide52 : (match Try.prog.underlying 52 with | some (.array _ _) | some (.struct _) => true | _ => false) = true := by kernel_rfl
theorem keyed52 : Keyed Try.prog 52 := Keyed.of_law (deep_law_laid laidOut (m := 2) (by omega) row52 (by kernel_rfl) wide52)
theorem keyType52 : Try.prog.keyType 52 = true := by kernel_rfl
theorem size1 : ∃ m, Try.prog.types.size = m + 1 := by
  obtain ⟨m, hm⟩ := Nat.exists_eq_add_of_lt row52
  exact ⟨52 + m, hm⟩
theorem cells9 : Try.prog.cellsOf 9 = 1 := by kernel_rfl
theorem cells22 : Try.prog.cellsOf 22 = 1 := by kernel_rfl
theorem formed52 (c0 c1 : Value) : (Value.agg #[c0, c1]).formed Try.prog 52 = true := by
  simp [Value.formed, Try.underlying52, cells52]
theorem key52 {e : E} (h : e.ok) : keyOf Try.prog 52 e.val = some (kyE e) := by
  obtain ⟨m, hm⟩ := size1
  unfold keyOf E.val
  simp only [Try.underlying52]
  rw [if_pos (by simp [keyType52, formed52]), hm]
  unfold Program.keyLits
  simp only [Try.underlying52, Value.cells]
  have hw := wf64 h.2.1 h.2.2
  rw [if_pos (by rw [cells52]; exact ⟨rfl, by simp⟩)]
  simp [Program.keyLits, cells9, cells22, Try.underlying9, Try.underlying22, h.1, hw, kyE]
set_option maxRecDepth 10000 in
theorem inv52 {v : Value} {kl : Lit} (h : keyOf Try.prog 52 v = some kl) : ∃ e : E, v = e.val := by
  unfold keyOf at h
  simp only [Try.underlying52] at h
  split at h
  · rename_i hk
    simp only [Option.map_eq_some_iff] at h
    obtain ⟨ls, hls, _⟩ := h
    obtain ⟨m, hm⟩ := size1
    rw [hm] at hls
    have hf := (Bool.and_eq_true_iff.1 hk).2
    cases v with
    | agg cs =>
      have hsz : cs.size = 2 := by simpa [Value.formed, Try.underlying52, cells52] using hf
      obtain ⟨l⟩ := cs
      match l, hsz with
      | [c0, c1], _ =>
        unfold Program.keyLits at hls
        simp only [Try.underlying52, Value.cells] at hls
        split at hls
        · simp [cells9, cells22] at hls
          cases h0 : Try.prog.keyLits (m + 1) 9 [c0] with
          | none => rw [h0] at hls; cases hls
          | some a =>
            cases h1 : Try.prog.keyLits (m + 1) 22 [c1] with
            | none => rw [h0, h1] at hls; cases hls
            | some b =>
              obtain ⟨s, e0, _⟩ := keyLits_string' Try.underlying9 h0
              obtain ⟨n, e1, _⟩ := keyLits_int' Try.underlying22 h1
              simp only [List.cons.injEq, and_true] at e0 e1
              exact ⟨⟨s, n⟩, by rw [e0, e1]; rfl⟩
        · cases hls
    | _ => simp [Value.formed, Try.underlying52] at hf
  · cases h
set_option maxRecDepth 10000 in
theorem inv52ok {x : E} {kl : Lit} (h : keyOf Try.prog 52 x.val = some kl) : x.ok := by
  unfold keyOf E.val at h
  simp only [Try.underlying52] at h
  split at h
  · simp only [Option.map_eq_some_iff] at h
    obtain ⟨ls, hls, _⟩ := h
    obtain ⟨m, hm⟩ := size1
    rw [hm] at hls
    unfold Program.keyLits at hls
    simp only [Try.underlying52, Value.cells] at hls
    split at hls
    · simp [cells9, cells22] at hls
      cases h0 : Try.prog.keyLits (m + 1) 9 [.string x.n] with
      | none => rw [h0] at hls; cases hls
      | some a =>
        cases h1 : Try.prog.keyLits (m + 1) 22 [.int .u64 x.at_] with
        | none => rw [h0, h1] at hls; cases hls
        | some b =>
          unfold Program.keyLits at h0 h1
          simp [Try.underlying9, Try.underlying22] at h0 h1
          have h2 : IntKind.u64.min = 0 := rfl
          have h3 : IntKind.u64.max = 18446744073709551615 := rfl
          have h4 := h1.1
          simp [Lit.wf, h2, h3] at h4
          exact ⟨h0.1, h4.1, by omega⟩
    · cases hls
  · cases h
theorem unit79 (w : World) : (zeroValue 79).run Try.prog w = .ok (.agg #[]) w := by kernel_rfl
theorem kyE_key (e : E) : WideAt.IsKeyLit (kyE e) := trivial
theorem val_inj {a b : E} (h : a.val = b.val) : a = b := by
  simp only [E.val, Value.agg.injEq, Array.mk.injEq, List.cons.injEq, Value.string.injEq, Value.int.injEq, true_and, and_true] at h
  exact E.ext' h.1 h.2
theorem kyE_inj {a b : E} (ha : a.ok) (hb : b.ok) (h : kyE a = kyE b) : a = b := val_inj (keyed52.inj (key52 ha) (h ▸ key52 hb))
/-- A set of timers: they are l, in whatever order. -/
structure Sset (w : World) (b : Nat) (l : List E) : Prop where
  own : ∃ D : DataW Value, w.ownsMap Try.prog 52 unitElem b (Maps.size D) D ∧ (∀ e ∈ l, Maps.has D (kyE e) = true) ∧ (∀ e : E, e.ok → Maps.has D (kyE e) = true → e ∈ l) ∧ Maps.size D = l.length
  nd : l.Nodup
  ok : ∀ e ∈ l, e.ok
theorem Sset.tight {w : World} {b n : Nat} {D : DataW Value} (h : w.ownsMap Try.prog 52 unitElem b n D) : w.ownsMap Try.prog 52 unitElem b (Maps.size D) D := by
  obtain ⟨es, clock, hb, F, hs, rfl⟩ := h
  exact ⟨es, clock, hb, F, by simp [Maps.size, length_sorted], rfl⟩
section
variable {w w' : World} {b : Nat} {l l' : List E}
theorem Sset.lt (h : Sset w b l) : b < w.heap.size := by obtain ⟨D, h1, _⟩ := h.own; exact World.ownsMap.lt h1
theorem Sset.kept (h : Sset w b l) (hb : w'.heap[b]? = w.heap[b]?) : Sset w' b l := by
  obtain ⟨D, ⟨es, clock, h1, F, hs, hD⟩, h2⟩ := h.own
  exact ⟨⟨D, ⟨es, clock, hb.trans h1, F, hs, hD⟩, h2⟩, h.nd, h.ok⟩
theorem Sset.isMap (h : Sset w b l) : ∃ es clock, w.heap[b]? = some (.map es clock) := by
  obtain ⟨D, ⟨es, clock, h1, _⟩, _⟩ := h.own
  exact ⟨es, clock, h1⟩
theorem Sset.same (h : Sset w b l) (hn : l'.Nodup) (hm : ∀ x, x ∈ l' ↔ x ∈ l) : Sset w b l' := by
  obtain ⟨D, h1, h2, h3, h4⟩ := h.own
  exact ⟨⟨D, h1, fun e he => h2 e ((hm e).1 he), fun e he hh => (hm e).2 (h3 e he hh), by rw [h4]; exact len_mem h.nd hn fun x => (hm x).symm⟩, hn, fun e he => h.ok e ((hm e).1 he)⟩
theorem Sset.len (h : Sset w b l) (ty : TypeId) : (Builtin.len_ #[60] ty #[.map (some b)]).run Try.prog w = .ok (.int .i64 l.length) w := by
  obtain ⟨D, h1, _, _, h4⟩ := h.own
  rw [← h4]
  exact World.ownsMap.len h1 Try.underlying60 ty
/-- A timer added. -/
theorem Sset.store (h : Sset w b l) (hl : l.length < maxLen) {e : E} (he : e.ok) (hn : l'.Nodup) (hm : ∀ x, x ∈ l' ↔ x = e ∨ x ∈ l) :
    ∃ w', (Instr.mapUpdate 60 (.map (some b)) (.agg #[.string e.n, .int .u64 e.at_]) (.agg #[])).run Try.prog w = .ok () w' ∧ Sset w' b l' ∧ w.grownBy w' (some b) := by
  obtain ⟨D, h1, h2, h3, h4⟩ := h.own
  obtain ⟨w', hrun, hown, ht⟩ := World.ownsMap.store h1 keyed52 Try.underlying60 (by rw [h4]; exact hl) (key52 he) unitElem_mk
  have hD := World.ownsMap.isMap h1
  refine ⟨w', hrun, ⟨⟨_, Sset.tight hown, fun x hx => ?_, fun x hx hh => ?_, ?_⟩, hn, fun x hx => ?_⟩, ht.grown⟩
  · rcases (hm x).1 hx with rfl | hx
    · exact has_put_same hD (kyE_key _) _
    · by_cases hxe : x = e
      · subst hxe; exact has_put_same hD (kyE_key _) _
      · rw [has_put_other fun e' => hxe (kyE_inj (h.ok x hx) he e')]
        exact h2 x hx
  · by_cases hxe : x = e
    · exact (hm x).2 (.inl hxe)
    · rw [has_put_other fun e' => hxe (kyE_inj hx he e')] at hh
      exact (hm x).2 (.inr (h3 x hx hh))
  · rw [size_put (World.ownsMap.tidy h1 keyed52), h4]
    cases hh : Maps.has D (kyE e) with
    | true =>
      have h5 := h3 e he hh
      have := len_mem h.nd hn fun x => by
        rw [hm]
        exact ⟨.inr, fun h => h.elim (fun h => h ▸ h5) id⟩
      simpa using this
    | false =>
      have h5 : e ∉ l := fun hc => by rw [h2 e hc] at hh; cases hh
      have := len_mem (L := e :: l) (M := l') (List.nodup_cons.2 ⟨h5, h.nd⟩) hn fun x => by rw [hm, List.mem_cons]
      simpa using this
  · rcases (hm x).1 hx with rfl | hx
    · exact he
    · exact h.ok x hx
/-- A timer dropped. -/
theorem Sset.drop (h : Sset w b l) {e : E} (he : e.ok) (hn : l'.Nodup) (hm : ∀ x, x ∈ l' ↔ x ∈ l ∧ x ≠ e) (ty : TypeId) :
    ∃ w', (Builtin.delete_ #[60, 52] ty #[.map (some b), .agg #[.string e.n, .int .u64 e.at_]]).run Try.prog w = .ok (.tuple #[]) w' ∧ Sset w' b l' ∧ w.grownBy w' (some b) := by
  obtain ⟨D, h1, h2, h3, h4⟩ := h.own
  obtain ⟨w', hrun, hown, ht⟩ := World.ownsMap.drop h1 keyed52 Try.underlying60 (key52 he) ty
  refine ⟨w', hrun, ⟨⟨_, Sset.tight hown, fun x hx => ?_, fun x hx hh => ?_, ?_⟩, hn, fun x hx => h.ok x ((hm x).1 hx).1⟩, ht.grown⟩
  · obtain ⟨hx, hxe⟩ := (hm x).1 hx
    rw [has_del_other fun e' => hxe (kyE_inj (h.ok x hx) he e')]
    exact h2 x hx
  · by_cases hxe : x = e
    · subst hxe
      rw [has_del_same] at hh
      cases hh
    · rw [has_del_other fun e' => hxe (kyE_inj hx he e')] at hh
      exact (hm x).2 ⟨h3 x hx hh, hxe⟩
  · have h6 := size_del (k := kyE e) (World.ownsMap.tidy h1 keyed52)
    cases hh : Maps.has D (kyE e) with
    | true =>
      have h5 := h3 e he hh
      have := len_mem (L := e :: l') (M := l) (List.nodup_cons.2 ⟨fun hc => ((hm e).1 hc).2 rfl, hn⟩) h.nd fun x => by
        rw [List.mem_cons, hm]
        constructor
        · rintro (rfl | h)
          · exact h5
          · exact h.1
        · intro hx
          by_cases hxe : x = e
          · exact .inl hxe
          · exact .inr ⟨hx, hxe⟩
      rw [hh] at h6
      simp at this h6
      omega
    | false =>
      have h5 : e ∉ l := fun hc => by rw [h2 e hc] at hh; cases hh
      have := len_mem (L := l') (M := l) hn h.nd fun x => by
        rw [hm]
        exact ⟨fun h => h.1, fun h => ⟨h, fun hx => h5 (hx ▸ h)⟩⟩
      rw [hh] at h6
      simp at h6
      omega
/-- All dropped. -/
theorem Sset.clear (h : Sset w b l) (ty : TypeId) : ∃ w', (Builtin.clear_ #[60] ty #[.map (some b)]).run Try.prog w = .ok (.tuple #[]) w' ∧ Sset w' b [] ∧ w.grownBy w' (some b) := by
  obtain ⟨D, ⟨es, clock, hb, F, hs, hD⟩, _⟩ := h.own
  have hbl : b < w.heap.size := (Array.getElem?_eq_some_iff.1 hb).1
  refine ⟨{ w with heap := w.heap.setIfInBounds b (.map #[] clock) }, ?_, ⟨⟨.map [], ⟨#[], clock, ?_, ⟨by simp, MapKept.stamped_empty clock, by simp⟩, by simp, rfl⟩, by simp, fun e _ hh => by simp [Maps.has] at hh, rfl⟩, by simp, by simp⟩, ⟨rfl, rfl, rfl, by simp, fun k _ hk => ?_⟩⟩
  · simp [Builtin.clear_, Go.run_underlying Try.underlying60, MapKept.run_getObj_map hb, MapKept.run_setObj_map _ hb, Result.andThen]
  · simp [hbl]
  · have hne : b ≠ k := fun e => hk (by rw [e])
    simp [hne]
end
/-- A new map is an empty set. -/
theorem Sset.made {w : World} {b : Nat} (h : w.heap[b]? = some (.map #[] 0)) : Sset w b [] :=
  ⟨⟨.map [], ⟨#[], 0, h, ⟨by simp, MapKept.stamped_empty 0, by simp⟩, by simp, rfl⟩, by simp, fun e _ hh => by simp [Maps.has] at hh, rfl⟩, by simp, by simp⟩
theorem Dl.made {w : World} {b : Nat} (h : w.heap[b]? = some (.map #[] 0)) : Dl w b [] :=
  ⟨.map [], ⟨#[], 0, h, ⟨by simp, MapKept.stamped_empty 0, by simp⟩, by simp, rfl⟩, by simp, fun n hh => by simp [Maps.has] at hh, rfl⟩
end Go.Proofs.Ytlljfgpmjpmoiaa
