/- Entries in memory: rows of them; the maps of kids by their first bytes. -/
import Derived.WalkKit
import Derived.WalkSpells
import Derived.WalkLawsBesides
import Derived.Outline
import Derived.Maps.RangeWalk
import Derived.Maps.OwnSet
import Derived.Maps.AppendAt
import Derived.ArgAppend
import Derived.Lib.SliceRun
import Derived.Laws.ResultCell
import Derived.Deep.RegionHeld3
import Derived.RegionTactic
import Derived.BigQuiet
import Derived.StringKeys
import Derived.Test.YtpcdmjalfabbmaaProg
import Derived.Test.YtpcdmjalfabbmaaOrd
import Derived.Deep.QuietTactic
import Derived.DeepKeys4
import Derived.ChangeKeysEq
namespace Go.Proofs.Ytpcdmjalfabbmaa
open Go.RowKit Go.IntWalk Go.Maps
set_option linter.unusedVariables false

theorem bytesLess_eq : ∀ (x y : List UInt8), Op.bytesLess x y = decide (x < y)
  | [], [] => by simp [Op.bytesLess]
  | _ :: _, [] => by simp [Op.bytesLess]
  | [], _ :: _ => by simp [Op.bytesLess]
  | a :: x, b :: y => by
    rw [Op.bytesLess, bytesLess_eq x y]
    by_cases h : a < b
    · simp [h, List.cons_lt_cons_iff]
    · by_cases h2 : a = b
      · subst h2; simp
      · simp [h, h2, List.cons_lt_cons_iff]
/-- Told, and kept from the walk. -/
structure Hid (p : Prop) : Prop where
  out : p
theorem grown_refl (w : World) : w.grownBy w none := ⟨rfl, rfl, rfl, Nat.le_refl _, fun _ _ _ => rfl⟩
theorem grown_drew (w : World) : w.grownBy w.drew none := ⟨rfl, rfl, rfl, Nat.le_refl _, fun _ _ _ => rfl⟩
theorem grown_none {a b c : World} (h : a.grownBy b none) (k : b.grownBy c none) : a.grownBy c none := h.andThen k (by simp)
theorem grown_new {a b c : World} {row : Option Nat} {r : Nat} (h : a.grownBy b row) (k : b.grownBy c (some r)) (hr : a.heap.size ≤ r) : a.grownBy c row := h.andThen k fun j hj => .inl (by cases hj; exact hr)
theorem grown_add {a b c : World} {row : Option Nat} (h : a.grownBy b row) (k : b.grownBy c none) : a.grownBy c row := h.andThen k (by simp)
theorem grown_same {a b c : World} {row : Option Nat} (h : a.grownBy b none) (k : b.grownBy c row) : a.grownBy c row := (h.but row).andThen k fun j hj => .inr hj
theorem grown_setCell (w : World) (a : Addr) (u : Value) : w.grownBy (w.setCell a u) (some a.block) := ⟨rfl, rfl, rfl, by simp, fun k _ hk => Below.heap_setCell w a u k (fun e => hk (by rw [e]))⟩
theorem grown_cell {w w' : World} (hg : w.grownBy w' none) {a : Addr} {v : Value} (h : w.cell? a = some v) : w'.cell? a = some v := hg.cell h (by simp)
theorem grown_frozen {w w' : World} (hg : w.grownBy w' none) {a : Addr} (h : a.block < w.heap.size) : w'.frozen? a = w.frozen? a := World.frozen?_of_block (hg.block a.block h (by simp))
theorem addr_add (b off j : Nat) : (⟨b, off, none⟩ : Addr).add j = ⟨b, off + j, none⟩ := by unfold Addr.add; split <;> simp_all
theorem heap_set {W : World} {B : Nat} {cs : Array Value} {t : TypeId} (h : W.heap[B]? = some (.cells cs t (0, 0))) (i : Nat) (v : Value) : (W.setCell ⟨B, i, none⟩ v).heap[B]? = some (.cells (cs.setIfInBounds i v) t (0, 0)) := by
  simp [World.setCell, Array.getElem?_modify, h]

theorem results_cell1 {fn : Func} {p : Tmp} {ty : TypeId} (h : fn.results = #[.cell p ty]) (tmps : Array Value) (P : Program) (w : World) :
    (results fn tmps).run P w = ((asAddr (tmps.getD p undef)).run P w).andThen fun a w₁ => (loadVar ty a).run P w₁ := by
  simp only [results, h]
  simp [Sem.run_bind, Result.andThen]
def E.cells (e : E) : List Value := [.string (bt e.k), .string e.v]
def cellsE (es : List E) : List Value := es.flatMap E.cells
theorem cellsE_len (es : List E) : (cellsE es).length = es.length * 2 := by
  induction es with
  | nil => rfl
  | cons a r ih => simp only [cellsE, List.flatMap_cons, List.length_append, List.length_cons] at ih ⊢; rw [ih]; simp [E.cells]; omega
theorem cellsE_app (a b : List E) : cellsE (a ++ b) = cellsE a ++ cellsE b := by simp [cellsE]
theorem cellsE_at {es : List E} {i : Nat} {e : E} (h : es[i]? = some e) : (cellsE es)[i * 2]? = some (.string (bt e.k)) ∧ (cellsE es)[i * 2 + 1]? = some (.string e.v) := by
  induction es generalizing i with
  | nil => simp at h
  | cons a r ih =>
    cases i with
    | zero => simp at h; subst h; simp [cellsE, E.cells]
    | succ i =>
      obtain ⟨h1, h2⟩ := ih (i := i) (by simpa using h)
      have e1 : (i + 1) * 2 = i * 2 + 1 + 1 := by omega
      simp only [cellsE, List.flatMap_cons, E.cells, e1, List.cons_append, List.nil_append, List.getElem?_cons_succ] at h1 h2 ⊢
      exact ⟨h1, h2⟩
theorem cellsE_set (es : List E) (i : Nat) (e : E) : ((cellsE es).set (i * 2) (.string (bt e.k))).set (i * 2 + 1) (.string e.v) = cellsE (es.set i e) := by
  induction es generalizing i with
  | nil => simp [cellsE]
  | cons a r ih =>
    cases i with
    | zero => simp [cellsE, E.cells]
    | succ i =>
      have e1 : (i + 1) * 2 = i * 2 + 1 + 1 := by omega
      have := ih i
      simp only [cellsE, List.flatMap_cons, E.cells, e1, List.cons_append, List.nil_append, List.set_cons_succ] at this ⊢
      rw [this]
theorem cellsE_take (es : List E) (n : Nat) : (cellsE es).take (n * 2) = cellsE (es.take n) := by
  induction es generalizing n with
  | nil => simp [cellsE]
  | cons a r ih =>
    cases n with
    | zero => simp [cellsE]
    | succ n =>
      have e1 : (n + 1) * 2 = n * 2 + 1 + 1 := by omega
      have := ih n
      simp only [cellsE, List.flatMap_cons, E.cells, e1, List.cons_append, List.nil_append, List.take_succ_cons] at this ⊢
      rw [this]
/-- Entries in a row of our own, of element type t. -/
abbrev Rw (t : TypeId) (w : World) (v : Value) (es : List E) : Prop := w.ownsRow 0 t 2 v es.length (cellsE es)
theorem Rw.shape {t : TypeId} {w : World} {v : Value} {es : List E} (h : Rw t w v es) : ∃ a cap, v = .slice a es.length cap := by
  rcases h.2 with ⟨rfl, h0⟩ | ⟨g, cap, cur, rfl, _⟩
  · exact ⟨none, 0, by rw [h0]⟩
  · exact ⟨_, _, rfl⟩
theorem Rw.at {t : TypeId} {w : World} {a : Option Addr} {len cap : Nat} {es : List E} (h : Rw t w (.slice a len cap) es) {i : Nat} {e : E} (hi : es[i]? = some e) :
    ∃ g, a = some ⟨g, 0, none⟩ ∧ g < w.heap.size ∧ len = es.length ∧ w.cell? ⟨g, i * 2, none⟩ = some (.string (bt e.k)) ∧ w.cell? ⟨g, i * 2 + 1, none⟩ = some (.string e.v) ∧ ∀ k, w.frozen? ⟨g, k, none⟩ = false := by
  have hl := (List.getElem?_eq_some_iff.1 hi).1
  rcases id h.2 with ⟨e1, h0⟩ | ⟨g, c, cur, e1, _, hg, _⟩
  · omega
  · simp only [Value.slice.injEq] at e1
    obtain ⟨rfl, rfl, rfl⟩ := e1
    obtain ⟨h1, h2⟩ := cellsE_at hi
    have k1 := h.cells (g := g) rfl _ _ h1
    have k2 := h.cells (g := g) rfl _ _ h2
    rw [addr_add, Nat.zero_add] at k1 k2
    exact ⟨g, rfl, (Array.getElem?_eq_some_iff.1 hg).1, rfl, k1, k2, fun k => by simp [World.frozen?, hg]⟩
/-- An entry stored. -/
theorem Rw.set {t : TypeId} {w : World} {g len cap : Nat} {es : List E} (h : Rw t w (.slice (some ⟨g, 0, none⟩) len cap) es) (i : Nat) (e : E) (hi : i < es.length) :
    Rw t ((w.setCell ⟨g, i * 2, none⟩ (.string (bt e.k))).setCell ⟨g, i * 2 + 1, none⟩ (.string e.v)) (.slice (some ⟨g, 0, none⟩) len cap) (es.set i e) := by
  rcases h with ⟨h1, ⟨e1, h0⟩ | ⟨g', c, cur, e1, h0, hg, hn, hm, hs, ht⟩⟩
  · cases e1
  · simp only [Value.slice.injEq, Option.some.injEq, Addr.mk.injEq] at e1
    obtain ⟨⟨rfl, _⟩, rfl, rfl⟩ := e1
    have hb1 := heap_set hg (i * 2) (.string (bt e.k))
    have hb2 := heap_set hb1 (i * 2 + 1) (.string e.v)
    refine ⟨by rw [cellsE_len], .inr ⟨g, cap, _, by simp, h0, hb2, by simpa using hn, hm, by simpa using hs, ?_⟩⟩
    rw [← cellsE_set, ← ht]
    have l2 : (es.set i e).length = es.length := by simp
    rw [l2]
    apply List.ext_getElem?
    intro k
    simp only [List.getElem?_take, List.getElem?_set, Array.getElem?_toList, Array.getElem?_setIfInBounds, List.length_take, List.length_set, Array.length_toList, Array.size_setIfInBounds]
    have hcs : cur.size = cap * 2 := hs
    have hi2 : i * 2 + 1 < cur.size := by omega
    by_cases k1 : i * 2 + 1 = k
    · subst k1
      have : i * 2 + 1 < es.length * 2 := by omega
      simp [this, hi2]
      omega
    · by_cases k2 : i * 2 = k
      · subst k2
        have : i * 2 < es.length * 2 := by omega
        have h3 : i * 2 < cur.size := by omega
        simp [this, h3]
        omega
      · simp [k1, k2]
theorem Rw.kept {t : TypeId} {w w' : World} {v : Value} {es : List E} (h : Rw t w v es) (hb : ∀ k, v.ownBlock = some k → w'.heap[k]? = w.heap[k]?) : Rw t w' v es := by
  obtain ⟨h1, h2⟩ := h
  refine ⟨h1, ?_⟩
  rcases h2 with h2 | ⟨g, cap, cur, rfl, hbg, hg, hr⟩
  · exact .inl h2
  · exact .inr ⟨g, cap, cur, rfl, hbg, (hb g rfl).trans hg, hr⟩

/-- What lies outside blocks of which C is true lies as it lay. -/
structure Kp (C : Nat → Prop) (w w' : World) : Prop where
  os : w'.os = w.os
  tape : w'.tape = w.tape
  output : w'.output = w.output
  size : w.heap.size ≤ w'.heap.size
  block : ∀ k, k < w.heap.size → ¬ C k → w'.heap[k]? = w.heap[k]?
theorem Kp.of {C : Nat → Prop} {w w' : World} {row : Option Nat} (hg : w.grownBy w' row) (hr : ∀ k, row = some k → C k) : Kp C w w' :=
  ⟨hg.os, hg.tape, hg.output, hg.size, fun k hk hc => hg.block k hk (fun e => hc (hr k e.symm))⟩
theorem Kp.of0 {C : Nat → Prop} {w w' : World} (hg : w.grownBy w' none) : Kp C w w' := Kp.of hg (by simp)
theorem Kp.refl (C : Nat → Prop) (w : World) : Kp C w w := ⟨rfl, rfl, rfl, Nat.le_refl _, fun _ _ _ => rfl⟩
theorem Kp.trans {C C' : Nat → Prop} {a b c : World} (h : Kp C a b) (k : Kp C' b c) (hc : ∀ i, i < a.heap.size → C' i → C i) : Kp C a c :=
  ⟨k.os.trans h.os, k.tape.trans h.tape, k.output.trans h.output, Nat.le_trans h.size k.size, fun i hi hn => (k.block i (Nat.lt_of_lt_of_le hi h.size) (fun e => hn (hc i hi e))).trans (h.block i hi hn)⟩
theorem Kp.mono {C C' : Nat → Prop} {w w' : World} (h : Kp C w w') (hc : ∀ k, C k → C' k) : Kp C' w w' := ⟨h.os, h.tape, h.output, h.size, fun k hk hn => h.block k hk (fun e => hn (hc k e))⟩
theorem Kp.below {C : Nat → Prop} {n : Nat} {w w' : World} (h : Kp C w w') (hn : n ≤ w.heap.size) (hc : ∀ k, C k → n ≤ k) : Below n w w' := ⟨h.os, h.tape, h.output, h.size, fun k hk => h.block k (by omega) (fun e => by have := hc k e; omega)⟩

/-- .. and what is new. -/
def Gw (S : Nat → Prop) (w w' : World) (k : Nat) : Prop := S k ∨ (w.heap.size ≤ k ∧ k < w'.heap.size)
/-- A world in which whatever lay in w lies as it lay. -/
structure Lat (w : World) where
  W : World
  h : w.grownBy W none
theorem wp_region_lat {P : Program} {id : Nat} {Q : Exit → Act → World → Prop} {a : Act} {w : World} {l : List Oper} (hm : P.follows .mixedOrders = true) (hB : Region.lexB .any l.toArray = true)
    (h : wpQuiet P l.toArray (fun w' => ∃ p : Lat w, w' = p.W) (fun a' => ∀ w', (∃ p : Lat w, w' = p.W) → Q .normal a' w') l a) : (Code.region id l.toArray true).wp P Q a w :=
  wp_region_quiet (C := fun w' => ∃ p : Lat w, w' = p.W) hm hB ⟨⟨_, grown_drew w⟩, rfl⟩ (by simpa using h)
theorem lat_nonempty (w : World) : Nonempty (Lat w) := ⟨⟨w, grown_refl _⟩⟩
theorem lat_cell {w : World} {b o : Nat} {v : Value} (h : w.cell? ⟨b, o, none⟩ = some v) (p : Lat w) : p.W.cell? ⟨b, o, none⟩ = some v := grown_cell p.h h

theorem keyed5 : Keyed Try.prog 5 := int_keyed Try.underlying5
/-- A byte as a key. -/
def kc (c : UInt8) : Lit := .int .u8 c.toNat
theorem kc_inj {a b : UInt8} (h : kc a = kc b) : a = b := by
  simp only [kc, Lit.int.injEq, true_and] at h
  exact UInt8.toNat_inj.1 (by omega)
theorem kc_key (c : UInt8) : WideAt.IsKeyLit (kc c) := trivial
theorem wf8 (c : UInt8) : (Lit.int .u8 c.toNat).wf = true := by
  have h := c.toNat_lt
  have h2 : IntKind.u8.min = 0 := rfl
  have h3 : IntKind.u8.max = 255 := rfl
  simp [Lit.wf, h2, h3]
  omega
theorem key5 (c : UInt8) : keyOf Try.prog 5 (.int .u8 c.toNat) = some (kc c) := keyOf_int_mk Try.underlying5 (wf8 c)
theorem inv5 {v : Value} {kl : Lit} (h : keyOf Try.prog 5 v = some kl) : ∃ c : UInt8, v = .int .u8 c.toNat ∧ kl = kc c := by
  obtain ⟨x, rfl, rfl, hw⟩ := Maps.keyOf_int_inv Try.underlying5 h
  have h2 : IntKind.u8.min = 0 := rfl
  have h3 : IntKind.u8.max = 255 := rfl
  simp [Lit.wf, h2, h3] at hw
  have e : (UInt8.ofNat x.toNat).toNat = x.toNat := UInt8.toNat_ofNat_of_lt' (by show x.toNat < 256; omega)
  have e2 : ((UInt8.ofNat x.toNat).toNat : Int) = x := by rw [e]; omega
  exact ⟨UInt8.ofNat x.toNat, by rw [e2], by unfold kc; rw [e2]⟩
theorem bytes_le' {l : List UInt8} (h : l.Nodup) (N : Nat) (hN : ∀ c ∈ l, c.toNat < N) : l.length ≤ N := by
  have h1 : (l.map UInt8.toNat).Nodup := List.nodup_iff_pairwise_ne.2 (List.pairwise_map.2 ((List.nodup_iff_pairwise_ne.1 h).imp fun {a b} hne e => hne (UInt8.toNat_inj.1 e)))
  have h2 : (l.map UInt8.toNat) ⊆ List.range N := fun x hx => by
    obtain ⟨c, hc, rfl⟩ := List.mem_map.1 hx
    exact List.mem_range.2 (hN c hc)
  have := h1.length_le_of_subset h2
  simpa using this
theorem bytes_le {l : List UInt8} (h : l.Nodup) : l.length ≤ 256 := bytes_le' h 256 fun c _ => c.toNat_lt
/-- A pointer as an element. -/
abbrev ptr (n : Nat) : Value := .pointer (some ⟨n, 0, none⟩)
def pElem : Value → Option (DataW Value × List MemPlace)
  | .pointer a => some (.held (.pointer a), [])
  | _ => none
theorem pElem_inv {v : Value} {y : DataW Value × List MemPlace} (h : pElem v = some y) : y = (.held v, []) := by
  unfold pElem at h
  split at h
  · simpa using h.symm
  · cases h
theorem pElem_shape {v : Value} {y : DataW Value × List MemPlace} (h : pElem v = some y) : ∃ a : Option Addr, v = .pointer a := by
  unfold pElem at h
  split at h
  · exact ⟨_, rfl⟩
  · cases h
theorem zero56 (w : World) : (zeroValue 56).run Try.prog w = .ok (.pointer none) w := by kernel_rfl
/-- A map of kids: f c is the block of the one at byte c. -/
structure Km (w : World) (b : Nat) (f : UInt8 → Option Nat) : Prop where
  own : ∃ D : DataW Value, w.ownsMap Try.prog 5 pElem b (Maps.size D) D ∧ (∀ c, Maps.has D (kc c) = (f c).isSome) ∧ (∀ c n, f c = some n → ∀ z, D.atKey (kc c) z = .held (ptr n)) ∧ ∃ l : List UInt8, l.Nodup ∧ (∀ c, c ∈ l ↔ (f c).isSome = true) ∧ Maps.size D = l.length
/-- .. at one byte. -/
def upd (f : UInt8 → Option Nat) (c : UInt8) (n : Option Nat) (d : UInt8) : Option Nat := if d = c then n else f d
section
variable {w w' : World} {b : Nat} {f : UInt8 → Option Nat}
theorem Km.tight {n : Nat} {D : DataW Value} (h : w.ownsMap Try.prog 5 pElem b n D) : w.ownsMap Try.prog 5 pElem b (Maps.size D) D := by
  obtain ⟨es, clock, hb, F, hs, rfl⟩ := h
  exact ⟨es, clock, hb, F, by simp [Maps.size, length_sorted], rfl⟩
theorem Km.lt (h : Km w b f) : b < w.heap.size := by obtain ⟨D, h1, _⟩ := h.own; exact World.ownsMap.lt h1
theorem Km.isMap (h : Km w b f) : ∃ es clock, w.heap[b]? = some (.map es clock) := by
  obtain ⟨D, ⟨es, clock, h1, _⟩, _⟩ := h.own
  exact ⟨es, clock, h1⟩
theorem Km.kept (h : Km w b f) (hb : w'.heap[b]? = w.heap[b]?) : Km w' b f := by
  obtain ⟨D, ⟨es, clock, h1, F, hs, hD⟩, h2⟩ := h.own
  exact ⟨⟨D, ⟨es, clock, hb.trans h1, F, hs, hD⟩, h2⟩⟩
theorem Km.look (h : Km w b f) {c : UInt8} {n : Nat} (hc : f c = some n) : (Instr.lookup 62 (.map (some b)) (.int .u8 c.toNat) false).run Try.prog w = .ok (ptr n) w := by
  obtain ⟨D, h1, h2, h3, _⟩ := h.own
  obtain ⟨v, ps, hrun, hv⟩ := World.ownsMap.lookup h1 keyed5 Try.underlying62 (zero56 w) (zd := .held (.pointer none)) (zp := []) rfl (key5 c)
  rw [h3 c n hc] at hv
  have e := pElem_inv hv
  simp only [Prod.mk.injEq, DataW.held.injEq] at e
  rw [← e.1] at hrun
  exact hrun
theorem Km.look_none (h : Km w b f) {c : UInt8} (hc : f c = none) : (Instr.lookup 62 (.map (some b)) (.int .u8 c.toNat) false).run Try.prog w = .ok (.pointer none) w := by
  obtain ⟨D, h1, h2, h3, _⟩ := h.own
  obtain ⟨v, ps, hrun, hv⟩ := World.ownsMap.lookup h1 keyed5 Try.underlying62 (zero56 w) (zd := .held (.pointer none)) (zp := []) rfl (key5 c)
  have h4 : D.atKey (kc c) (.held (.pointer none)) = .held (.pointer none) := atKey_of_not_has (by rw [h2 c, hc]; rfl) _
  rw [h4] at hv
  have e := pElem_inv hv
  simp only [Prod.mk.injEq, DataW.held.injEq] at e
  rw [← e.1] at hrun
  exact hrun
theorem Km.size_le (h : Km w b f) : ∃ D : DataW Value, w.ownsMap Try.prog 5 pElem b (Maps.size D) D ∧ Maps.size D ≤ 256 := by
  obtain ⟨D, h1, _, _, l, h2, _, h3⟩ := h.own
  exact ⟨D, h1, by rw [h3]; exact bytes_le h2⟩
theorem Km.store (h : Km w b f) (c : UInt8) (n : Nat) : ∃ w', (Instr.mapUpdate 62 (.map (some b)) (.int .u8 c.toNat) (ptr n)).run Try.prog w = .ok () w' ∧ Km w' b (upd f c (some n)) ∧ w.grownBy w' (some b) := by
  obtain ⟨D, h1, h2, h3, l, h4, h5, h6⟩ := h.own
  have hle := bytes_le h4
  obtain ⟨w', hrun, hown, ht⟩ := World.ownsMap.store h1 keyed5 Try.underlying62 (by rw [h6]; unfold maxLen; omega) (key5 c) (val := ptr n) (d := .held (ptr n)) (ps := []) rfl
  have hD := World.ownsMap.isMap h1
  refine ⟨w', hrun, ⟨⟨_, Km.tight hown, fun d => ?_, fun d m hd z => ?_, if (f c).isSome then l else c :: l, ?_, fun d => ?_, ?_⟩⟩, ht.grown⟩
  · unfold upd
    by_cases e : d = c
    · subst e
      rw [has_put_same hD (kc_key _)]
      simp
    · rw [has_put_other fun e' => e (kc_inj e'), h2 d]
      simp [e]
  · unfold upd at hd
    by_cases e : d = c
    · subst e
      simp only [if_true, Option.some.injEq] at hd
      subst hd
      exact atKey_put_same hD (kc_key _) _ _
    · simp only [e, if_false] at hd
      rw [atKey_put_other fun e' => e (kc_inj e')]
      exact h3 d m hd z
  · split
    · exact h4
    · rename_i hc
      exact List.nodup_cons.2 ⟨fun hm => hc ((h5 c).1 hm), h4⟩
  · unfold upd
    by_cases e : d = c
    · subst e
      simp only [if_true, Option.isSome_some, iff_true]
      split
      · rename_i hc; exact (h5 d).2 hc
      · simp
    · simp only [e, if_false]
      rw [← h5 d]
      split
      · rfl
      · simp [e]
  · rw [size_put (World.ownsMap.tidy h1 keyed5), h2 c, h6]
    split <;> simp
theorem Km.drop (h : Km w b f) (c : UInt8) (ty : TypeId) : ∃ w', (Builtin.delete_ #[62, 5] ty #[.map (some b), .int .u8 c.toNat]).run Try.prog w = .ok (.tuple #[]) w' ∧ Km w' b (upd f c none) ∧ w.grownBy w' (some b) := by
  obtain ⟨D, h1, h2, h3, l, h4, h5, h6⟩ := h.own
  obtain ⟨w', hrun, hown, ht⟩ := World.ownsMap.drop h1 keyed5 Try.underlying62 (key5 c) ty
  refine ⟨w', hrun, ⟨⟨_, Km.tight hown, fun d => ?_, fun d m hd z => ?_, l.filter (fun d => !decide (d = c)), h4.sublist List.filter_sublist, fun d => ?_, ?_⟩⟩, ht.grown⟩
  · unfold upd
    by_cases e : d = c
    · subst e
      rw [has_del_same]
      simp
    · rw [has_del_other fun e' => e (kc_inj e'), h2 d]
      simp [e]
  · unfold upd at hd
    by_cases e : d = c
    · subst e
      simp at hd
    · simp only [e, if_false] at hd
      rw [atKey_del_other fun e' => e (kc_inj e')]
      exact h3 d m hd z
  · unfold upd
    simp only [List.mem_filter, h5 d]
    by_cases e : d = c
    · subst e; simp
    · simp [e]
  · have h7 := size_del (k := kc c) (World.ownsMap.tidy h1 keyed5)
    rw [h2 c, h6] at h7
    cases hc : (f c).isSome with
    | true =>
      rw [hc] at h7
      have h8 : (c :: l.filter fun d => !decide (d = c)).Nodup := List.nodup_cons.2 ⟨by simp, h4.sublist List.filter_sublist⟩
      have := len_mem h8 h4 fun x => by
        simp only [List.mem_cons, List.mem_filter, Bool.not_eq_true', decide_eq_false_iff_not]
        constructor
        · rintro (rfl | h)
          · exact (h5 x).2 hc
          · exact h.1
        · intro hx
          by_cases e : x = c
          · exact .inl e
          · exact .inr ⟨hx, e⟩
      simp at this h7
      omega
    | false =>
      rw [hc] at h7
      have : l.filter (fun d => !decide (d = c)) = l := List.filter_eq_self.2 fun d hd => by
        have : d ≠ c := by
          rintro rfl
          have := (h5 d).1 hd
          rw [hc] at this
          cases this
        simp [this]
      rw [this]
      simpa using h7
theorem Km.len (h : Km w b f) (ty : TypeId) : ∃ m : Nat, (Builtin.len_ #[62] ty #[.map (some b)]).run Try.prog w = .ok (.int .i64 m) w ∧ (m = 0 ↔ ∀ c, f c = none) ∧ (m = 1 ↔ ∃ c, ∀ d, (f d).isSome = true ↔ d = c) := by
  obtain ⟨D, h1, h2, h3, l, h4, h5, h6⟩ := h.own
  refine ⟨l.length, ?_, ?_, ?_⟩
  · rw [← h6]; exact World.ownsMap.len h1 Try.underlying62 ty
  · constructor
    · intro h0 c
      have : l = [] := List.eq_nil_of_length_eq_zero h0
      subst this
      have := h5 c
      cases hc : f c with
      | none => rfl
      | some n => rw [hc] at this; simp at this
    · intro h0
      cases l with
      | nil => rfl
      | cons c l =>
        have := (h5 c).1 (by simp)
        rw [h0 c] at this
        cases this
  · constructor
    · intro h0
      obtain ⟨c, rfl⟩ := List.length_eq_one_iff.1 h0
      exact ⟨c, fun d => by rw [← h5 d]; simp⟩
    · rintro ⟨c, hc⟩
      have := len_mem h4 (M := [c]) (by simp) fun x => by rw [h5 x, hc x]; simp
      simpa using this
end
theorem Km.made {w : World} {b : Nat} (h : w.heap[b]? = some (.map #[] 0)) : Km w b (fun _ => none) :=
  ⟨⟨.map [], ⟨#[], 0, h, ⟨by simp, MapKept.stamped_empty 0, by simp⟩, by simp, rfl⟩, fun _ => rfl, fun c n (hc : none = some n) => (by cases hc), [], by simp, fun c => by simp, rfl⟩⟩
theorem Km.congr {w : World} {b : Nat} {f g : UInt8 → Option Nat} (h : Km w b f) (e : ∀ c, f c = g c) : Km w b g := by
  have : f = g := funext e
  subst this
  exact h
end Go.Proofs.Ytpcdmjalfabbmaa
