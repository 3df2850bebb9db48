/- Timers, their order, lists of them in order, each name once: plain facts, no program. -/
import Derived.WalkKit
import Derived.WalkSpells
import Derived.WalkLawsBesides
import Derived.Outline
import Derived.Maps.RangeWalk
import Derived.Maps.OwnSet
import Derived.Maps.AppendAt
import Derived.ArgAppend
import Derived.Lib.SliceRun
import Derived.Laws.ResultCell
import Derived.Deep.RegionHeld3
import Derived.RegionTactic
import Derived.BigQuiet
import Derived.StringKeys
import Derived.Test.YtblnhcnfeagjhaaGreatDoorProg
import Derived.Deep.QuietTactic
import Derived.DeepKeys4
import Derived.ChangeKeysEq
namespace Go.Proofs.YtblnhcnfeagjhaaGreatDoor.W
set_option linter.unusedVariables false

/-- An entry: a name with a deadline. -/
structure E where
  n : ByteArray
  at_ : Int
theorem E.ext' {a b : E} (h1 : a.n = b.n) (h2 : a.at_ = b.at_) : a = b := by cases a; cases b; simp_all
theorem ba_inj {a b : ByteArray} (h : a.toList = b.toList) : a = b := by
  rw [ByteArray.toList_eq, ByteArray.toList_eq] at h
  cases a; cases b
  simp only [ByteArray.mk.injEq]
  exact Array.toList_inj.1 h
/-- The order: by deadlines, then by names. -/
def lt (a b : E) : Prop := a.at_ < b.at_ ∨ (a.at_ = b.at_ ∧ a.n.toList < b.n.toList)
/-- .. as it is reckoned. -/
def ltb (a b : E) : Bool := decide (a.at_ < b.at_) || (decide (a.at_ = b.at_) && decide (a.n.toList < b.n.toList))
theorem ltb_iff {a b : E} : ltb a b = true ↔ lt a b := by simp [ltb, lt]
theorem ltb_f {a b : E} (h : ¬ lt a b) : ltb a b = false := by
  cases e : ltb a b with
  | false => rfl
  | true => exact absurd (ltb_iff.1 e) h
theorem lt_irrefl (a : E) : ¬ lt a a := by
  rintro (h | ⟨_, h⟩)
  · omega
  · exact List.lt_irrefl _ h
theorem lt_trans {a b c : E} (h : lt a b) (k : lt b c) : lt a c := by
  rcases h with h | ⟨h1, h2⟩ <;> rcases k with k | ⟨k1, k2⟩
  · exact .inl (by omega)
  · exact .inl (by omega)
  · exact .inl (by omega)
  · exact .inr ⟨by omega, List.lt_trans h2 k2⟩
theorem lt_asymm {a b : E} (h : lt a b) : ¬ lt b a := fun k => lt_irrefl a (lt_trans h k)
theorem lt_or {a b : E} (h : ¬ lt a b) (hn : a.n ≠ b.n ∨ a.at_ ≠ b.at_) : lt b a := by
  by_cases h1 : b.at_ < a.at_
  · exact .inl h1
  · have h2 : ¬ a.at_ < b.at_ := fun h2 => h (.inl h2)
    have h3 : a.at_ = b.at_ := by omega
    have h4 : ¬ a.n.toList < b.n.toList := fun h4 => h (.inr ⟨h3, h4⟩)
    refine .inr ⟨h3.symm, ?_⟩
    have h5 : b.n.toList ≤ a.n.toList := h4
    rcases List.le_iff_lt_or_eq.1 h5 with h6 | h6
    · exact h6
    · rcases hn with hn | hn
      · exact absurd (ba_inj h6).symm hn
      · exact absurd h3 hn
theorem lt_tri (a b : E) : lt a b ∨ a = b ∨ lt b a := by
  by_cases h : lt a b
  · exact .inl h
  · by_cases hn : a.n = b.n
    · by_cases h2 : a.at_ = b.at_
      · exact .inr (.inl (E.ext' hn h2))
      · exact .inr (.inr (lt_or h (.inr h2)))
    · exact .inr (.inr (lt_or h (.inl hn)))
/-- Not ahead carries on. -/
theorem nlt_trans {a b c : E} (h : ¬ lt a b) (k : ¬ lt b c) : ¬ lt a c := by
  intro hac
  rcases lt_tri b a with h1 | h1 | h1
  · exact k (lt_trans h1 hac)
  · exact k (h1 ▸ hac)
  · exact h h1

/-- In order, each name once. -/
structure Srt (L : List E) : Prop where
  up : L.Pairwise lt
  un : ∀ x ∈ L, ∀ y ∈ L, x.n = y.n → x = y
theorem Srt.nil : Srt [] := ⟨List.Pairwise.nil, by simp⟩
theorem Srt.nodup {L : List E} (h : Srt L) : L.Nodup := List.nodup_iff_pairwise_ne.2 (h.up.imp fun {a b} hl (e : a = b) => lt_irrefl a (by rw [← e] at hl; exact hl))
theorem Srt.eq {L M : List E} (h : Srt L) (k : Srt M) (hm : ∀ x, x ∈ L ↔ x ∈ M) : L = M :=
  List.Perm.eq_of_pairwise (fun a b _ _ h1 h2 => absurd h2 (lt_asymm h1)) h.up k.up ((List.perm_ext_iff_of_nodup h.nodup k.nodup).2 hm)
theorem Srt.sub {L M : List E} (h : Srt L) (hs : M.Sublist L) : Srt M := ⟨h.up.sublist hs, fun x hx y hy e => h.un x (hs.subset hx) y (hs.subset hy) e⟩
/-- Is a name there? -/
def hasN (n : ByteArray) (L : List E) : Bool := L.any fun x => decide (x.n = n)
/-- Without a name. -/
def delN (n : ByteArray) (L : List E) : List E := L.filter fun x => !decide (x.n = n)
/-- With an entry in its place. -/
def putE (e : E) (L : List E) : List E := ((delN e.n L).filter fun x => ltb x e) ++ e :: ((delN e.n L).filter fun x => ltb e x)
theorem hasN_iff {n : ByteArray} {L : List E} : hasN n L = true ↔ ∃ x ∈ L, x.n = n := by simp [hasN]
theorem hasN_not {n : ByteArray} {L : List E} : hasN n L = false ↔ ∀ x ∈ L, x.n ≠ n := by simp [hasN]
theorem mem_delN {n : ByteArray} {L : List E} {x : E} : x ∈ delN n L ↔ x ∈ L ∧ x.n ≠ n := by simp [delN]
theorem mem_putE {e : E} {L : List E} {x : E} : x ∈ putE e L ↔ x = e ∨ (x ∈ L ∧ x.n ≠ e.n) := by
  simp only [putE, List.mem_append, List.mem_cons, List.mem_filter, mem_delN, ltb_iff]
  constructor
  · rintro (⟨h1, _⟩ | h | ⟨h1, _⟩)
    · exact .inr h1
    · exact .inl h
    · exact .inr h1
  · rintro (h | h)
    · exact .inr (.inl h)
    · rcases lt_tri x e with h1 | h1 | h1
      · exact .inl ⟨h, h1⟩
      · exact .inr (.inl h1)
      · exact .inr (.inr ⟨h, h1⟩)
theorem Srt.del {L : List E} (h : Srt L) (n : ByteArray) : Srt (delN n L) := h.sub List.filter_sublist
theorem Srt.put {L : List E} (h : Srt L) (e : E) : Srt (putE e L) := by
  refine ⟨?_, fun x hx y hy hn => ?_⟩
  · unfold putE
    refine List.pairwise_append.2 ⟨(h.del e.n).up.sublist List.filter_sublist, List.pairwise_cons.2 ⟨fun y hy => ?_, (h.del e.n).up.sublist List.filter_sublist⟩, fun y hy z hz => ?_⟩
    · exact ltb_iff.1 (List.mem_filter.1 hy).2
    · have h1 : lt y e := ltb_iff.1 (List.mem_filter.1 hy).2
      rcases List.mem_cons.1 hz with rfl | hz
      · exact h1
      · exact lt_trans h1 (ltb_iff.1 (List.mem_filter.1 hz).2)
  · rw [mem_putE] at hx hy
    rcases hx with rfl | ⟨hx, hxn⟩ <;> rcases hy with rfl | ⟨hy, hyn⟩
    · rfl
    · exact absurd hn.symm hyn
    · exact absurd hn hxn
    · exact h.un x hx y hy hn
theorem delN_not {n : ByteArray} {L : List E} (h : hasN n L = false) : delN n L = L := List.filter_eq_self.2 fun x hx => by simp [hasN_not.1 h x hx]
theorem len_mem {L M : List E} (h1 : L.Nodup) (h2 : M.Nodup) (hm : ∀ x, x ∈ L ↔ x ∈ M) : L.length = M.length := ((List.perm_ext_iff_of_nodup h1 h2).2 hm).length_eq
theorem putE_len {L : List E} (h : Srt L) (e : E) : (putE e L).length = (delN e.n L).length + 1 := by
  have h1 : (e :: delN e.n L).Nodup := List.nodup_cons.2 ⟨fun hc => (mem_delN.1 hc).2 rfl, (h.del _).nodup⟩
  have := len_mem (h.put e).nodup h1 (fun x => by rw [mem_putE, List.mem_cons, mem_delN])
  simpa using this
theorem putE_le {L : List E} (h : Srt L) (e : E) : (putE e L).length ≤ L.length + 1 := by
  rw [putE_len h]
  have := List.length_filter_le (fun x : E => !decide (x.n = e.n)) L
  unfold delN
  omega
theorem delN_le (n : ByteArray) (L : List E) : (delN n L).length ≤ L.length := List.length_filter_le _ _
/-- A name's entry. -/
def getN (n : ByteArray) (L : List E) : Option E := L.find? fun x => decide (x.n = n)
theorem getN_some {n : ByteArray} {L : List E} {x : E} (h : getN n L = some x) : x ∈ L ∧ x.n = n := ⟨List.mem_of_find?_eq_some h, by simpa using List.find?_some h⟩
theorem getN_none {n : ByteArray} {L : List E} (h : getN n L = none) : hasN n L = false := hasN_not.2 fun x hx => by simpa using List.find?_eq_none.1 h x hx
theorem Srt.get {L : List E} (h : Srt L) {x : E} (hx : x ∈ L) : getN x.n L = some x := by
  cases e : getN x.n L with
  | none => exact absurd rfl (hasN_not.1 (getN_none e) x hx)
  | some y => rw [h.un y (getN_some e).1 x hx (getN_some e).2]
theorem getN_has {n : ByteArray} {L : List E} : hasN n L = (getN n L).isSome := by
  cases e : getN n L with
  | none => rw [getN_none e]; rfl
  | some x => rw [hasN_iff.2 ⟨x, getN_some e⟩]; rfl
/-- The first one of those in order. -/
theorem Srt.head {f : E} {L : List E} (h : Srt (f :: L)) : (∀ x ∈ L, lt f x) ∧ Srt L ∧ delN f.n (f :: L) = L := by
  have h1 := (List.pairwise_cons.1 h.up).1
  have h2 : Srt L := h.sub (List.sublist_cons_self _ _)
  refine ⟨h1, h2, (h.del _).eq h2 fun x => ?_⟩
  rw [mem_delN]
  constructor
  · rintro ⟨hx, hn⟩
    rcases List.mem_cons.1 hx with rfl | hx
    · exact absurd rfl hn
    · exact hx
  · intro hx
    refine ⟨List.mem_cons_of_mem _ hx, fun e => ?_⟩
    have := h.un x (List.mem_cons_of_mem _ hx) f (by simp) e
    exact lt_irrefl f (this ▸ h1 x hx)
end Go.Proofs.YtblnhcnfeagjhaaGreatDoor.W

/- Timers in memory: rows of them, the map of deadlines, sets of them. -/
namespace Go.Proofs.YtblnhcnfeagjhaaGreatDoor.W
open Go.RowKit Go.IntWalk Go.Maps
set_option linter.unusedVariables false

theorem bytesLess_eq : ∀ (x y : List UInt8), Op.bytesLess x y = decide (x < y)
  | [], [] => by simp [Op.bytesLess]
  | _ :: _, [] => by simp [Op.bytesLess]
  | [], _ :: _ => by simp [Op.bytesLess]
  | a :: x, b :: y => by
    rw [Op.bytesLess, bytesLess_eq x y]
    by_cases h : a < b
    · simp [h, List.cons_lt_cons_iff]
    · by_cases h2 : a = b
      · subst h2; simp
      · simp [h, h2, List.cons_lt_cons_iff]
/-- Told, and kept from the walk. -/
structure Hid (p : Prop) : Prop where
  out : p
theorem grown_refl (w : World) : w.grownBy w none := ⟨rfl, rfl, rfl, Nat.le_refl _, fun _ _ _ => rfl⟩
theorem grown_drew (w : World) : w.grownBy w.drew none := ⟨rfl, rfl, rfl, Nat.le_refl _, fun _ _ _ => rfl⟩
theorem grown_none {a b c : World} (h : a.grownBy b none) (k : b.grownBy c none) : a.grownBy c none := h.andThen k (by simp)
theorem grown_new {a b c : World} {row : Option Nat} {r : Nat} (h : a.grownBy b row) (k : b.grownBy c (some r)) (hr : a.heap.size ≤ r) : a.grownBy c row := h.andThen k fun j hj => .inl (by cases hj; exact hr)
theorem grown_add {a b c : World} {row : Option Nat} (h : a.grownBy b row) (k : b.grownBy c none) : a.grownBy c row := h.andThen k (by simp)
theorem grown_same {a b c : World} {row : Option Nat} (h : a.grownBy b none) (k : b.grownBy c row) : a.grownBy c row := (h.but row).andThen k fun j hj => .inr hj
theorem grown_setCell (w : World) (a : Addr) (u : Value) : w.grownBy (w.setCell a u) (some a.block) := ⟨rfl, rfl, rfl, by simp, fun k _ hk => Below.heap_setCell w a u k (fun e => hk (by rw [e]))⟩
theorem grown_cell {w w' : World} (hg : w.grownBy w' none) {a : Addr} {v : Value} (h : w.cell? a = some v) : w'.cell? a = some v := hg.cell h (by simp)
theorem grown_frozen {w w' : World} (hg : w.grownBy w' none) {a : Addr} (h : a.block < w.heap.size) : w'.frozen? a = w.frozen? a := World.frozen?_of_block (hg.block a.block h (by simp))
theorem addr_add (b off j : Nat) : (⟨b, off, none⟩ : Addr).add j = ⟨b, off + j, none⟩ := by unfold Addr.add; split <;> simp_all
theorem heap_set {W : World} {B : Nat} {cs : Array Value} {t : TypeId} (h : W.heap[B]? = some (.cells cs t (0, 0))) (i : Nat) (v : Value) : (W.setCell ⟨B, i, none⟩ v).heap[B]? = some (.cells (cs.setIfInBounds i v) t (0, 0)) := by
  simp [World.setCell, Array.getElem?_modify, h]

theorem results_cell1 {fn : Func} {p : Tmp} {ty : TypeId} (h : fn.results = #[.cell p ty]) (tmps : Array Value) (P : Program) (w : World) :
    (results fn tmps).run P w = ((asAddr (tmps.getD p undef)).run P w).andThen fun a w₁ => (loadVar ty a).run P w₁ := by
  simp only [results, h]
  simp [Sem.run_bind, Result.andThen]
def E.cells (e : E) : List Value := [.string e.n, .int .u64 e.at_]
def cellsE (es : List E) : List Value := es.flatMap E.cells
theorem cellsE_len (es : List E) : (cellsE es).length = es.length * 2 := by
  induction es with
  | nil => rfl
  | cons a r ih => simp only [cellsE, List.flatMap_cons, List.length_append, List.length_cons] at ih ⊢; rw [ih]; simp [E.cells]; omega
theorem cellsE_app (a b : List E) : cellsE (a ++ b) = cellsE a ++ cellsE b := by simp [cellsE]
theorem cellsE_at {es : List E} {i : Nat} {e : E} (h : es[i]? = some e) : (cellsE es)[i * 2]? = some (.string e.n) ∧ (cellsE es)[i * 2 + 1]? = some (.int .u64 e.at_) := by
  induction es generalizing i with
  | nil => simp at h
  | cons a r ih =>
    cases i with
    | zero => simp at h; subst h; simp [cellsE, E.cells]
    | succ i =>
      obtain ⟨h1, h2⟩ := ih (i := i) (by simpa using h)
      have e1 : (i + 1) * 2 = i * 2 + 1 + 1 := by omega
      simp only [cellsE, List.flatMap_cons, E.cells, e1, List.cons_append, List.nil_append, List.getElem?_cons_succ] at h1 h2 ⊢
      exact ⟨h1, h2⟩
theorem cellsE_set (es : List E) (i : Nat) (e : E) : ((cellsE es).set (i * 2) (.string e.n)).set (i * 2 + 1) (.int .u64 e.at_) = cellsE (es.set i e) := by
  induction es generalizing i with
  | nil => simp [cellsE]
  | cons a r ih =>
    cases i with
    | zero => simp [cellsE, E.cells]
    | succ i =>
      have e1 : (i + 1) * 2 = i * 2 + 1 + 1 := by omega
      have := ih i
      simp only [cellsE, List.flatMap_cons, E.cells, e1, List.cons_append, List.nil_append, List.set_cons_succ] at this ⊢
      rw [this]
theorem cellsE_take (es : List E) (n : Nat) : (cellsE es).take (n * 2) = cellsE (es.take n) := by
  induction es generalizing n with
  | nil => simp [cellsE]
  | cons a r ih =>
    cases n with
    | zero => simp [cellsE]
    | succ n =>
      have e1 : (n + 1) * 2 = n * 2 + 1 + 1 := by omega
      have := ih n
      simp only [cellsE, List.flatMap_cons, E.cells, e1, List.cons_append, List.nil_append, List.take_succ_cons] at this ⊢
      rw [this]
/-- Entries in a row of our own, of element type t. -/
abbrev Rw (t : TypeId) (w : World) (v : Value) (es : List E) : Prop := w.ownsRow 0 t 2 v es.length (cellsE es)
theorem Rw.shape {t : TypeId} {w : World} {v : Value} {es : List E} (h : Rw t w v es) : ∃ a cap, v = .slice a es.length cap := by
  rcases h.2 with ⟨rfl, h0⟩ | ⟨g, cap, cur, rfl, _⟩
  · exact ⟨none, 0, by rw [h0]⟩
  · exact ⟨_, _, rfl⟩
theorem Rw.at {t : TypeId} {w : World} {a : Option Addr} {len cap : Nat} {es : List E} (h : Rw t w (.slice a len cap) es) {i : Nat} {e : E} (hi : es[i]? = some e) :
    ∃ g, a = some ⟨g, 0, none⟩ ∧ g < w.heap.size ∧ len = es.length ∧ w.cell? ⟨g, i * 2, none⟩ = some (.string e.n) ∧ w.cell? ⟨g, i * 2 + 1, none⟩ = some (.int .u64 e.at_) ∧ ∀ k, w.frozen? ⟨g, k, none⟩ = false := by
  have hl := (List.getElem?_eq_some_iff.1 hi).1
  rcases id h.2 with ⟨e1, h0⟩ | ⟨g, c, cur, e1, _, hg, _⟩
  · omega
  · simp only [Value.slice.injEq] at e1
    obtain ⟨rfl, rfl, rfl⟩ := e1
    obtain ⟨h1, h2⟩ := cellsE_at hi
    have k1 := h.cells (g := g) rfl _ _ h1
    have k2 := h.cells (g := g) rfl _ _ h2
    rw [addr_add, Nat.zero_add] at k1 k2
    exact ⟨g, rfl, (Array.getElem?_eq_some_iff.1 hg).1, rfl, k1, k2, fun k => by simp [World.frozen?, hg]⟩
/-- An entry stored. -/
theorem Rw.set {t : TypeId} {w : World} {g len cap : Nat} {es : List E} (h : Rw t w (.slice (some ⟨g, 0, none⟩) len cap) es) (i : Nat) (e : E) (hi : i < es.length) :
    Rw t ((w.setCell ⟨g, i * 2, none⟩ (.string e.n)).setCell ⟨g, i * 2 + 1, none⟩ (.int .u64 e.at_)) (.slice (some ⟨g, 0, none⟩) len cap) (es.set i e) := by
  rcases h with ⟨h1, ⟨e1, h0⟩ | ⟨g', c, cur, e1, h0, hg, hn, hm, hs, ht⟩⟩
  · cases e1
  · simp only [Value.slice.injEq, Option.some.injEq, Addr.mk.injEq] at e1
    obtain ⟨⟨rfl, _⟩, rfl, rfl⟩ := e1
    have hb1 := heap_set hg (i * 2) (.string e.n)
    have hb2 := heap_set hb1 (i * 2 + 1) (.int .u64 e.at_)
    refine ⟨by rw [cellsE_len], .inr ⟨g, cap, _, by simp, h0, hb2, by simpa using hn, hm, by simpa using hs, ?_⟩⟩
    rw [← cellsE_set, ← ht]
    have l2 : (es.set i e).length = es.length := by simp
    rw [l2]
    apply List.ext_getElem?
    intro k
    simp only [List.getElem?_take, List.getElem?_set, Array.getElem?_toList, Array.getElem?_setIfInBounds, List.length_take, List.length_set, Array.length_toList, Array.size_setIfInBounds]
    have hcs : cur.size = cap * 2 := hs
    have hi2 : i * 2 + 1 < cur.size := by omega
    by_cases k1 : i * 2 + 1 = k
    · subst k1
      have : i * 2 + 1 < es.length * 2 := by omega
      simp [this, hi2]
      omega
    · by_cases k2 : i * 2 = k
      · subst k2
        have : i * 2 < es.length * 2 := by omega
        have h3 : i * 2 < cur.size := by omega
        simp [this, h3]
        omega
      · simp [k1, k2]
theorem Rw.kept {t : TypeId} {w w' : World} {v : Value} {es : List E} (h : Rw t w v es) (hb : ∀ k, v.ownBlock = some k → w'.heap[k]? = w.heap[k]?) : Rw t w' v es := by
  obtain ⟨h1, h2⟩ := h
  refine ⟨h1, ?_⟩
  rcases h2 with h2 | ⟨g, cap, cur, rfl, hbg, hg, hr⟩
  · exact .inl h2
  · exact .inr ⟨g, cap, cur, rfl, hbg, (hb g rfl).trans hg, hr⟩

/-- What lies outside blocks of which C is true lies as it lay. -/
structure Kp (C : Nat → Prop) (w w' : World) : Prop where
  os : w'.os = w.os
  tape : w'.tape = w.tape
  output : w'.output = w.output
  size : w.heap.size ≤ w'.heap.size
  block : ∀ k, k < w.heap.size → ¬ C k → w'.heap[k]? = w.heap[k]?
theorem Kp.of {C : Nat → Prop} {w w' : World} {row : Option Nat} (hg : w.grownBy w' row) (hr : ∀ k, row = some k → C k) : Kp C w w' :=
  ⟨hg.os, hg.tape, hg.output, hg.size, fun k hk hc => hg.block k hk (fun e => hc (hr k e.symm))⟩
theorem Kp.of0 {C : Nat → Prop} {w w' : World} (hg : w.grownBy w' none) : Kp C w w' := Kp.of hg (by simp)
theorem Kp.refl (C : Nat → Prop) (w : World) : Kp C w w := ⟨rfl, rfl, rfl, Nat.le_refl _, fun _ _ _ => rfl⟩
theorem Kp.trans {C C' : Nat → Prop} {a b c : World} (h : Kp C a b) (k : Kp C' b c) (hc : ∀ i, i < a.heap.size → C' i → C i) : Kp C a c :=
  ⟨k.os.trans h.os, k.tape.trans h.tape, k.output.trans h.output, Nat.le_trans h.size k.size, fun i hi hn => (k.block i (Nat.lt_of_lt_of_le hi h.size) (fun e => hn (hc i hi e))).trans (h.block i hi hn)⟩
theorem Kp.mono {C C' : Nat → Prop} {w w' : World} (h : Kp C w w') (hc : ∀ k, C k → C' k) : Kp C' w w' := ⟨h.os, h.tape, h.output, h.size, fun k hk hn => h.block k hk (fun e => hn (hc k e))⟩
theorem Kp.below {C : Nat → Prop} {n : Nat} {w w' : World} (h : Kp C w w') (hn : n ≤ w.heap.size) (hc : ∀ k, C k → n ≤ k) : Below n w w' := ⟨h.os, h.tape, h.output, h.size, fun k hk => h.block k (by omega) (fun e => by have := hc k e; omega)⟩

/-- .. and what is new. -/
def Gw (S : Nat → Prop) (w w' : World) (k : Nat) : Prop := S k ∨ (w.heap.size ≤ k ∧ k < w'.heap.size)
/-- A world in which whatever lay in w lies as it lay. -/
structure Lat (w : World) where
  W : World
  h : w.grownBy W none
theorem wp_region_lat {P : Program} {id : Nat} {Q : Exit → Act → World → Prop} {a : Act} {w : World} {l : List Oper} (hm : P.follows .mixedOrders = true) (hB : Region.lexB .any l.toArray = true)
    (h : wpQuiet P l.toArray (fun w' => ∃ p : Lat w, w' = p.W) (fun a' => ∀ w', (∃ p : Lat w, w' = p.W) → Q .normal a' w') l a) : (Code.region id l.toArray true).wp P Q a w :=
  wp_region_quiet (C := fun w' => ∃ p : Lat w, w' = p.W) hm hB ⟨⟨_, grown_drew w⟩, rfl⟩ (by simpa using h)
theorem lat_nonempty (w : World) : Nonempty (Lat w) := ⟨⟨w, grown_refl _⟩⟩
theorem lat_cell {w : World} {b o : Nat} {v : Value} (h : w.cell? ⟨b, o, none⟩ = some v) (p : Lat w) : p.W.cell? ⟨b, o, none⟩ = some v := grown_cell p.h h
/-- A name as a key. -/
def ky (n : ByteArray) : Lit := .string n.data.toList
theorem ky_inj {a b : ByteArray} (h : ky a = ky b) : a = b := by
  simp only [ky, Lit.string.injEq] at h
  cases a; cases b
  simp only [ByteArray.mk.injEq]
  exact Array.toList_inj.1 h
theorem keyed9 : Keyed Tryz.prog 9 := string_keyed Tryz.underlying9
theorem zero22 (w : World) : (zeroValue 22).run Tryz.prog w = .ok (.int .u64 0) w := by kernel_rfl
/-- What a timer must be. -/
def E.ok (e : E) : Prop := e.n.size ≤ maxLen ∧ 0 ≤ e.at_ ∧ e.at_ < 18446744073709551616
theorem wf64 {a : Int} (h0 : 0 ≤ a) (h1 : a < 18446744073709551616) : (Lit.int .u64 a).wf = true := by
  have h2 : IntKind.u64.min = 0 := rfl
  have h3 : IntKind.u64.max = 18446744073709551615 := rfl
  simp [Lit.wf, h2, h3]
  omega
/-- What the map of deadlines holds. -/
structure Plc (D : DataW Value) (es : List E) : Prop where
  has : ∀ e ∈ es, Maps.has D (ky e.n) = true ∧ D.atKey (ky e.n) (.lit (.int .u64 0)) = .lit (.int .u64 e.at_)
  all : ∀ n : ByteArray, Maps.has D (ky n) = true → ∃ e ∈ es, e.n = n
  size : Maps.size D = es.length
/-- The map of deadlines. -/
def Mp (w : World) (bm : Nat) (D : DataW Value) : Prop := w.ownsMap Tryz.prog 9 (plainElem Tryz.prog 22) bm (Maps.size D) D
theorem Mp.tight {w : World} {bm n : Nat} {D : DataW Value} (h : w.ownsMap Tryz.prog 9 (plainElem Tryz.prog 22) bm n D) : Mp w bm D := by
  obtain ⟨es, clock, hb, F, hs, rfl⟩ := h
  exact ⟨es, clock, hb, F, by simp [Maps.size, length_sorted], rfl⟩
theorem Mp.kept {w w' : World} {bm : Nat} {D : DataW Value} (h : Mp w bm D) (hb : w'.heap[bm]? = w.heap[bm]?) : Mp w' bm D := by
  obtain ⟨es, clock, h1, F, hs, hD⟩ := h
  exact ⟨es, clock, hb.trans h1, F, hs, hD⟩
theorem key9 {n : ByteArray} (hn : n.size ≤ maxLen) : keyOf Tryz.prog 9 (.string n) = some (ky n) := WideMaps.keyOf_string_mk Tryz.underlying9 hn
theorem Mp.isMap {w : World} {bm : Nat} {D : DataW Value} (h : Mp w bm D) : IsMap D := World.ownsMap.isMap h
theorem Mp.tidy {w : World} {bm : Nat} {D : DataW Value} (h : Mp w bm D) : Tidy D := World.ownsMap.tidy h keyed9
theorem ky_key (n : ByteArray) : WideAt.IsKeyLit (ky n) := trivial
/-- The map of deadlines of timers. -/
def Dl (w : World) (bm : Nat) (L : List E) : Prop := ∃ D, Mp w bm D ∧ Plc D L
theorem Dl.lt {w : World} {bm : Nat} {L : List E} (h : Dl w bm L) : bm < w.heap.size := by obtain ⟨D, h1, _⟩ := h; exact World.ownsMap.lt h1
theorem Dl.kept {w w' : World} {bm : Nat} {L : List E} (h : Dl w bm L) (hb : w'.heap[bm]? = w.heap[bm]?) : Dl w' bm L := by
  obtain ⟨D, h1, h2⟩ := h
  exact ⟨D, h1.kept hb, h2⟩
theorem Dl.len {w : World} {bm : Nat} {L : List E} (h : Dl w bm L) (ty : TypeId) : (Builtin.len_ #[100] ty #[.map (some bm)]).run Tryz.prog w = .ok (.int .i64 L.length) w := by
  obtain ⟨D, h1, h2⟩ := h
  rw [← h2.size]
  exact World.ownsMap.len h1 Tryz.underlying100 ty
/-- A name looked up. -/
theorem Dl.look {w : World} {bm : Nat} {L : List E} (h : Dl w bm L) {n : ByteArray} (hn : n.size ≤ maxLen) :
    (∃ e ∈ L, e.n = n ∧ (Instr.lookup 100 (.map (some bm)) (.string n) true).run Tryz.prog w = .ok (.tuple #[.int .u64 e.at_, .bool true]) w) ∨
    ((∀ x ∈ L, x.n ≠ n) ∧ ∃ c, (Instr.lookup 100 (.map (some bm)) (.string n) true).run Tryz.prog w = .ok (.tuple #[.int .u64 c, .bool false]) w) := by
  obtain ⟨D, hM, hP⟩ := h
  have hw0 : (Lit.int .u64 0).wf = true := by decide
  obtain ⟨c, h1, h2, h3⟩ := World.ownsMap.lookup_int hM keyed9 Tryz.underlying100 Tryz.underlying22 (zero22 w) (key9 hn)
  obtain ⟨v, ps, h4, h5⟩ := World.ownsMap.look_ok hM keyed9 Tryz.underlying100 (zero22 w) (plainElem_int Tryz.underlying22 hw0) (key9 hn)
  obtain ⟨c', rfl, hc, hwc⟩ := plainElem_int_inv Tryz.underlying22 h5
  simp only [Prod.mk.injEq] at hc
  rw [h2] at hc
  have : c = c' := by simpa using hc.1
  subst this
  cases hh : Maps.has D (ky n) with
  | true =>
    obtain ⟨e, he, hen⟩ := hP.all n hh
    have h6 := (hP.has e he).2
    rw [hen, h2] at h6
    have hc : c = e.at_ := by simpa using h6
    rw [hh, hc] at h4
    exact .inl ⟨e, he, hen, h4⟩
  | false =>
    rw [hh] at h4
    refine .inr ⟨fun x hx hxn => ?_, c, h4⟩
    have := (hP.has x hx).1
    rw [hxn, hh] at this
    cases this
/-- A new name's deadline. -/
theorem Dl.store {w : World} {bm : Nat} {L L' : List E} (h : Dl w bm L) (hl : L.length < maxLen) {e : E} (he : e.ok) (hno : ∀ x ∈ L, x.n ≠ e.n) (hm : ∀ x, x ∈ L' ↔ x = e ∨ x ∈ L) (hl' : L'.length = L.length + 1) :
    ∃ w', (Instr.mapUpdate 100 (.map (some bm)) (.string e.n) (.int .u64 e.at_)).run Tryz.prog w = .ok () w' ∧ Dl w' bm L' ∧ w.grownBy w' (some bm) := by
  obtain ⟨D, hM, hP⟩ := h
  obtain ⟨w', hrun, hown, ht⟩ := World.ownsMap.store hM keyed9 Tryz.underlying100 (by rw [hP.size]; exact hl) (key9 he.1) (plainElem_int Tryz.underlying22 (wf64 he.2.1 he.2.2))
  have hnh : Maps.has D (ky e.n) = false := by
    cases hh : Maps.has D (ky e.n) with
    | false => rfl
    | true =>
      obtain ⟨x, hx, hxn⟩ := hP.all e.n hh
      exact absurd hxn (hno x hx)
  refine ⟨w', hrun, ⟨_, Mp.tight hown, ⟨fun x hx => ?_, fun n hn => ?_, ?_⟩⟩, ht.grown⟩
  · rcases (hm x).1 hx with rfl | hx
    · exact ⟨has_put_same hM.isMap (ky_key _) _, atKey_put_same hM.isMap (ky_key _) _ _⟩
    · have hne : ky x.n ≠ ky e.n := fun e' => hno x hx (ky_inj e')
      rw [has_put_other hne, atKey_put_other hne]
      exact hP.has x hx
  · by_cases hne : n = e.n
    · exact ⟨e, (hm e).2 (.inl rfl), hne.symm⟩
    · rw [has_put_other (fun e' => hne (ky_inj e'))] at hn
      obtain ⟨x, hx, hxn⟩ := hP.all n hn
      exact ⟨x, (hm x).2 (.inr hx), hxn⟩
  · rw [size_put hM.tidy, hnh, hP.size, hl']
    rfl
/-- A name dropped. -/
theorem Dl.drop {w : World} {bm : Nat} {L : List E} (h : Dl w bm L) (hs : Srt L) {n : ByteArray} (hn : n.size ≤ maxLen) (ty : TypeId) :
    ∃ w', (Builtin.delete_ #[100, 9] ty #[.map (some bm), .string n]).run Tryz.prog w = .ok (.tuple #[]) w' ∧ Dl w' bm (delN n L) ∧ w.grownBy w' (some bm) := by
  obtain ⟨D, hM, hP⟩ := h
  obtain ⟨w', hrun, hown, ht⟩ := World.ownsMap.drop hM keyed9 Tryz.underlying100 (key9 hn) ty
  refine ⟨w', hrun, ⟨_, Mp.tight hown, ⟨fun x hx => ?_, fun m hm => ?_, ?_⟩⟩, ht.grown⟩
  · obtain ⟨hx, hxn⟩ := mem_delN.1 hx
    have hne : ky x.n ≠ ky n := fun e' => hxn (ky_inj e')
    rw [has_del_other hne, atKey_del_other hne]
    exact hP.has x hx
  · by_cases hne : m = n
    · subst hne
      rw [has_del_same] at hm
      cases hm
    · rw [has_del_other (fun e' => hne (ky_inj e'))] at hm
      obtain ⟨x, hx, hxn⟩ := hP.all m hm
      exact ⟨x, mem_delN.2 ⟨hx, by rw [hxn]; exact hne⟩, hxn⟩
  · have h1 := size_del (k := ky n) hM.tidy
    rw [hP.size] at h1
    cases hh : Maps.has D (ky n) with
    | true =>
      rw [hh] at h1
      obtain ⟨x, hx, hxn⟩ := hP.all n hh
      have h2 : (x :: delN n L).Nodup := List.nodup_cons.2 ⟨fun hc => (mem_delN.1 hc).2 hxn, (hs.del _).nodup⟩
      have h3 := len_mem h2 hs.nodup (fun y => by
        rw [List.mem_cons, mem_delN]
        constructor
        · rintro (rfl | h)
          · exact hx
          · exact h.1
        · intro hy
          by_cases hyn : y.n = n
          · exact .inl (hs.un y hy x hx (by rw [hyn, hxn]))
          · exact .inr ⟨hy, hyn⟩)
      simp at h1 h3
      omega
    | false =>
      rw [hh] at h1
      have h2 : delN n L = L := delN_not (hasN_not.2 fun x hx hxn => by
        have := (hP.has x hx).1
        rw [hxn, hh] at this
        cases this)
      rw [h2]
      simpa using h1
/-- A timer as a value, and as a key. -/
def E.val (e : E) : Value := .agg #[.string e.n, .int .u64 e.at_]
def kyE (e : E) : Lit := .string (keyBytes [.string e.n.data.toList, .int .u64 e.at_])
theorem laidOut : laidOutB Tryz.prog = true := by kernel_rfl
theorem row52 : (86 : TypeId) < Tryz.prog.types.size := of_decide_eq_true (by kernel_rfl)
theorem cells52 : Tryz.prog.cellsOf 86 = 2 := by kernel_rfl
theorem wide52 : (match Tryz.prog.underlying 86 with | some (.array _ _) | some (.struct _) => true | _ => false) = true := by kernel_rfl
set_option maxRecDepth 100000 in
theorem keyed52 : Keyed Tryz.prog 86 := Keyed.of_law (deep_law_laid laidOut (m := 2) (by omega) row52 (by kernel_rfl) wide52)
theorem keyType52 : Tryz.prog.keyType 86 = true := by kernel_rfl
theorem size1 : ∃ m, Tryz.prog.types.size = m + 1 := by
  obtain ⟨m, hm⟩ := Nat.exists_eq_add_of_lt row52
  exact ⟨86 + m, hm⟩
theorem cells9 : Tryz.prog.cellsOf 9 = 1 := by kernel_rfl
theorem cells22 : Tryz.prog.cellsOf 22 = 1 := by kernel_rfl
theorem formed52 (c0 c1 : Value) : (Value.agg #[c0, c1]).formed Tryz.prog 86 = true := by
  simp [Value.formed, Tryz.underlying86, cells52]
theorem key52 {e : E} (h : e.ok) : keyOf Tryz.prog 86 e.val = some (kyE e) := by
  obtain ⟨m, hm⟩ := size1
  unfold keyOf E.val
  simp only [Tryz.underlying86]
  rw [if_pos (by simp [keyType52, formed52]), hm]
  unfold Program.keyLits
  simp only [Tryz.underlying86, Value.cells]
  have hw := wf64 h.2.1 h.2.2
  rw [if_pos (by rw [cells52]; exact ⟨rfl, by simp⟩)]
  simp [Program.keyLits, cells9, cells22, Tryz.underlying9, Tryz.underlying22, h.1, hw, kyE]
set_option maxRecDepth 10000 in
theorem inv52 {v : Value} {kl : Lit} (h : keyOf Tryz.prog 86 v = some kl) : ∃ e : E, v = e.val := by
  unfold keyOf at h
  simp only [Tryz.underlying86] at h
  split at h
  · rename_i hk
    simp only [Option.map_eq_some_iff] at h
    obtain ⟨ls, hls, _⟩ := h
    obtain ⟨m, hm⟩ := size1
    rw [hm] at hls
    have hf := (Bool.and_eq_true_iff.1 hk).2
    cases v with
    | agg cs =>
      have hsz : cs.size = 2 := by simpa [Value.formed, Tryz.underlying86, cells52] using hf
      obtain ⟨l⟩ := cs
      match l, hsz with
      | [c0, c1], _ =>
        unfold Program.keyLits at hls
        simp only [Tryz.underlying86, Value.cells] at hls
        split at hls
        · simp [cells9, cells22] at hls
          cases h0 : Tryz.prog.keyLits (m + 1) 9 [c0] with
          | none => rw [h0] at hls; cases hls
          | some a =>
            cases h1 : Tryz.prog.keyLits (m + 1) 22 [c1] with
            | none => rw [h0, h1] at hls; cases hls
            | some b =>
              obtain ⟨s, e0, _⟩ := keyLits_string' Tryz.underlying9 h0
              obtain ⟨n, e1, _⟩ := keyLits_int' Tryz.underlying22 h1
              simp only [List.cons.injEq, and_true] at e0 e1
              exact ⟨⟨s, n⟩, by rw [e0, e1]; rfl⟩
        · cases hls
    | _ => simp [Value.formed, Tryz.underlying86] at hf
  · cases h
set_option maxRecDepth 10000 in
theorem inv52ok {x : E} {kl : Lit} (h : keyOf Tryz.prog 86 x.val = some kl) : x.ok := by
  unfold keyOf E.val at h
  simp only [Tryz.underlying86] at h
  split at h
  · simp only [Option.map_eq_some_iff] at h
    obtain ⟨ls, hls, _⟩ := h
    obtain ⟨m, hm⟩ := size1
    rw [hm] at hls
    unfold Program.keyLits at hls
    simp only [Tryz.underlying86, Value.cells] at hls
    split at hls
    · simp [cells9, cells22] at hls
      cases h0 : Tryz.prog.keyLits (m + 1) 9 [.string x.n] with
      | none => rw [h0] at hls; cases hls
      | some a =>
        cases h1 : Tryz.prog.keyLits (m + 1) 22 [.int .u64 x.at_] with
        | none => rw [h0, h1] at hls; cases hls
        | some b =>
          unfold Program.keyLits at h0 h1
          simp [Tryz.underlying9, Tryz.underlying22] at h0 h1
          have h2 : IntKind.u64.min = 0 := rfl
          have h3 : IntKind.u64.max = 18446744073709551615 := rfl
          have h4 := h1.1
          simp [Lit.wf, h2, h3] at h4
          exact ⟨h0.1, h4.1, by omega⟩
    · cases hls
  · cases h
theorem unit79 (w : World) : (zeroValue 141).run Tryz.prog w = .ok (.agg #[]) w := by kernel_rfl
theorem kyE_key (e : E) : WideAt.IsKeyLit (kyE e) := trivial
theorem val_inj {a b : E} (h : a.val = b.val) : a = b := by
  simp only [E.val, Value.agg.injEq, Array.mk.injEq, List.cons.injEq, Value.string.injEq, Value.int.injEq, true_and, and_true] at h
  exact E.ext' h.1 h.2
theorem kyE_inj {a b : E} (ha : a.ok) (hb : b.ok) (h : kyE a = kyE b) : a = b := val_inj (keyed52.inj (key52 ha) (h ▸ key52 hb))
/-- A set of timers: they are l, in whatever order. -/
structure Sset (w : World) (b : Nat) (l : List E) : Prop where
  own : ∃ D : DataW Value, w.ownsMap Tryz.prog 86 unitElem b (Maps.size D) D ∧ (∀ e ∈ l, Maps.has D (kyE e) = true) ∧ (∀ e : E, e.ok → Maps.has D (kyE e) = true → e ∈ l) ∧ Maps.size D = l.length
  nd : l.Nodup
  ok : ∀ e ∈ l, e.ok
theorem Sset.tight {w : World} {b n : Nat} {D : DataW Value} (h : w.ownsMap Tryz.prog 86 unitElem b n D) : w.ownsMap Tryz.prog 86 unitElem b (Maps.size D) D := by
  obtain ⟨es, clock, hb, F, hs, rfl⟩ := h
  exact ⟨es, clock, hb, F, by simp [Maps.size, length_sorted], rfl⟩
section
variable {w w' : World} {b : Nat} {l l' : List E}
theorem Sset.lt (h : Sset w b l) : b < w.heap.size := by obtain ⟨D, h1, _⟩ := h.own; exact World.ownsMap.lt h1
theorem Sset.kept (h : Sset w b l) (hb : w'.heap[b]? = w.heap[b]?) : Sset w' b l := by
  obtain ⟨D, ⟨es, clock, h1, F, hs, hD⟩, h2⟩ := h.own
  exact ⟨⟨D, ⟨es, clock, hb.trans h1, F, hs, hD⟩, h2⟩, h.nd, h.ok⟩
theorem Sset.isMap (h : Sset w b l) : ∃ es clock, w.heap[b]? = some (.map es clock) := by
  obtain ⟨D, ⟨es, clock, h1, _⟩, _⟩ := h.own
  exact ⟨es, clock, h1⟩
theorem Sset.same (h : Sset w b l) (hn : l'.Nodup) (hm : ∀ x, x ∈ l' ↔ x ∈ l) : Sset w b l' := by
  obtain ⟨D, h1, h2, h3, h4⟩ := h.own
  exact ⟨⟨D, h1, fun e he => h2 e ((hm e).1 he), fun e he hh => (hm e).2 (h3 e he hh), by rw [h4]; exact len_mem h.nd hn fun x => (hm x).symm⟩, hn, fun e he => h.ok e ((hm e).1 he)⟩
theorem Sset.len (h : Sset w b l) (ty : TypeId) : (Builtin.len_ #[102] ty #[.map (some b)]).run Tryz.prog w = .ok (.int .i64 l.length) w := by
  obtain ⟨D, h1, _, _, h4⟩ := h.own
  rw [← h4]
  exact World.ownsMap.len h1 Tryz.underlying102 ty
/-- A timer added. -/
theorem Sset.store (h : Sset w b l) (hl : l.length < maxLen) {e : E} (he : e.ok) (hn : l'.Nodup) (hm : ∀ x, x ∈ l' ↔ x = e ∨ x ∈ l) :
    ∃ w', (Instr.mapUpdate 102 (.map (some b)) (.agg #[.string e.n, .int .u64 e.at_]) (.agg #[])).run Tryz.prog w = .ok () w' ∧ Sset w' b l' ∧ w.grownBy w' (some b) := by
  obtain ⟨D, h1, h2, h3, h4⟩ := h.own
  obtain ⟨w', hrun, hown, ht⟩ := World.ownsMap.store h1 keyed52 Tryz.underlying102 (by rw [h4]; exact hl) (key52 he) unitElem_mk
  have hD := World.ownsMap.isMap h1
  refine ⟨w', hrun, ⟨⟨_, Sset.tight hown, fun x hx => ?_, fun x hx hh => ?_, ?_⟩, hn, fun x hx => ?_⟩, ht.grown⟩
  · rcases (hm x).1 hx with rfl | hx
    · exact has_put_same hD (kyE_key _) _
    · by_cases hxe : x = e
      · subst hxe; exact has_put_same hD (kyE_key _) _
      · rw [has_put_other fun e' => hxe (kyE_inj (h.ok x hx) he e')]
        exact h2 x hx
  · by_cases hxe : x = e
    · exact (hm x).2 (.inl hxe)
    · rw [has_put_other fun e' => hxe (kyE_inj hx he e')] at hh
      exact (hm x).2 (.inr (h3 x hx hh))
  · rw [size_put (World.ownsMap.tidy h1 keyed52), h4]
    cases hh : Maps.has D (kyE e) with
    | true =>
      have h5 := h3 e he hh
      have := len_mem h.nd hn fun x => by
        rw [hm]
        exact ⟨.inr, fun h => h.elim (fun h => h ▸ h5) id⟩
      simpa using this
    | false =>
      have h5 : e ∉ l := fun hc => by rw [h2 e hc] at hh; cases hh
      have := len_mem (L := e :: l) (M := l') (List.nodup_cons.2 ⟨h5, h.nd⟩) hn fun x => by rw [hm, List.mem_cons]
      simpa using this
  · rcases (hm x).1 hx with rfl | hx
    · exact he
    · exact h.ok x hx
/-- A timer dropped. -/
theorem Sset.drop (h : Sset w b l) {e : E} (he : e.ok) (hn : l'.Nodup) (hm : ∀ x, x ∈ l' ↔ x ∈ l ∧ x ≠ e) (ty : TypeId) :
    ∃ w', (Builtin.delete_ #[102, 86] ty #[.map (some b), .agg #[.string e.n, .int .u64 e.at_]]).run Tryz.prog w = .ok (.tuple #[]) w' ∧ Sset w' b l' ∧ w.grownBy w' (some b) := by
  obtain ⟨D, h1, h2, h3, h4⟩ := h.own
  obtain ⟨w', hrun, hown, ht⟩ := World.ownsMap.drop h1 keyed52 Tryz.underlying102 (key52 he) ty
  refine ⟨w', hrun, ⟨⟨_, Sset.tight hown, fun x hx => ?_, fun x hx hh => ?_, ?_⟩, hn, fun x hx => h.ok x ((hm x).1 hx).1⟩, ht.grown⟩
  · obtain ⟨hx, hxe⟩ := (hm x).1 hx
    rw [has_del_other fun e' => hxe (kyE_inj (h.ok x hx) he e')]
    exact h2 x hx
  · by_cases hxe : x = e
    · subst hxe
      rw [has_del_same] at hh
      cases hh
    · rw [has_del_other fun e' => hxe (kyE_inj hx he e')] at hh
      exact (hm x).2 ⟨h3 x hx hh, hxe⟩
  · have h6 := size_del (k := kyE e) (World.ownsMap.tidy h1 keyed52)
    cases hh : Maps.has D (kyE e) with
    | true =>
      have h5 := h3 e he hh
      have := len_mem (L := e :: l') (M := l) (List.nodup_cons.2 ⟨fun hc => ((hm e).1 hc).2 rfl, hn⟩) h.nd fun x => by
        rw [List.mem_cons, hm]
        constructor
        · rintro (rfl | h)
          · exact h5
          · exact h.1
        · intro hx
          by_cases hxe : x = e
          · exact .inl hxe
          · exact .inr ⟨hx, hxe⟩
      rw [hh] at h6
      simp at this h6
      omega
    | false =>
      have h5 : e ∉ l := fun hc => by rw [h2 e hc] at hh; cases hh
      have := len_mem (L := l') (M := l) hn h.nd fun x => by
        rw [hm]
        exact ⟨fun h => h.1, fun h => ⟨h, fun hx => h5 (hx ▸ h)⟩⟩
      rw [hh] at h6
      simp at h6
      omega
/-- All dropped. -/
theorem Sset.clear (h : Sset w b l) (ty : TypeId) : ∃ w', (Builtin.clear_ #[102] ty #[.map (some b)]).run Tryz.prog w = .ok (.tuple #[]) w' ∧ Sset w' b [] ∧ w.grownBy w' (some b) := by
  obtain ⟨D, ⟨es, clock, hb, F, hs, hD⟩, _⟩ := h.own
  have hbl : b < w.heap.size := (Array.getElem?_eq_some_iff.1 hb).1
  refine ⟨{ w with heap := w.heap.setIfInBounds b (.map #[] clock) }, ?_, ⟨⟨.map [], ⟨#[], clock, ?_, ⟨by simp, MapKept.stamped_empty clock, by simp⟩, by simp, rfl⟩, by simp, fun e _ hh => by simp [Maps.has] at hh, rfl⟩, by simp, by simp⟩, ⟨rfl, rfl, rfl, by simp, fun k _ hk => ?_⟩⟩
  · simp [Builtin.clear_, Go.run_underlying Tryz.underlying102, MapKept.run_getObj_map hb, MapKept.run_setObj_map _ hb, Result.andThen]
  · simp [hbl]
  · have hne : b ≠ k := fun e => hk (by rw [e])
    simp [hne]
end
/-- A new map is an empty set. -/
theorem Sset.made {w : World} {b : Nat} (h : w.heap[b]? = some (.map #[] 0)) : Sset w b [] :=
  ⟨⟨.map [], ⟨#[], 0, h, ⟨by simp, MapKept.stamped_empty 0, by simp⟩, by simp, rfl⟩, by simp, fun e _ hh => by simp [Maps.has] at hh, rfl⟩, by simp, by simp⟩
theorem Dl.made {w : World} {b : Nat} (h : w.heap[b]? = some (.map #[] 0)) : Dl w b [] :=
  ⟨.map [], ⟨#[], 0, h, ⟨by simp, MapKept.stamped_empty 0, by simp⟩, by simp, rfl⟩, by simp, fun n hh => by simp [Maps.has] at hh, rfl⟩
end Go.Proofs.YtblnhcnfeagjhaaGreatDoor.W

/- Where a timer stands: the greatest place at which two ticks have unlike figures, and what a leap of the clock does to it. Plain facts, no program. -/
namespace Go.Proofs.YtblnhcnfeagjhaaGreatDoor.W
set_option linter.unusedVariables false
/-- The greatest place at which a and b have unlike figures to the base 16 is k. -/
def IsLv (a b k : Nat) : Prop := a / 16 ^ k ≠ b / 16 ^ k ∧ a / 16 ^ (k + 1) = b / 16 ^ (k + 1)
theorem div_up {a b k : Nat} (h : a / 16 ^ k = b / 16 ^ k) : ∀ j, k ≤ j → a / 16 ^ j = b / 16 ^ j := by
  intro j hj
  obtain ⟨i, rfl⟩ := Nat.exists_eq_add_of_le hj
  rw [Nat.pow_add, ← Nat.div_div_eq_div_mul, ← Nat.div_div_eq_div_mul, h]
theorem IsLv.eq {a b k j : Nat} (h : IsLv a b k) (h' : IsLv a b j) : k = j := by
  rcases Nat.lt_trichotomy k j with hl | hl | hl
  · exact absurd (div_up h.2 j (by omega)) h'.1
  · exact hl
  · exact absurd (div_up h'.2 k (by omega)) h.1
theorem IsLv.symm {a b k : Nat} (h : IsLv a b k) : IsLv b a k := ⟨Ne.symm h.1, h.2.symm⟩
/-- Of two ticks that are not the same there is one. -/
theorem exists_lv {a b : Nat} (ha : a < 16 ^ 16) (hb : b < 16 ^ 16) (hne : a ≠ b) : ∃ k, k < 16 ∧ IsLv a b k := by
  have h : ∀ n, a / 16 ^ n = b / 16 ^ n → ∃ k, k < n ∧ IsLv a b k := by
    intro n
    induction n with
    | zero => intro h; simp at h; exact absurd h hne
    | succ n ih =>
      intro h
      by_cases hn : a / 16 ^ n = b / 16 ^ n
      · obtain ⟨k, hk, hl⟩ := ih hn
        exact ⟨k, by omega, hl⟩
      · exact ⟨n, by omega, hn, h⟩
  exact h 16 (by rw [Nat.div_eq_of_lt ha, Nat.div_eq_of_lt hb])
/-- Looked for from above. -/
def lvN (a b : Nat) : Nat → Nat
  | 0 => 0
  | n + 1 => if a / 16 ^ n ≠ b / 16 ^ n then n else lvN a b n
def lv (a b : Nat) : Nat := lvN a b 16
theorem lvN_is {a b : Nat} (hne : a ≠ b) : ∀ n, a / 16 ^ n = b / 16 ^ n → IsLv a b (lvN a b n)
  | 0, h => by simp at h; exact absurd h hne
  | n + 1, h => by
    unfold lvN
    split
    · rename_i hn; exact ⟨hn, h⟩
    · rename_i hn; exact lvN_is hne n (by simpa using hn)
theorem lv_is {a b : Nat} (ha : a < 16 ^ 16) (hb : b < 16 ^ 16) (hne : a ≠ b) : IsLv a b (lv a b) := lvN_is hne 16 (by rw [Nat.div_eq_of_lt ha, Nat.div_eq_of_lt hb])
theorem lv_eq {a b k : Nat} (ha : a < 16 ^ 16) (hb : b < 16 ^ 16) (h : IsLv a b k) : lv a b = k := (lv_is ha hb (fun e => h.1 (by rw [e]))).eq h
theorem lv_lt {a b : Nat} (ha : a < 16 ^ 16) (hb : b < 16 ^ 16) (hne : a ≠ b) : lv a b < 16 := by
  obtain ⟨k, hk, h⟩ := exists_lv ha hb hne
  rw [lv_eq ha hb h]
  exact hk
/-- A figure. -/
def fg (a k : Nat) : Nat := a / 16 ^ k % 16
theorem fg_lt (a k : Nat) : fg a k < 16 := Nat.mod_lt _ (by omega)
theorem div_fg (a k : Nat) : a / 16 ^ k = a / 16 ^ (k + 1) * 16 + fg a k := by
  unfold fg
  rw [Nat.pow_succ, ← Nat.div_div_eq_div_mul]
  omega
/-- Where a timer stands: 16 places a level, 64: far. -/
def pl (now a : Nat) : Nat := 16 * lv a now + fg a (lv a now)
def plc (now a : Nat) : Nat := min 64 (pl now a)
theorem lt_of_div {a b k : Nat} (h : a / 16 ^ k < b / 16 ^ k) : a < b := by
  rcases Nat.lt_or_ge a b with hl | hl
  · exact hl
  · have := Nat.div_le_div_right (c := 16 ^ k) hl
    omega
theorem div_lt_of {a b k : Nat} (hl : a < b) (h : a / 16 ^ k ≠ b / 16 ^ k) : a / 16 ^ k < b / 16 ^ k := by
  have := Nat.div_le_div_right (c := 16 ^ k) (Nat.le_of_lt hl)
  omega
section
variable {n m a b : Nat}
/-- What stands behind the place that the clock comes to, is not due, and stands as it stood. -/
theorem leap_stays (hn : n < 16 ^ 16) (hm : m < 16 ^ 16) (ha : a < 16 ^ 16) (hnm : n < m) (hna : n < a) (h : pl n m < pl n a) : m < a ∧ pl m a = pl n a := by
  have h1 := lv_is hm hn (by omega)
  have h2 := lv_is ha hn (by omega)
  unfold pl at h
  have f1 := fg_lt m (lv m n)
  have f2 := fg_lt a (lv a n)
  revert h
  generalize hk : lv m n = k at *
  generalize hj : lv a n = j at *
  intro h
  have hkj : k ≤ j := by omega
  have key : IsLv a m j ∧ m / 16 ^ j < a / 16 ^ j := by
    rcases Nat.lt_or_ge k j with hl | hl
    · have e1 : m / 16 ^ j = n / 16 ^ j := div_up h1.2 j (by omega)
      have e2 : m / 16 ^ (j + 1) = n / 16 ^ (j + 1) := div_up h1.2 (j + 1) (by omega)
      refine ⟨⟨by rw [e1]; exact h2.1, by rw [e2]; exact h2.2⟩, ?_⟩
      rw [e1]
      exact div_lt_of hna (Ne.symm h2.1)
    · have e : k = j := by omega
      subst e
      have hf : fg m k < fg a k := by omega
      have d1 := div_fg m k
      have d2 := div_fg a k
      have e2 : m / 16 ^ (k + 1) = a / 16 ^ (k + 1) := h1.2.trans h2.2.symm
      rw [e2] at d1
      exact ⟨⟨by omega, e2.symm⟩, by omega⟩
  refine ⟨lt_of_div key.2, ?_⟩
  unfold pl
  rw [lv_eq ha hm key.1, hj]
/-- What stands at a lower place is due ahead. -/
theorem pl_ahead (hn : n < 16 ^ 16) (ha : a < 16 ^ 16) (hb : b < 16 ^ 16) (hna : n < a) (hnb : n < b) (h : pl n a < pl n b) : a < b := (leap_stays hn ha hb hna hnb h).1
theorem plc_ahead (hn : n < 16 ^ 16) (ha : a < 16 ^ 16) (hb : b < 16 ^ 16) (hna : n < a) (hnb : n < b) (h : plc n a < plc n b) : a < b := pl_ahead hn ha hb hna hnb (by unfold plc at h; omega)
theorem plc_lt : plc n a < 65 := by unfold plc; omega
/-- The leap, in places of a wheel: T is the place that the clock comes to. -/
theorem plc_stays (hn : n < 16 ^ 16) (hm : m < 16 ^ 16) (ha : a < 16 ^ 16) (hnm : n < m) (hna : n < a) (h : pl n m < plc n a) : m < a ∧ plc m a = plc n a := by
  have h1 := leap_stays hn hm ha hnm hna (by unfold plc at h; omega)
  exact ⟨h1.1, by unfold plc; rw [h1.2]⟩
theorem plc_near (hl : lv a n < 4) : plc n a = 16 * lv a n + fg a (lv a n) := by
  have := fg_lt a (lv a n)
  unfold plc pl
  omega
theorem plc_far (hl : ¬ lv a n < 4) : plc n a = 64 := by
  unfold plc pl
  omega
/-- A place of a wheel is a level and a slot of it. -/
theorem plc_is {k s : Nat} (hk : k < 4) (hs : s < 16) : plc n a = 16 * k + s ↔ lv a n = k ∧ fg a (lv a n) = s := by
  have := fg_lt a (lv a n)
  unfold plc pl
  omega
theorem plc_is_far : plc n a = 64 ↔ 3 < lv a n := by
  have := fg_lt a (lv a n)
  unfold plc pl
  omega
end
/-- bits.Len of a difference tells it. -/
theorem xor_div (a b k : Nat) : (a ^^^ b) / 16 ^ k = (a / 16 ^ k) ^^^ (b / 16 ^ k) := by
  have e : (16 : Nat) ^ k = 2 ^ (4 * k) := by rw [Nat.pow_mul]
  rw [e, ← Nat.shiftRight_eq_div_pow, ← Nat.shiftRight_eq_div_pow, ← Nat.shiftRight_eq_div_pow, Nat.shiftRight_xor_distrib]
theorem xor_zero' {a b : Nat} : a ^^^ b = 0 ↔ a = b := by
  constructor
  · intro h
    exact Nat.eq_of_testBit_eq fun i => by
      have := congrArg (·.testBit i) h
      simpa using this
  · rintro rfl; exact Nat.xor_self a
theorem isLv_xor {a b n : Nat} (h1 : 2 ^ n ≤ a ^^^ b) (h2 : a ^^^ b < 2 ^ (n + 1)) : IsLv a b (n / 4) := by
  have e : ∀ k, (16 : Nat) ^ k = 2 ^ (4 * k) := fun k => by rw [Nat.pow_mul]
  constructor
  · intro he
    have h3 : (a ^^^ b) / 16 ^ (n / 4) = 0 := by rw [xor_div, he, Nat.xor_self]
    have h4 : a ^^^ b < 16 ^ (n / 4) := by
      rcases Nat.lt_or_ge (a ^^^ b) (16 ^ (n / 4)) with h | h
      · exact h
      · have := Nat.div_pos h (Nat.pos_of_ne_zero (by simp))
        omega
    have h5 : (16 : Nat) ^ (n / 4) ≤ 2 ^ n := by rw [e]; exact Nat.pow_le_pow_right (by omega) (by omega)
    omega
  · have h3 : (a ^^^ b) / 16 ^ (n / 4 + 1) = 0 := Nat.div_eq_of_lt (Nat.lt_of_lt_of_le h2 (by rw [e]; exact Nat.pow_le_pow_right (by omega) (by omega)))
    rw [xor_div] at h3
    exact xor_zero'.1 h3
end Go.Proofs.YtblnhcnfeagjhaaGreatDoor.W
