/- Entries in order, each name once: plain facts. -/
import Derived.Test.YtipcoghhnbgalaaHeap
namespace Go.Proofs.Ytipcoghhnbgalaa
set_option linter.unusedVariables false
/-- In order, each name once. -/
structure Srt (L : List E) : Prop where
  up : L.Pairwise lt
  un : ∀ x ∈ L, ∀ y ∈ L, x.n = y.n → x = y
theorem Srt.nil : Srt [] := ⟨List.Pairwise.nil, by simp⟩
theorem Srt.nodup {L : List E} (h : Srt L) : L.Nodup := List.nodup_iff_pairwise_ne.2 (h.up.imp fun {a b} hl (e : a = b) => lt_irrefl a (by rw [← e] at hl; exact hl))
theorem Srt.eq {L M : List E} (h : Srt L) (k : Srt M) (hm : ∀ x, x ∈ L ↔ x ∈ M) : L = M :=
  List.Perm.eq_of_pairwise (fun a b _ _ h1 h2 => absurd h2 (lt_asymm h1)) h.up k.up ((List.perm_ext_iff_of_nodup h.nodup k.nodup).2 hm)
theorem Srt.sub {L M : List E} (h : Srt L) (hs : M.Sublist L) : Srt M := ⟨h.up.sublist hs, fun x hx y hy e => h.un x (hs.subset hx) y (hs.subset hy) e⟩
/-- Is a name there? -/
def hasN (n : ByteArray) (L : List E) : Bool := L.any fun x => decide (x.n = n)
/-- Without a name. -/
def delN (n : ByteArray) (L : List E) : List E := L.filter fun x => !decide (x.n = n)
/-- With an entry in its place. -/
def putE (e : E) (L : List E) : List E := ((delN e.n L).filter fun x => ltb x e) ++ e :: ((delN e.n L).filter fun x => ltb e x)
theorem hasN_iff {n : ByteArray} {L : List E} : hasN n L = true ↔ ∃ x ∈ L, x.n = n := by simp [hasN]
theorem hasN_not {n : ByteArray} {L : List E} : hasN n L = false ↔ ∀ x ∈ L, x.n ≠ n := by simp [hasN]
theorem mem_delN {n : ByteArray} {L : List E} {x : E} : x ∈ delN n L ↔ x ∈ L ∧ x.n ≠ n := by simp [delN]
theorem mem_putE {e : E} {L : List E} {x : E} : x ∈ putE e L ↔ x = e ∨ (x ∈ L ∧ x.n ≠ e.n) := by
  simp only [putE, List.mem_append, List.mem_cons, List.mem_filter, mem_delN, ltb_iff]
  constructor
  · rintro (⟨h1, _⟩ | h | ⟨h1, _⟩)
    · exact .inr h1
    · exact .inl h
    · exact .inr h1
  · rintro (h | h)
    · exact .inr (.inl h)
    · rcases lt_tri x e with h1 | h1 | h1
      · exact .inl ⟨h, h1⟩
      · exact .inr (.inl h1)
      · exact .inr (.inr ⟨h, h1⟩)
theorem Srt.del {L : List E} (h : Srt L) (n : ByteArray) : Srt (delN n L) := h.sub List.filter_sublist
theorem Srt.put {L : List E} (h : Srt L) (e : E) : Srt (putE e L) := by
  refine ⟨?_, fun x hx y hy hn => ?_⟩
  · unfold putE
    refine List.pairwise_append.2 ⟨(h.del e.n).up.sublist List.filter_sublist, List.pairwise_cons.2 ⟨fun y hy => ?_, (h.del e.n).up.sublist List.filter_sublist⟩, fun y hy z hz => ?_⟩
    · exact ltb_iff.1 (List.mem_filter.1 hy).2
    · have h1 : lt y e := ltb_iff.1 (List.mem_filter.1 hy).2
      rcases List.mem_cons.1 hz with rfl | hz
      · exact h1
      · exact lt_trans h1 (ltb_iff.1 (List.mem_filter.1 hz).2)
  · rw [mem_putE] at hx hy
    rcases hx with rfl | ⟨hx, hxn⟩ <;> rcases hy with rfl | ⟨hy, hyn⟩
    · rfl
    · exact absurd hn.symm hyn
    · exact absurd hn hxn
    · exact h.un x hx y hy hn
theorem delN_not {n : ByteArray} {L : List E} (h : hasN n L = false) : delN n L = L := List.filter_eq_self.2 fun x hx => by simp [hasN_not.1 h x hx]
theorem len_mem {L M : List E} (h1 : L.Nodup) (h2 : M.Nodup) (hm : ∀ x, x ∈ L ↔ x ∈ M) : L.length = M.length := ((List.perm_ext_iff_of_nodup h1 h2).2 hm).length_eq
theorem putE_len {L : List E} (h : Srt L) (e : E) : (putE e L).length = (delN e.n L).length + 1 := by
  have h1 : (e :: delN e.n L).Nodup := List.nodup_cons.2 ⟨fun hc => (mem_delN.1 hc).2 rfl, (h.del _).nodup⟩
  have := len_mem (h.put e).nodup h1 (fun x => by rw [mem_putE, List.mem_cons, mem_delN])
  simpa using this
theorem putE_le {L : List E} (h : Srt L) (e : E) : (putE e L).length ≤ L.length + 1 := by
  rw [putE_len h]
  have := List.length_filter_le (fun x : E => !decide (x.n = e.n)) L
  unfold delN
  omega
theorem delN_le (n : ByteArray) (L : List E) : (delN n L).length ≤ L.length := List.length_filter_le _ _
/-- A name's entry. -/
def getN (n : ByteArray) (L : List E) : Option E := L.find? fun x => decide (x.n = n)
theorem getN_some {n : ByteArray} {L : List E} {x : E} (h : getN n L = some x) : x ∈ L ∧ x.n = n := ⟨List.mem_of_find?_eq_some h, by simpa using List.find?_some h⟩
theorem getN_none {n : ByteArray} {L : List E} (h : getN n L = none) : hasN n L = false := hasN_not.2 fun x hx => by simpa using List.find?_eq_none.1 h x hx
theorem Srt.get {L : List E} (h : Srt L) {x : E} (hx : x ∈ L) : getN x.n L = some x := by
  cases e : getN x.n L with
  | none => exact absurd rfl (hasN_not.1 (getN_none e) x hx)
  | some y => rw [h.un y (getN_some e).1 x hx (getN_some e).2]
theorem getN_has {n : ByteArray} {L : List E} : hasN n L = (getN n L).isSome := by
  cases e : getN n L with
  | none => rw [getN_none e]; rfl
  | some x => rw [hasN_iff.2 ⟨x, getN_some e⟩]; rfl
/-- The first one of those in order. -/
theorem Srt.head {f : E} {L : List E} (h : Srt (f :: L)) : (∀ x ∈ L, lt f x) ∧ Srt L ∧ delN f.n (f :: L) = L := by
  have h1 := (List.pairwise_cons.1 h.up).1
  have h2 : Srt L := h.sub (List.sublist_cons_self _ _)
  refine ⟨h1, h2, (h.del _).eq h2 fun x => ?_⟩
  rw [mem_delN]
  constructor
  · rintro ⟨hx, hn⟩
    rcases List.mem_cons.1 hx with rfl | hx
    · exact absurd rfl hn
    · exact hx
  · intro hx
    refine ⟨List.mem_cons_of_mem _ hx, fun e => ?_⟩
    have := h.un x (List.mem_cons_of_mem _ hx) f (by simp) e
    exact lt_irrefl f (this ▸ h1 x hx)
end Go.Proofs.Ytipcoghhnbgalaa
