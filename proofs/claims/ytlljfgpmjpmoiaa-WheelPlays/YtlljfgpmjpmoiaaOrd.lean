/- Timers, their order, lists of them in order, each name once: plain facts, no program. -/
import Derived.WalkKit
namespace Go.Proofs.Ytlljfgpmjpmoiaa
set_option linter.unusedVariables false

/-- An entry: a name with a deadline. -/
structure E where
  n : ByteArray
  at_ : Int
theorem E.ext' {a b : E} (h1 : a.n = b.n) (h2 : a.at_ = b.at_) : a = b := by cases a; cases b; simp_all
theorem ba_inj {a b : ByteArray} (h : a.toList = b.toList) : a = b := by
  rw [ByteArray.toList_eq, ByteArray.toList_eq] at h
  cases a; cases b
  simp only [ByteArray.mk.injEq]
  exact Array.toList_inj.1 h
/-- The order: by deadlines, then by names. -/
def lt (a b : E) : Prop := a.at_ < b.at_ ∨ (a.at_ = b.at_ ∧ a.n.toList < b.n.toList)
/-- .. as it is reckoned. -/
def ltb (a b : E) : Bool := decide (a.at_ < b.at_) || (decide (a.at_ = b.at_) && decide (a.n.toList < b.n.toList))
theorem ltb_iff {a b : E} : ltb a b = true ↔ lt a b := by simp [ltb, lt]
theorem ltb_f {a b : E} (h : ¬ lt a b) : ltb a b = false := by
  cases e : ltb a b with
  | false => rfl
  | true => exact absurd (ltb_iff.1 e) h
theorem lt_irrefl (a : E) : ¬ lt a a := by
  rintro (h | ⟨_, h⟩)
  · omega
  · exact List.lt_irrefl _ h
theorem lt_trans {a b c : E} (h : lt a b) (k : lt b c) : lt a c := by
  rcases h with h | ⟨h1, h2⟩ <;> rcases k with k | ⟨k1, k2⟩
  · exact .inl (by omega)
  · exact .inl (by omega)
  · exact .inl (by omega)
  · exact .inr ⟨by omega, List.lt_trans h2 k2⟩
theorem lt_asymm {a b : E} (h : lt a b) : ¬ lt b a := fun k => lt_irrefl a (lt_trans h k)
theorem lt_or {a b : E} (h : ¬ lt a b) (hn : a.n ≠ b.n ∨ a.at_ ≠ b.at_) : lt b a := by
  by_cases h1 : b.at_ < a.at_
  · exact .inl h1
  · have h2 : ¬ a.at_ < b.at_ := fun h2 => h (.inl h2)
    have h3 : a.at_ = b.at_ := by omega
    have h4 : ¬ a.n.toList < b.n.toList := fun h4 => h (.inr ⟨h3, h4⟩)
    refine .inr ⟨h3.symm, ?_⟩
    have h5 : b.n.toList ≤ a.n.toList := h4
    rcases List.le_iff_lt_or_eq.1 h5 with h6 | h6
    · exact h6
    · rcases hn with hn | hn
      · exact absurd (ba_inj h6).symm hn
      · exact absurd h3 hn
theorem lt_tri (a b : E) : lt a b ∨ a = b ∨ lt b a := by
  by_cases h : lt a b
  · exact .inl h
  · by_cases hn : a.n = b.n
    · by_cases h2 : a.at_ = b.at_
      · exact .inr (.inl (E.ext' hn h2))
      · exact .inr (.inr (lt_or h (.inr h2)))
    · exact .inr (.inr (lt_or h (.inl hn)))
/-- Not ahead carries on. -/
theorem nlt_trans {a b c : E} (h : ¬ lt a b) (k : ¬ lt b c) : ¬ lt a c := by
  intro hac
  rcases lt_tri b a with h1 | h1 | h1
  · exact k (lt_trans h1 hac)
  · exact k (h1 ▸ hac)
  · exact h h1

/-- In order, each name once. -/
structure Srt (L : List E) : Prop where
  up : L.Pairwise lt
  un : ∀ x ∈ L, ∀ y ∈ L, x.n = y.n → x = y
theorem Srt.nil : Srt [] := ⟨List.Pairwise.nil, by simp⟩
theorem Srt.nodup {L : List E} (h : Srt L) : L.Nodup := List.nodup_iff_pairwise_ne.2 (h.up.imp fun {a b} hl (e : a = b) => lt_irrefl a (by rw [← e] at hl; exact hl))
theorem Srt.eq {L M : List E} (h : Srt L) (k : Srt M) (hm : ∀ x, x ∈ L ↔ x ∈ M) : L = M :=
  List.Perm.eq_of_pairwise (fun a b _ _ h1 h2 => absurd h2 (lt_asymm h1)) h.up k.up ((List.perm_ext_iff_of_nodup h.nodup k.nodup).2 hm)
theorem Srt.sub {L M : List E} (h : Srt L) (hs : M.Sublist L) : Srt M := ⟨h.up.sublist hs, fun x hx y hy e => h.un x (hs.subset hx) y (hs.subset hy) e⟩
/-- Is a name there? -/
def hasN (n : ByteArray) (L : List E) : Bool := L.any fun x => decide (x.n = n)
/-- Without a name. -/
def delN (n : ByteArray) (L : List E) : List E := L.filter fun x => !decide (x.n = n)
/-- With an entry in its place. -/
def putE (e : E) (L : List E) : List E := ((delN e.n L).filter fun x => ltb x e) ++ e :: ((delN e.n L).filter fun x => ltb e x)
theorem hasN_iff {n : ByteArray} {L : List E} : hasN n L = true ↔ ∃ x ∈ L, x.n = n := by simp [hasN]
theorem hasN_not {n : ByteArray} {L : List E} : hasN n L = false ↔ ∀ x ∈ L, x.n ≠ n := by simp [hasN]
theorem mem_delN {n : ByteArray} {L : List E} {x : E} : x ∈ delN n L ↔ x ∈ L ∧ x.n ≠ n := by simp [delN]
theorem mem_putE {e : E} {L : List E} {x : E} : x ∈ putE e L ↔ x = e ∨ (x ∈ L ∧ x.n ≠ e.n) := by
  simp only [putE, List.mem_append, List.mem_cons, List.mem_filter, mem_delN, ltb_iff]
  constructor
  · rintro (⟨h1, _⟩ | h | ⟨h1, _⟩)
    · exact .inr h1
    · exact .inl h
    · exact .inr h1
  · rintro (h | h)
    · exact .inr (.inl h)
    · rcases lt_tri x e with h1 | h1 | h1
      · exact .inl ⟨h, h1⟩
      · exact .inr (.inl h1)
      · exact .inr (.inr ⟨h, h1⟩)
theorem Srt.del {L : List E} (h : Srt L) (n : ByteArray) : Srt (delN n L) := h.sub List.filter_sublist
theorem Srt.put {L : List E} (h : Srt L) (e : E) : Srt (putE e L) := by
  refine ⟨?_, fun x hx y hy hn => ?_⟩
  · unfold putE
    refine List.pairwise_append.2 ⟨(h.del e.n).up.sublist List.filter_sublist, List.pairwise_cons.2 ⟨fun y hy => ?_, (h.del e.n).up.sublist List.filter_sublist⟩, fun y hy z hz => ?_⟩
    · exact ltb_iff.1 (List.mem_filter.1 hy).2
    · have h1 : lt y e := ltb_iff.1 (List.mem_filter.1 hy).2
      rcases List.mem_cons.1 hz with rfl | hz
      · exact h1
      · exact lt_trans h1 (ltb_iff.1 (List.mem_filter.1 hz).2)
  · rw [mem_putE] at hx hy
    rcases hx with rfl | ⟨hx, hxn⟩ <;> rcases hy with rfl | ⟨hy, hyn⟩
    · rfl
    · exact absurd hn.symm hyn
    · exact absurd hn hxn
    · exact h.un x hx y hy hn
theorem delN_not {n : ByteArray} {L : List E} (h : hasN n L = false) : delN n L = L := List.filter_eq_self.2 fun x hx => by simp [hasN_not.1 h x hx]
theorem len_mem {L M : List E} (h1 : L.Nodup) (h2 : M.Nodup) (hm : ∀ x, x ∈ L ↔ x ∈ M) : L.length = M.length := ((List.perm_ext_iff_of_nodup h1 h2).2 hm).length_eq
theorem putE_len {L : List E} (h : Srt L) (e : E) : (putE e L).length = (delN e.n L).length + 1 := by
  have h1 : (e :: delN e.n L).Nodup := List.nodup_cons.2 ⟨fun hc => (mem_delN.1 hc).2 rfl, (h.del _).nodup⟩
  have := len_mem (h.put e).nodup h1 (fun x => by rw [mem_putE, List.mem_cons, mem_delN])
  simpa using this
theorem putE_le {L : List E} (h : Srt L) (e : E) : (putE e L).length ≤ L.length + 1 := by
  rw [putE_len h]
  have := List.length_filter_le (fun x : E => !decide (x.n = e.n)) L
  unfold delN
  omega
theorem delN_le (n : ByteArray) (L : List E) : (delN n L).length ≤ L.length := List.length_filter_le _ _
/-- A name's entry. -/
def getN (n : ByteArray) (L : List E) : Option E := L.find? fun x => decide (x.n = n)
theorem getN_some {n : ByteArray} {L : List E} {x : E} (h : getN n L = some x) : x ∈ L ∧ x.n = n := ⟨List.mem_of_find?_eq_some h, by simpa using List.find?_some h⟩
theorem getN_none {n : ByteArray} {L : List E} (h : getN n L = none) : hasN n L = false := hasN_not.2 fun x hx => by simpa using List.find?_eq_none.1 h x hx
theorem Srt.get {L : List E} (h : Srt L) {x : E} (hx : x ∈ L) : getN x.n L = some x := by
  cases e : getN x.n L with
  | none => exact absurd rfl (hasN_not.1 (getN_none e) x hx)
  | some y => rw [h.un y (getN_some e).1 x hx (getN_some e).2]
theorem getN_has {n : ByteArray} {L : List E} : hasN n L = (getN n L).isSome := by
  cases e : getN n L with
  | none => rw [getN_none e]; rfl
  | some x => rw [hasN_iff.2 ⟨x, getN_some e⟩]; rfl
/-- The first one of those in order. -/
theorem Srt.head {f : E} {L : List E} (h : Srt (f :: L)) : (∀ x ∈ L, lt f x) ∧ Srt L ∧ delN f.n (f :: L) = L := by
  have h1 := (List.pairwise_cons.1 h.up).1
  have h2 : Srt L := h.sub (List.sublist_cons_self _ _)
  refine ⟨h1, h2, (h.del _).eq h2 fun x => ?_⟩
  rw [mem_delN]
  constructor
  · rintro ⟨hx, hn⟩
    rcases List.mem_cons.1 hx with rfl | hx
    · exact absurd rfl hn
    · exact hx
  · intro hx
    refine ⟨List.mem_cons_of_mem _ hx, fun e => ?_⟩
    have := h.un x (List.mem_cons_of_mem _ hx) f (by simp) e
    exact lt_irrefl f (this ▸ h1 x hx)
end Go.Proofs.Ytlljfgpmjpmoiaa
