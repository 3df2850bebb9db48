/- Keys, entries, lists of entries by rising keys, common beginnings: plain facts, no program. -/
import Derived.WalkKit
namespace Go.Proofs.Ytpcdmjalfabbmaa
set_option linter.unusedVariables false

abbrev K : Type := List UInt8
/-- A text. -/
def bt (k : K) : ByteArray := ⟨k.toArray⟩
theorem bt_inj {a b : K} (h : bt a = bt b) : a = b := by
  simp only [bt, ByteArray.mk.injEq] at h
  simpa using h
theorem bt_of (n : ByteArray) : bt n.data.toList = n := by cases n; rfl
theorem bt_toList (k : K) : (bt k).toList = k := ByteArray.toList_mk k
theorem bt_size (k : K) : (bt k).size = k.length := by simp [bt, ByteArray.size]
theorem bt_nil : bt [] = ⟨#[]⟩ := rfl
theorem bt_app (a b : K) : bt a ++ bt b = bt (a ++ b) := ByteArray.mk_append_mk a b
theorem bt_drop (a : K) (n : Nat) : (bt a).extract n (bt a).size = bt (a.drop n) := by
  unfold bt
  rw [ByteArray.extract_mk]
  congr 2
  rw [List.take_of_length_le]
  simp [ByteArray.size]
theorem bt_take (a : K) (n : Nat) : (bt a).extract 0 n = bt (a.take n) := by
  unfold bt
  rw [ByteArray.extract_mk]
  simp
/-- An entry: a key with a value. -/
structure E where
  k : K
  v : ByteArray
theorem E.ext' {a b : E} (h1 : a.k = b.k) (h2 : a.v = b.v) : a = b := by cases a; cases b; simp_all
theorem k_lt_irrefl (a : K) : ¬ a < a := List.lt_irrefl a
theorem k_lt_trans {a b c : K} (h : a < b) (k : b < c) : a < c := List.lt_trans h k
theorem k_lt_asymm {a b : K} (h : a < b) : ¬ b < a := fun k => k_lt_irrefl a (k_lt_trans h k)
theorem k_tri (a b : K) : a < b ∨ a = b ∨ b < a := by
  by_cases h : a < b
  · exact .inl h
  · have h5 : b ≤ a := h
    rcases List.le_iff_lt_or_eq.1 h5 with h6 | h6
    · exact .inr (.inr h6)
    · exact .inr (.inl h6.symm)
/-- By rising keys, each once. -/
def Srt (L : List E) : Prop := L.Pairwise fun a b => a.k < b.k
theorem Srt.nil : Srt [] := List.Pairwise.nil
theorem Srt.sub {L M : List E} (h : Srt L) (hs : M.Sublist L) : Srt M := List.Pairwise.sublist hs h
theorem Srt.nodup {L : List E} (h : Srt L) : L.Nodup := List.nodup_iff_pairwise_ne.2 (h.imp fun {a b} hl (e : a = b) => k_lt_irrefl a.k (by rw [← e] at hl; exact hl))
theorem Srt.un {L : List E} (h : Srt L) {x y : E} (hx : x ∈ L) (hy : y ∈ L) (e : x.k = y.k) : x = y := by
  induction L with
  | nil => simp at hx
  | cons a r ih =>
    obtain ⟨h1, h2⟩ := List.pairwise_cons.1 h
    rcases List.mem_cons.1 hx with rfl | hx'
    · rcases List.mem_cons.1 hy with rfl | hy'
      · rfl
      · exact absurd (e ▸ h1 y hy') (k_lt_irrefl _)
    · rcases List.mem_cons.1 hy with rfl | hy'
      · exact absurd (e ▸ h1 x hx') (k_lt_irrefl _)
      · exact ih h2 hx' hy'
theorem Srt.eq {L M : List E} (h : Srt L) (k : Srt M) (hm : ∀ x, x ∈ L ↔ x ∈ M) : L = M :=
  List.Perm.eq_of_pairwise (fun a b _ _ h1 h2 => absurd h2 (k_lt_asymm h1)) h k ((List.perm_ext_iff_of_nodup h.nodup k.nodup).2 hm)
/-- Without a key. -/
def delE (k : K) (L : List E) : List E := L.filter fun x => !decide (x.k = k)
/-- With an entry in its place. -/
def putE (e : E) (L : List E) : List E := (L.filter fun x => decide (x.k < e.k)) ++ e :: (L.filter fun x => decide (e.k < x.k))
theorem mem_delE {k : K} {L : List E} {x : E} : x ∈ delE k L ↔ x ∈ L ∧ x.k ≠ k := by simp [delE]
theorem mem_putE {e : E} {L : List E} {x : E} : x ∈ putE e L ↔ x = e ∨ (x ∈ L ∧ x.k ≠ e.k) := by
  simp only [putE, List.mem_append, List.mem_cons, List.mem_filter, decide_eq_true_eq]
  constructor
  · rintro (⟨h1, h2⟩ | h | ⟨h1, h2⟩)
    · exact .inr ⟨h1, fun e' => k_lt_irrefl _ (e' ▸ h2)⟩
    · exact .inl h
    · exact .inr ⟨h1, fun e' => k_lt_irrefl _ (e' ▸ h2)⟩
  · rintro (h | ⟨h, hn⟩)
    · exact .inr (.inl h)
    · rcases k_tri x.k e.k with h1 | h1 | h1
      · exact .inl ⟨h, h1⟩
      · exact absurd h1 hn
      · exact .inr (.inr ⟨h, h1⟩)
theorem Srt.del {L : List E} (h : Srt L) (k : K) : Srt (delE k L) := h.sub List.filter_sublist
theorem Srt.put {L : List E} (h : Srt L) (e : E) : Srt (putE e L) := by
  unfold putE
  refine List.pairwise_append.2 ⟨h.sub List.filter_sublist, List.pairwise_cons.2 ⟨fun y hy => by simpa using (List.mem_filter.1 hy).2, h.sub List.filter_sublist⟩, fun y hy z hz => ?_⟩
  have h1 : y.k < e.k := by simpa using (List.mem_filter.1 hy).2
  rcases List.mem_cons.1 hz with rfl | hz
  · exact h1
  · exact k_lt_trans h1 (by simpa using (List.mem_filter.1 hz).2)
theorem len_mem {α : Type} {L M : List α} (h1 : L.Nodup) (h2 : M.Nodup) (hm : ∀ x, x ∈ L ↔ x ∈ M) : L.length = M.length := ((List.perm_ext_iff_of_nodup h1 h2).2 hm).length_eq
theorem putE_len {L : List E} (h : Srt L) (e : E) : (putE e L).length = (delE e.k L).length + 1 := by
  have h1 : (e :: delE e.k L).Nodup := List.nodup_cons.2 ⟨fun hc => (mem_delE.1 hc).2 rfl, (h.del _).nodup⟩
  have := len_mem (h.put e).nodup h1 (fun x => by rw [mem_putE, List.mem_cons, mem_delE])
  simpa using this
theorem delE_le (k : K) (L : List E) : (delE k L).length ≤ L.length := List.length_filter_le _ _
theorem putE_le {L : List E} (h : Srt L) (e : E) : (putE e L).length ≤ L.length + 1 := by
  rw [putE_len h]
  have := delE_le e.k L
  omega
/-- A key's value. -/
def gt (L : List E) (k : K) : Option ByteArray := (L.find? fun x => decide (x.k = k)).map E.v
theorem gt_some {L : List E} {k : K} {v : ByteArray} (h : gt L k = some v) : (⟨k, v⟩ : E) ∈ L := by
  simp only [gt, Option.map_eq_some_iff] at h
  obtain ⟨x, hx, rfl⟩ := h
  have h1 := List.mem_of_find?_eq_some hx
  have h2 : x.k = k := by simpa using List.find?_some hx
  subst h2
  exact h1
theorem gt_none {L : List E} {k : K} (h : gt L k = none) : ∀ x ∈ L, x.k ≠ k := by
  simp only [gt, Option.map_eq_none_iff] at h
  intro x hx
  simpa using List.find?_eq_none.1 h x hx
theorem Srt.gt {L : List E} (h : Srt L) {x : E} (hx : x ∈ L) : gt L x.k = some x.v := by
  cases e : Ytpcdmjalfabbmaa.gt L x.k with
  | none => exact absurd rfl (gt_none e x hx)
  | some v => rw [h.un hx (gt_some e) rfl]
theorem Srt.gt_iff {L : List E} (h : Srt L) {k : K} {v : ByteArray} : Ytpcdmjalfabbmaa.gt L k = some v ↔ (⟨k, v⟩ : E) ∈ L := ⟨gt_some, fun hx => h.gt hx⟩
theorem gt_put {L : List E} (h : Srt L) (e : E) (k : K) : gt (putE e L) k = if k = e.k then some e.v else gt L k := by
  by_cases hk : k = e.k
  · subst hk
    simp only [if_pos]
    exact (h.put e).gt (mem_putE.2 (.inl rfl))
  · simp only [hk, if_false]
    cases h1 : gt L k with
    | none =>
      cases h2 : gt (putE e L) k with
      | none => rfl
      | some v =>
        rcases mem_putE.1 (gt_some h2) with h3 | ⟨h3, _⟩
        · exact absurd (congrArg E.k h3) hk
        · exact absurd rfl (gt_none h1 _ h3)
    | some v => exact (h.put e).gt_iff.2 (mem_putE.2 (.inr ⟨gt_some h1, hk⟩))
theorem gt_del {L : List E} (h : Srt L) (j k : K) : gt (delE j L) k = if k = j then none else gt L k := by
  by_cases hk : k = j
  · subst hk
    simp only [if_pos]
    cases h2 : gt (delE k L) k with
    | none => rfl
    | some v => exact absurd rfl (mem_delE.1 (gt_some h2)).2
  · simp only [hk, if_false]
    cases h1 : gt L k with
    | none =>
      cases h2 : gt (delE j L) k with
      | none => rfl
      | some v => exact absurd rfl (gt_none h1 _ (mem_delE.1 (gt_some h2)).1)
    | some v => exact (h.del j).gt_iff.2 (mem_delE.2 ⟨gt_some h1, hk⟩)
theorem gt_has {L : List E} {k : K} : (gt L k).isSome = true ↔ ∃ x ∈ L, x.k = k := by
  constructor
  · intro h
    obtain ⟨v, hv⟩ := Option.isSome_iff_exists.1 h
    exact ⟨_, gt_some hv, rfl⟩
  · rintro ⟨x, hx, rfl⟩
    cases h : gt L x.k with
    | none => exact absurd rfl (gt_none h x hx)
    | some _ => rfl
theorem delE_len {L : List E} (h : Srt L) (k : K) : (delE k L).length + (if (gt L k).isSome then 1 else 0) = L.length := by
  cases hg : gt L k with
  | none =>
    have : delE k L = L := List.filter_eq_self.2 fun x hx => by simp [gt_none hg x hx]
    simp [this]
  | some v =>
    have h1 : ((⟨k, v⟩ : E) :: delE k L).Nodup := List.nodup_cons.2 ⟨fun hc => (mem_delE.1 hc).2 rfl, (h.del _).nodup⟩
    have := len_mem h1 h.nodup fun x => by
      rw [List.mem_cons, mem_delE]
      constructor
      · rintro (rfl | ⟨hx, _⟩)
        · exact gt_some hg
        · exact hx
      · intro hx
        by_cases hk : x.k = k
        · exact .inl (h.un hx (gt_some hg) hk)
        · exact .inr ⟨hx, hk⟩
    simp at this ⊢
    omega
theorem delE_not {L : List E} {k : K} (h : gt L k = none) : delE k L = L := List.filter_eq_self.2 fun x hx => by simp [gt_none h x hx]

/-- What two keys have in common at their beginning. -/
def lcp : K → K → K
  | a :: x, b :: y => if a = b then a :: lcp x y else []
  | [], _ => []
  | _ :: _, [] => []
theorem lcp_l : ∀ (a b : K), lcp a b <+: a
  | [], b => by simp [lcp]
  | _ :: _, [] => by simp [lcp]
  | a :: x, b :: y => by
    simp only [lcp]
    split
    · exact List.cons_prefix_cons.2 ⟨rfl, lcp_l x y⟩
    · exact List.nil_prefix
theorem lcp_r : ∀ (a b : K), lcp a b <+: b
  | [], b => by simp [lcp]
  | _ :: _, [] => by simp [lcp]
  | a :: x, b :: y => by
    simp only [lcp]
    split
    · rename_i h; exact List.cons_prefix_cons.2 ⟨h, lcp_r x y⟩
    · exact List.nil_prefix
theorem lcp_max : ∀ {a b c : K}, c <+: a → c <+: b → c <+: lcp a b
  | _, _, [], _, _ => List.nil_prefix
  | [], _, c :: z, h, _ => by simp at h
  | _ :: _, [], c :: z, _, h => by simp at h
  | a :: x, b :: y, c :: z, h, k => by
    obtain ⟨h1, h2⟩ := List.cons_prefix_cons.1 h
    obtain ⟨k1, k2⟩ := List.cons_prefix_cons.1 k
    subst h1; subst k1
    simp only [lcp, if_pos]
    exact List.cons_prefix_cons.2 ⟨rfl, lcp_max h2 k2⟩
theorem pre_anti {a b : K} (h : a <+: b) (k : b <+: a) : a = b := h.eq_of_length (Nat.le_antisymm h.length_le k.length_le)
theorem pre_lin {a b c : K} (h : a <+: c) (k : b <+: c) : a <+: b ∨ b <+: a := List.prefix_or_prefix_of_prefix h k
theorem lcp_eq {a b m : K} (h1 : m <+: a) (h2 : m <+: b) (h3 : ∀ c, c <+: a → c <+: b → c <+: m) : lcp a b = m := pre_anti (h3 _ (lcp_l a b) (lcp_r a b)) (lcp_max h1 h2)
theorem lcp_comm (a b : K) : lcp a b = lcp b a := lcp_eq (lcp_r b a) (lcp_l b a) fun c h k => lcp_max k h
theorem lcp_self (a : K) : lcp a a = a := lcp_eq List.prefix_rfl List.prefix_rfl fun c h _ => h
theorem lcp_pre {a b : K} (h : a <+: b) : lcp a b = a := lcp_eq List.prefix_rfl h fun c h _ => h
theorem pre_strict {p q : K} (h : p <+: q) (hn : p ≠ q) : ∃ c l, q = p ++ c :: l := by
  obtain ⟨t, rfl⟩ := h
  cases t with
  | nil => simp at hn
  | cons c l => exact ⟨c, l, rfl⟩
theorem pre_len_lt {p q : K} (h : p <+: q) (hn : p ≠ q) : p.length < q.length := by
  obtain ⟨c, l, rfl⟩ := pre_strict h hn
  simp
theorem snoc_pre (p : K) (c : UInt8) (l : K) : p ++ [c] <+: p ++ c :: l := ⟨l, by simp⟩
/-- Of two that begin one, the longer one begins with the shorter one's next sign. -/
theorem pre_next {p q : K} {c : UInt8} {l : K} (h : p <+: q) (hn : p ≠ q) (hq : q <+: p ++ c :: l) : p ++ [c] <+: q := by
  rcases pre_lin hq (snoc_pre p c l) with h1 | h1
  · have h2 := h1.length_le
    have h3 := pre_len_lt h hn
    simp at h2
    rw [h1.eq_of_length (by simp; omega)]
    exact List.prefix_rfl
  · exact h1
theorem snoc_inj {p k : K} {c d : UInt8} (h : p ++ [c] <+: k) (h' : p ++ [d] <+: k) : c = d := by
  obtain ⟨t, rfl⟩ := h
  obtain ⟨u, hu⟩ := h'
  simp at hu
  exact hu.1.symm
theorem snoc_ne {p q : K} {c : UInt8} (h : p ++ [c] <+: q) : p <+: q ∧ p ≠ q := by
  obtain ⟨t, rfl⟩ := h
  exact ⟨⟨c :: t, by simp⟩, by simp⟩
/-- Where one goes off, what it has in common with whatever the other begins is the same. -/
theorem lcp_off {k a b : K} (h : k <+: a) (hn : ¬ k <+: b) : lcp a b = lcp k b := by
  refine lcp_eq ((lcp_l k b).trans h) (lcp_r k b) fun c h1 h2 => ?_
  rcases pre_lin h1 h with h3 | h3
  · exact lcp_max h3 h2
  · exact absurd (h3.trans h2) hn
end Go.Proofs.Ytpcdmjalfabbmaa
