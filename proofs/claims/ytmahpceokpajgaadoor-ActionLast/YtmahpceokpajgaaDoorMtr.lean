/- Places of a trie: kids, and what becomes of them when a place is added, parted, taken away: plain facts, no program. -/
import Derived.Test.YtmahpceokpajgaaDoorOrd
import Derived.Test.YtmahpceokpajgaaDoorBase
import Derived.Lib.BufferWrite
import Derived.Lib.UnsafeStr
import Derived.Laws.MakeOwn
namespace Go.Proofs.YtmahpceokpajgaaDoor
set_option linter.unusedVariables false

/-- q is a kid of p. -/
structure Kid (P : List K) (p q : K) : Prop where
  up : p ∈ P
  lo : q ∈ P
  pre : p <+: q
  ne : p ≠ q
  btw : ∀ r ∈ P, p <+: r → r <+: q → r = p ∨ r = q
/-- What two places have in common is a place. -/
def Cl (P : List K) : Prop := ∀ p ∈ P, ∀ q ∈ P, lcp p q ∈ P
theorem kid_ex {P : List K} {p : K} {c : UInt8} (hp : p ∈ P) : ∀ (n : Nat) {q : K}, q.length ≤ n → q ∈ P → p ++ [c] <+: q → ∃ k, Kid P p k ∧ p ++ [c] <+: k ∧ k <+: q
  | 0, q, hn, hq, h => by
    have := h.length_le
    simp at this
    omega
  | n + 1, q, hn, hq, h => by
    obtain ⟨h1, h2⟩ := snoc_ne h
    by_cases hb : ∀ r ∈ P, p <+: r → r <+: q → r = p ∨ r = q
    · exact ⟨q, ⟨hp, hq, h1, h2, hb⟩, h, List.prefix_rfl⟩
    · have ⟨r, hr⟩ := Classical.not_forall.1 hb
      simp only [Classical.not_imp, not_or] at hr
      obtain ⟨hrP, hpr, hrq, hne1, hne2⟩ := hr
      obtain ⟨t, rfl⟩ := h
      have hs : p ++ [c] <+: r := pre_next (l := t) hpr (Ne.symm hne1) (by simpa using hrq)
      have hl := pre_len_lt hrq hne2
      obtain ⟨k, k1, k2, k3⟩ := kid_ex hp n (by omega) hrP hs
      exact ⟨k, k1, k2, k3.trans hrq⟩
theorem Kid.un {P : List K} (hc : Cl P) {p k k' : K} {c : UInt8} (h : Kid P p k) (h' : Kid P p k') (e : p ++ [c] <+: k) (e' : p ++ [c] <+: k') : k = k' := by
  have h1 := hc k h.lo k' h'.lo
  have h2 : p ++ [c] <+: lcp k k' := lcp_max e e'
  obtain ⟨h3, h4⟩ := snoc_ne h2
  rcases h.btw _ h1 h3 (lcp_l k k') with h5 | h5
  · exact absurd h5.symm h4
  · rcases h'.btw _ h1 h3 (lcp_r k k') with h6 | h6
    · exact absurd h6.symm h4
    · exact h5.symm.trans h6
theorem Kid.step {P : List K} {p k : K} (h : Kid P p k) : ∃ c l, k = p ++ c :: l := pre_strict h.pre h.ne
theorem Kid.one {P : List K} {p p' k : K} (h : Kid P p k) (h' : Kid P p' k) : p = p' := by
  rcases pre_lin h.pre h'.pre with h1 | h1
  · rcases h.btw p' h'.up h1 h'.pre with h2 | h2
    · exact h2.symm
    · exact absurd h2 h'.ne
  · rcases h'.btw p h.up h1 h.pre with h2 | h2
    · exact h2
    · exact absurd h2 h.ne
/-- Where nothing begins a key's rest, what is added. -/
structure AddK (P : List K) (p k : K) (c : UInt8) : Prop where
  up : p ∈ P
  pre : p ++ [c] <+: k
  no : ∀ q ∈ P, ¬ p ++ [c] <+: q
section
variable {P : List K} {p k : K} {c : UInt8}
theorem AddK.new (h : AddK P p k c) : k ∉ P := fun hk => h.no k hk h.pre
theorem AddK.cl (h : AddK P p k c) (hc : Cl P) : Cl (k :: P) := by
  have key : ∀ q ∈ P, lcp k q ∈ P := fun q hq => by
    have : lcp k q = lcp p q := by
      refine lcp_eq ((lcp_l p q).trans (snoc_ne h.pre).1) (lcp_r p q) fun x h1 h2 => lcp_max ?_ h2
      rcases pre_lin h1 h.pre with h3 | h3
      · by_cases e : x = p ++ [c]
        · exact absurd (e ▸ h2) (h.no q hq)
        · have := pre_len_lt h3 e
          rcases pre_lin h3 (List.prefix_append p [c]) with h4 | h4
          · exact h4
          · have h5 := h4.length_le
            simp at this
            rw [h4.eq_of_length (by omega)]
            exact List.prefix_rfl
      · exact absurd (h3.trans h2) (h.no q hq)
    rw [this]
    exact hc p h.up q hq
  intro a ha b hb
  rcases List.mem_cons.1 ha with rfl | ha'
  · rcases List.mem_cons.1 hb with rfl | hb'
    · rw [lcp_self]; simp
    · exact List.mem_cons_of_mem _ (key b hb')
  · rcases List.mem_cons.1 hb with rfl | hb'
    · rw [lcp_comm]; exact List.mem_cons_of_mem _ (key a ha')
    · exact List.mem_cons_of_mem _ (hc a ha' b hb')
theorem AddK.kid (h : AddK P p k c) {a b : K} : Kid (k :: P) a b ↔ Kid P a b ∨ (a = p ∧ b = k) := by
  have hpk := snoc_ne h.pre
  constructor
  · intro hK
    have hak : a ≠ k := by
      rintro rfl
      rcases List.mem_cons.1 hK.lo with e | hb
      · exact hK.ne e.symm
      · exact h.no b hb (h.pre.trans hK.pre)
    have ha : a ∈ P := by
      rcases List.mem_cons.1 hK.up with e | ha
      · exact absurd e hak
      · exact ha
    rcases List.mem_cons.1 hK.lo with rfl | hb
    · refine .inr ⟨?_, rfl⟩
      rcases pre_lin hK.pre hpk.1 with h1 | h1
      · rcases hK.btw p (List.mem_cons_of_mem _ h.up) h1 hpk.1 with h2 | h2
        · exact h2.symm
        · exact absurd h2 hpk.2
      · by_cases e : p = a
        · exact e.symm
        · exfalso
          obtain ⟨t, ht⟩ := h.pre
          exact h.no a ha (pre_next h1 e (l := t) (by rw [← List.singleton_append, ← List.append_assoc, ht]; exact hK.pre))
    · exact .inl ⟨ha, hb, hK.pre, hK.ne, fun r hr => hK.btw r (List.mem_cons_of_mem _ hr)⟩
  · rintro (hK | ⟨rfl, rfl⟩)
    · refine ⟨List.mem_cons_of_mem _ hK.up, List.mem_cons_of_mem _ hK.lo, hK.pre, hK.ne, fun r hr h1 h2 => ?_⟩
      rcases List.mem_cons.1 hr with rfl | hr
      · exact absurd (h.pre.trans h2) (h.no b hK.lo)
      · exact hK.btw r hr h1 h2
    · refine ⟨List.mem_cons_of_mem _ h.up, by simp, hpk.1, hpk.2, fun r hr h1 h2 => ?_⟩
      rcases List.mem_cons.1 hr with rfl | hr
      · exact .inr rfl
      · by_cases e : a = r
        · exact .inl e.symm
        · obtain ⟨t, ht⟩ := h.pre
          exact absurd (pre_next h1 e (l := t) (by rw [← List.singleton_append, ← List.append_assoc, ht]; exact h2)) (h.no r hr)
end
/-- Where a place is parted: m between p and its kid k. -/
structure Part (P : List K) (p m k : K) : Prop where
  kid : Kid P p k
  lo : p <+: m
  ne : p ≠ m
  hi : m <+: k
  nk : m ≠ k
section
variable {P : List K} {p m k : K}
theorem Part.new (h : Part P p m k) : m ∉ P := fun hm => by
  rcases h.kid.btw m hm h.lo h.hi with e | e
  · exact h.ne e.symm
  · exact h.nk e
/-- What begins with m begins with k. -/
theorem Part.ext (h : Part P p m k) (hc : Cl P) {q : K} (hq : q ∈ P) (hm : m <+: q) : k <+: q := by
  have h1 := hc k h.kid.lo q hq
  have h2 : m <+: lcp k q := lcp_max h.hi hm
  rcases h.kid.btw _ h1 (h.lo.trans h2) (lcp_l k q) with e | e
  · rw [e] at h2
    exact absurd (pre_anti h.lo h2) h.ne
  · have := lcp_r k q
    rwa [e] at this
theorem Part.cl (h : Part P p m k) (hc : Cl P) : Cl (m :: P) := by
  have key : ∀ q ∈ P, lcp m q = m ∨ lcp m q ∈ P := fun q hq => by
    by_cases e : m <+: q
    · exact .inl (lcp_pre e)
    · refine .inr ?_
      rw [← lcp_off h.hi e]
      exact hc k h.kid.lo q hq
  intro a ha b hb
  rcases List.mem_cons.1 ha with rfl | ha'
  · rcases List.mem_cons.1 hb with rfl | hb'
    · rw [lcp_self]; simp
    · rcases key b hb' with e | e
      · rw [e]; simp
      · exact List.mem_cons_of_mem _ e
  · rcases List.mem_cons.1 hb with rfl | hb'
    · rw [lcp_comm]
      rcases key a ha' with e | e
      · rw [e]; simp
      · exact List.mem_cons_of_mem _ e
    · exact List.mem_cons_of_mem _ (hc a ha' b hb')
theorem Part.kid' (h : Part P p m k) (hc : Cl P) {a b : K} : Kid (m :: P) a b ↔ (Kid P a b ∧ ¬ (a = p ∧ b = k)) ∨ (a = p ∧ b = m) ∨ (a = m ∧ b = k) := by
  have hpP := h.kid.up
  have hkP := h.kid.lo
  constructor
  · intro hK
    rcases List.mem_cons.1 hK.up with rfl | ha
    · rcases List.mem_cons.1 hK.lo with e | hb
      · exact absurd e.symm hK.ne
      · refine .inr (.inr ⟨rfl, ?_⟩)
        have h1 := h.ext hc hb hK.pre
        rcases hK.btw k (List.mem_cons_of_mem _ hkP) h.hi h1 with e | e
        · exact absurd e.symm h.nk
        · exact e.symm
    · rcases List.mem_cons.1 hK.lo with rfl | hb
      · refine .inr (.inl ⟨?_, rfl⟩)
        rcases pre_lin hK.pre h.lo with h1 | h1
        · rcases hK.btw p (List.mem_cons_of_mem _ hpP) h1 h.lo with e | e
          · exact e.symm
          · exact absurd e h.ne
        · rcases h.kid.btw a ha h1 (hK.pre.trans h.hi) with e | e
          · exact e
          · exact absurd (pre_anti (e ▸ hK.pre) h.hi).symm h.nk
      · refine .inl ⟨⟨ha, hb, hK.pre, hK.ne, fun r hr => hK.btw r (List.mem_cons_of_mem _ hr)⟩, ?_⟩
        rintro ⟨rfl, rfl⟩
        rcases hK.btw m (by simp) h.lo h.hi with e | e
        · exact h.ne e.symm
        · exact h.nk e
  · rintro (⟨hK, hn⟩ | ⟨rfl, rfl⟩ | ⟨rfl, rfl⟩)
    · refine ⟨List.mem_cons_of_mem _ hK.up, List.mem_cons_of_mem _ hK.lo, hK.pre, hK.ne, fun r hr h1 h2 => ?_⟩
      rcases List.mem_cons.1 hr with rfl | hr
      · exfalso
        have h3 := h.ext hc hK.lo h2
        rcases hK.btw k hkP (h1.trans h.hi) h3 with e | e
        · subst e
          exact absurd (pre_anti h1 h.hi).symm h.nk
        · subst e
          exact hn ⟨Kid.one hK h.kid, rfl⟩
      · exact hK.btw r hr h1 h2
    · refine ⟨List.mem_cons_of_mem _ hpP, by simp, h.lo, h.ne, fun r hr h1 h2 => ?_⟩
      rcases List.mem_cons.1 hr with rfl | hr
      · exact .inr rfl
      · rcases h.kid.btw r hr h1 (h2.trans h.hi) with e | e
        · exact .inl e
        · exact absurd (pre_anti (e ▸ h2) h.hi).symm h.nk
    · refine ⟨by simp, List.mem_cons_of_mem _ hkP, h.hi, h.nk, fun r hr h1 h2 => ?_⟩
      rcases List.mem_cons.1 hr with rfl | hr
      · exact .inl rfl
      · rcases h.kid.btw r hr (h.lo.trans h1) h2 with e | e
        · rw [e] at h1
          exact absurd (pre_anti h.lo h1) h.ne
        · exact .inr e
end
/-- Without a place. -/
def rmv (k : K) (P : List K) : List K := P.filter fun x => !decide (x = k)
theorem mem_rmv {k x : K} {P : List K} : x ∈ rmv k P ↔ x ∈ P ∧ x ≠ k := by simp [rmv]
theorem rmv_nodup {P : List K} (h : P.Nodup) (k : K) : (rmv k P).Nodup := h.sublist List.filter_sublist
theorem rmv_len {P : List K} (h : P.Nodup) {k : K} (hk : k ∈ P) : (rmv k P).length + 1 = P.length := by
  have h1 : (k :: rmv k P).Nodup := List.nodup_cons.2 ⟨fun hc => (mem_rmv.1 hc).2 rfl, rmv_nodup h k⟩
  have := len_mem h1 h fun x => by
    rw [List.mem_cons, mem_rmv]
    constructor
    · rintro (rfl | h)
      · exact hk
      · exact h.1
    · intro hx
      by_cases e : x = k
      · exact .inl e
      · exact .inr ⟨hx, e⟩
  simpa using this
section
variable {P : List K} {p n q : K}
theorem leaf_ext (hn : n ∈ P) (hl : ∀ b, ¬ Kid P n b) {a : K} (ha : a ∈ P) (h : n <+: a) : a = n := by
  by_cases e : n = a
  · exact e.symm
  · obtain ⟨c, l, rfl⟩ := pre_strict h e
    obtain ⟨k, hk, _⟩ := kid_ex hn _ (Nat.le_refl _) ha (snoc_pre n c l)
    exact absurd hk (hl k)
theorem leaf_cl (hc : Cl P) (hn : n ∈ P) (hl : ∀ b, ¬ Kid P n b) : Cl (rmv n P) := fun a ha b hb => by
  rw [mem_rmv] at ha hb ⊢
  refine ⟨hc a ha.1 b hb.1, fun e => ?_⟩
  have h1 := lcp_l a b
  rw [e] at h1
  exact ha.2 (leaf_ext hn hl ha.1 h1)
theorem leaf_kid (hn : n ∈ P) (hl : ∀ b, ¬ Kid P n b) {a b : K} : Kid (rmv n P) a b ↔ Kid P a b ∧ b ≠ n := by
  constructor
  · intro hK
    have ha := mem_rmv.1 hK.up
    have hb := mem_rmv.1 hK.lo
    refine ⟨⟨ha.1, hb.1, hK.pre, hK.ne, fun r hr h1 h2 => ?_⟩, hb.2⟩
    by_cases e : r = n
    · subst e
      exact absurd (leaf_ext hn hl hb.1 h2) hb.2
    · exact hK.btw r (mem_rmv.2 ⟨hr, e⟩) h1 h2
  · rintro ⟨hK, hbn⟩
    have han : a ≠ n := by
      rintro rfl
      exact hl b hK
    exact ⟨mem_rmv.2 ⟨hK.up, han⟩, mem_rmv.2 ⟨hK.lo, hbn⟩, hK.pre, hK.ne, fun r hr => hK.btw r (mem_rmv.1 hr).1⟩
theorem one_ext (hc : Cl P) (hq : Kid P n q) (h1 : ∀ b, Kid P n b → b = q) {a : K} (ha : a ∈ P) (h : n <+: a) (hne : a ≠ n) : q <+: a := by
  obtain ⟨c, l, rfl⟩ := pre_strict h (Ne.symm hne)
  obtain ⟨k, hk, h2, h3⟩ := kid_ex hq.up _ (Nat.le_refl _) ha (snoc_pre n c l)
  rw [← h1 k hk]
  exact h3
theorem one_cl (hc : Cl P) (hq : Kid P n q) (h1 : ∀ b, Kid P n b → b = q) : Cl (rmv n P) := fun a ha b hb => by
  rw [mem_rmv] at ha hb ⊢
  refine ⟨hc a ha.1 b hb.1, fun e => ?_⟩
  have h2 := lcp_l a b
  have h3 := lcp_r a b
  rw [e] at h2 h3
  have h4 := lcp_max (one_ext hc hq h1 ha.1 h2 ha.2) (one_ext hc hq h1 hb.1 h3 hb.2)
  rw [e] at h4
  exact hq.ne (pre_anti hq.pre h4)
theorem one_kid (hc : Cl P) (hq : Kid P n q) (h1 : ∀ b, Kid P n b → b = q) {a b : K} : Kid (rmv n P) a b ↔ (Kid P a b ∧ a ≠ n ∧ b ≠ n) ∨ (Kid P a n ∧ b = q) := by
  constructor
  · intro hK
    have ha := mem_rmv.1 hK.up
    have hb := mem_rmv.1 hK.lo
    by_cases e : a <+: n ∧ n <+: b
    · have h2 := one_ext hc hq h1 hb.1 e.2 hb.2
      refine .inr ⟨⟨ha.1, hq.up, e.1, ha.2, fun r hr k1 k2 => ?_⟩, ?_⟩
      · by_cases er : r = n
        · exact .inr er
        · refine .inl ?_
          rcases hK.btw r (mem_rmv.2 ⟨hr, er⟩) k1 (k2.trans e.2) with h | h
          · exact h
          · subst h
            exact absurd (pre_anti k2 e.2) er
      · rcases hK.btw q (mem_rmv.2 ⟨hq.lo, fun e' => hq.ne e'.symm⟩) (e.1.trans hq.pre) h2 with h | h
        · subst h
          exact absurd (pre_anti hq.pre e.1) hq.ne
        · exact h.symm
    · refine .inl ⟨⟨ha.1, hb.1, hK.pre, hK.ne, fun r hr k1 k2 => ?_⟩, ha.2, hb.2⟩
      by_cases er : r = n
      · subst er; exact absurd ⟨k1, k2⟩ e
      · exact hK.btw r (mem_rmv.2 ⟨hr, er⟩) k1 k2
  · rintro (⟨hK, han, hbn⟩ | ⟨hK, rfl⟩)
    · exact ⟨mem_rmv.2 ⟨hK.up, han⟩, mem_rmv.2 ⟨hK.lo, hbn⟩, hK.pre, hK.ne, fun r hr => hK.btw r (mem_rmv.1 hr).1⟩
    · refine ⟨mem_rmv.2 ⟨hK.up, hK.ne⟩, mem_rmv.2 ⟨hq.lo, hq.ne.symm⟩, hK.pre.trans hq.pre, fun e => ?_, fun r hr k1 k2 => ?_⟩
      · subst e
        exact hq.ne (pre_anti hq.pre hK.pre)
      · obtain ⟨hr, hrn⟩ := mem_rmv.1 hr
        rcases pre_lin k2 hq.pre with h2 | h2
        · rcases hK.btw r hr k1 h2 with h3 | h3
          · exact .inl h3
          · exact absurd h3 hrn
        · rcases hq.btw r hr h2 k2 with h3 | h3
          · exact absurd h3 hrn
          · exact .inr h3
end
/-- The place where a key ends: the last one that begins it. -/
def Top (P : List K) (k p : K) : Prop := p ∈ P ∧ p <+: k ∧ ∀ q ∈ P, q <+: k → q <+: p
theorem Top.un {P : List K} {k p q : K} (h : Top P k p) (h' : Top P k q) : p = q := pre_anti (h'.2.2 p h.1 h.2.1) (h.2.2 q h'.1 h'.2.1)
theorem top_end {P : List K} {k : K} (h : k ∈ P) : Top P k k := ⟨h, List.prefix_rfl, fun q _ h => h⟩
/-- No kid that way. -/
theorem top_none {P : List K} {p : K} {c : UInt8} {l : K} (hp : p ∈ P) (hno : ∀ q, Kid P p q → ¬ p ++ [c] <+: q) : Top P (p ++ c :: l) p ∧ AddK P p (p ++ c :: l) c := by
  have h0 : ∀ q ∈ P, ¬ p ++ [c] <+: q := fun q hq h => by
    obtain ⟨k, h1, h2, _⟩ := kid_ex hp _ (Nat.le_refl _) hq h
    exact hno k h1 h2
  refine ⟨⟨hp, ⟨c :: l, rfl⟩, fun q hq h => ?_⟩, ⟨hp, snoc_pre p c l, h0⟩⟩
  rcases pre_lin h (List.prefix_append p (c :: l)) with h1 | h1
  · exact h1
  · by_cases e : p = q
    · rw [e]; exact List.prefix_rfl
    · exact absurd (pre_next h1 e h) (h0 q hq)
/-- A kid that way, whose label goes off. -/
theorem top_off {P : List K} (hc : Cl P) {p k : K} {c : UInt8} {l : K} (hk : Kid P p k) (hck : p ++ [c] <+: k) (hno : ¬ k <+: p ++ c :: l) : Top P (p ++ c :: l) p := by
  refine ⟨hk.up, ⟨c :: l, rfl⟩, fun q hq h => ?_⟩
  rcases pre_lin h (List.prefix_append p (c :: l)) with h1 | h1
  · exact h1
  · by_cases e : p = q
    · rw [e]; exact List.prefix_rfl
    · have h2 := pre_next h1 e h
      obtain ⟨k', h3, h4, h5⟩ := kid_ex hk.up _ (Nat.le_refl _) hq h2
      rw [← hk.un hc h3 hck h4] at h5
      exact absurd (h5.trans h) hno
/-- Each place is a key, the root, or has two kids. -/
def Tg (P : List K) (key : K → Prop) : Prop := ∀ p ∈ P, p ≠ [] → key p ∨ ∃ q r, Kid P p q ∧ Kid P p r ∧ q ≠ r
/-- Each place is a key, the root, or what two keys have in common. -/
def Cn (P : List K) (key : K → Prop) : Prop := ∀ p ∈ P, p = [] ∨ key p ∨ ∃ a b, key a ∧ key b ∧ lcp a b = p
theorem Cn.ext {P : List K} {key : K → Prop} (h : Cn P key) {p : K} (hp : p ∈ P) (hn : p ≠ []) : ∃ a, key a ∧ p <+: a := by
  rcases h p hp with e | e | ⟨a, b, ha, hb, e⟩
  · exact absurd e hn
  · exact ⟨p, e, List.prefix_rfl⟩
  · exact ⟨a, ha, e ▸ lcp_l a b⟩
theorem Tg.ext {P : List K} {key : K → Prop} (h : Tg P key) : ∀ (n : Nat) {p : K}, (P.filter fun x => decide (p.length < x.length)).length ≤ n → p ∈ P → p ≠ [] → ∃ a, key a ∧ p <+: a
  | n, p, hn, hp, hne => by
    rcases h p hp hne with e | ⟨q, r, hq, hr, _⟩
    · exact ⟨p, e, List.prefix_rfl⟩
    · have h1 := pre_len_lt hq.pre hq.ne
      have h2 : (P.filter fun x => decide (q.length < x.length)).length < (P.filter fun x => decide (p.length < x.length)).length := by
        have hs : (P.filter fun x => decide (q.length < x.length)).Sublist (P.filter fun x => decide (p.length < x.length)) := by
          have : P.filter (fun x => decide (q.length < x.length)) = (P.filter fun x => decide (p.length < x.length)).filter fun x => decide (q.length < x.length) := by
            rw [List.filter_filter]
            refine List.filter_congr fun x _ => ?_
            by_cases hx : q.length < x.length
            · have : p.length < x.length := by omega
              simp [hx, this]
            · simp [hx]
          rw [this]
          exact List.filter_sublist
        refine Nat.lt_of_le_of_ne hs.length_le fun e => ?_
        have h3 := hs.eq_of_length e
        have h4 : q ∈ P.filter fun x => decide (p.length < x.length) := List.mem_filter.2 ⟨hq.lo, by simpa using h1⟩
        rw [← h3] at h4
        have := (List.mem_filter.1 h4).2
        simp at this
      match n, hn with
      | 0, hn => omega
      | n + 1, hn =>
        have hqn : q ≠ [] := by
          rintro rfl
          simp at h1
        obtain ⟨a, ha, hp'⟩ := Tg.ext h n (p := q) (by omega) hq.lo hqn
        exact ⟨a, ha, hq.pre.trans hp'⟩
theorem Kid.snoc {P : List K} {p k : K} (h : Kid P p k) : ∃ c, p ++ [c] <+: k := by
  obtain ⟨c, l, rfl⟩ := h.step
  exact ⟨c, snoc_pre p c l⟩
theorem Tg.cn {P : List K} {key : K → Prop} (hc : Cl P) (h : Tg P key) : Cn P key := fun p hp => by
  by_cases hne : p = []
  · exact .inl hne
  · rcases h p hp hne with e | ⟨q, r, hq, hr, hqr⟩
    · exact .inr (.inl e)
    · have hqn : q ≠ [] := by
        rintro rfl
        exact hne (List.prefix_nil.1 hq.pre)
      have hrn : r ≠ [] := by
        rintro rfl
        exact hne (List.prefix_nil.1 hr.pre)
      obtain ⟨a, ha, h1⟩ := h.ext _ (Nat.le_refl _) hq.lo hqn
      obtain ⟨b, hb, h2⟩ := h.ext _ (Nat.le_refl _) hr.lo hrn
      refine .inr (.inr ⟨a, b, ha, hb, lcp_eq (hq.pre.trans h1) (hr.pre.trans h2) fun x k1 k2 => ?_⟩)
      obtain ⟨c, hcq⟩ := hq.snoc
      obtain ⟨d, hdr⟩ := hr.snoc
      have hcd : c ≠ d := by
        rintro rfl
        exact hqr (hq.un hc hr hcq hdr)
      rcases pre_lin k1 (hq.pre.trans h1) with h3 | h3
      · exact h3
      · by_cases e : p = x
        · rw [e]; exact List.prefix_rfl
        · exfalso
          obtain ⟨t, ht⟩ := hcq.trans h1
          obtain ⟨u, hu⟩ := hdr.trans h2
          have e1 : p ++ [c] <+: x := pre_next (l := t) h3 e (by rw [← List.singleton_append, ← List.append_assoc, ht]; exact k1)
          have e2 : p ++ [d] <+: x := pre_next (l := u) h3 e (by rw [← List.singleton_append, ← List.append_assoc, hu]; exact k2)
          exact hcd (snoc_inj e1 e2)
theorem Cn.tg {P : List K} {key : K → Prop} (hk : ∀ p, key p → p ∈ P) (h : Cn P key) : Tg P key := fun p hp hne => by
  rcases h p hp with e | e | ⟨a, b, ha, hb, e⟩
  · exact absurd e hne
  · exact .inl e
  · by_cases hka : key p
    · exact .inl hka
    · have hpa : p <+: a := e ▸ lcp_l a b
      have hpb : p <+: b := e ▸ lcp_r a b
      have hna : p ≠ a := fun e' => hka (e' ▸ ha)
      have hnb : p ≠ b := fun e' => hka (e' ▸ hb)
      obtain ⟨c, l, ea⟩ := pre_strict hpa hna
      obtain ⟨d, m, eb⟩ := pre_strict hpb hnb
      obtain ⟨q, hq, q1, q2⟩ := kid_ex hp _ (Nat.le_refl _) (hk a ha) (by rw [ea]; exact snoc_pre p c l)
      obtain ⟨r, hr, r1, r2⟩ := kid_ex hp _ (Nat.le_refl _) (hk b hb) (by rw [eb]; exact snoc_pre p d m)
      refine .inr ⟨q, r, hq, hr, fun e' => ?_⟩
      subst e'
      have h4 := lcp_max q2 r2
      rw [e] at h4
      exact hq.ne (pre_anti hq.pre h4)
/-- The places hang on the keys alone. -/
theorem Cn.mem {P : List K} {key : K → Prop} (h0 : [] ∈ P) (hc : Cl P) (hk : ∀ p, key p → p ∈ P) (h : Cn P key) {p : K} : p ∈ P ↔ p = [] ∨ key p ∨ ∃ a b, key a ∧ key b ∧ lcp a b = p := by
  refine ⟨h p, ?_⟩
  rintro (rfl | e | ⟨a, b, ha, hb, rfl⟩)
  · exact h0
  · exact hk p e
  · exact hc a (hk a ha) b (hk b hb)
end Go.Proofs.YtmahpceokpajgaaDoor

/- Texts cloned, a new node. -/
namespace Go.Proofs.YtmahpceokpajgaaDoor
open Go.RowKit Go.IntWalk Go.Maps
set_option linter.unusedVariables false
theorem Tryd.info5 : (Tryd.prog.info? 5).map (fun i => (i.zero, i.size, i.bytes)) = some (some (.int .u8 0), 1, 1) := by kernel_rfl
theorem below_grown {w w' : World} (h : Below w.heap.size w w') : w.grownBy w' none := ⟨h.os, h.tape, h.output, h.size, fun k hk _ => h.block k hk⟩
set_option maxRecDepth 100000 in
set_option maxHeartbeats 1000000 in
/-- internal/stringslite.Clone: the same text; what it makes is new. -/
theorem slclone_any (w : World) (k : K) (hk : k.length ≤ 1000000) : Calls Tryd.prog 63 #[.string (bt k)] w fun r w' => r = .returned (.string (bt k)) ∧ w.grownBy w' none := by
  cases k with
  | nil =>
    rw [bt_nil]
    go_enter Tryd.func63, Tryd.ntmps63
    go_wp2
    go_ret
    exact ⟨rfl, grown_refl w⟩
  | cons c l =>
    obtain ⟨i0, hi, hz0, hz1, hz2⟩ := info_parts Tryd.info5
    have hl : (bt (c :: l)).size = l.length + 1 := by rw [bt_size]; rfl
    generalize hs : bt (c :: l) = s at *
    obtain ⟨M, hM⟩ : ∃ M, M = madeCells (Value.int .u8 0).cells ((((l.length : Nat) : Int) + 1).toNat * i0.size) := ⟨_, rfl⟩
    have hMl : M.size = l.length + 1 := by rw [hM, size_madeCells, hz1]; simp
    have m1 : ∀ W : World, (Instr.makeSlice 23 (.int .i64 ((l.length : Int) + 1)) (.int .i64 ((l.length : Int) + 1))).run Tryd.prog W = .ok (.slice (some ⟨W.heap.size, 0, none⟩) (l.length + 1) (l.length + 1)) (W.alloc (.cells M 5)) := fun W => by
      have h := run_make (P := Tryd.prog) W 23 5 i0 (.int .u8 0) Tryd.underlying23 hi hz0 .i64 .i64 ((l.length : Int) + 1) ((l.length : Int) + 1) (by omega) (by omega) (by rw [hz2]; simp at hk; omega) (by simp at hk; omega)
      rw [← hM] at h
      exact h
    have b1 := heap_alloc_new w (.cells M 5)
    have m2 := Lib.run_copy_row_string (P := Tryd.prog) (w.alloc (.cells M 5)) 23 9 3 5 w.heap.size 0 (l.length + 1) (l.length + 1) s M 5 Tryd.underlying23 (by rw [hi]; simp [hz1]) b1 (by omega) (by omega)
    rw [hl] at m2
    obtain ⟨Y, hY⟩ : ∃ Y, Y = (M.toList.take 0 ++ Lib.byteCells s.data.toList ++ M.toList.drop (0 + (l.length + 1))).toArray := ⟨_, rfl⟩
    rw [← hY] at m2
    have hsd : s.data.toList = c :: l := by rw [← hs]; rfl
    have hYl : Y.toList = Lib.byteCells (c :: l) := by
      rw [hY, hsd]
      simp [List.drop_of_length_le, hMl]
    have b2 : ((w.alloc (.cells M 5)).setRow w.heap.size Y).heap[w.heap.size]? = some (.cells Y 5 (0, 0)) := setRow_heap _ _ M _ 5 (0, 0) b1
    have m3 := Lib.run_unsafeString_row (P := Tryd.prog) ((w.alloc (.cells M 5)).setRow w.heap.size Y) 135 3 9 5 Tryd.underlying135 (by kernel_rfl) w.heap.size Y.size (by unfold World.shape?; rw [b2]) (c :: l) (by simp) (by rw [← Array.length_toList, hYl, Lib.byteCells_length]; exact Nat.le_refl _) (by omega)
      (fun j x hx => by
        rw [addr_add, Nat.zero_add]
        simp only [World.cell?, b2]
        rw [← Array.getElem?_toList, hYl, Lib.byteCells, List.getElem?_map, hx]
        rfl)
    have hs2 : (⟨(c :: l).toArray⟩ : ByteArray) = s := hs
    rw [hs2] at m3
    rw [show (((c :: l).length : Nat) : Int) = (l.length : Int) + 1 by simp] at m3
    clear hY hM hsd hYl hs hs2
    go_enter Tryd.func63, Tryd.ntmps63
    go_wp2
    go_ret
    have g1 : Below w.heap.size w (w.alloc (.cells M 5)) := (Below.refl _ w).alloc (Nat.le_refl _) _
    have g2 : Below w.heap.size (w.alloc (.cells M 5)) ((w.alloc (.cells M 5)).setRow w.heap.size Y) := ⟨rfl, rfl, rfl, by simp, fun k hk => setRow_other _ _ _ _ (by omega)⟩
    exact ⟨rfl, below_grown (Lib.below_freeze (g1.trans g2) (p := ⟨w.heap.size, 0, none⟩) (Nat.le_refl _) _)⟩
set_option maxRecDepth 100000 in
set_option maxHeartbeats 1000000 in
/-- strings.Clone. -/
theorem clone_any (w : World) (k : K) (hk : k.length ≤ 1000000) : Calls Tryd.prog 45 #[.string (bt k)] w fun r w' => r = .returned (.string (bt k)) ∧ w.grownBy w' none := by
  go_enter Tryd.func45, Tryd.ntmps45
  go_wp2_with fail
  refine (slclone_any w k hk).mono ?_
  rintro r w1 ⟨rfl, hg⟩
  go_wp2
  go_ret
  exact ⟨rfl, hg⟩
set_option maxRecDepth 100000 in
set_option maxHeartbeats 1000000 in
/-- newNode. -/
theorem node_any (w : World) (k : K) (hk : k.length ≤ 1000000) : Calls Tryd.prog 34 #[.string (bt k)] w fun r w' => ∃ nb mb, r = .returned (ptr nb) ∧ w.heap.size ≤ mb ∧ w.heap.size ≤ nb ∧ w'.heap[mb]? = some (.map #[] 0) ∧ w'.heap[nb]? = some (.cells #[.string (bt k), .string (bt []), .bool false, .map (some mb)] 82 (0, 0)) ∧ w.grownBy w' none := by
  have hmm := @run_makeMap Tryd.prog
  go_enter Tryd.func34, Tryd.ntmps34
  go_wp2_with fail
  refine (clone_any w k hk).mono ?_
  rintro r w1 ⟨rfl, hg⟩
  go_wp2
  go_ret
  have hs := hg.size
  have b1 := heap_alloc_new w1 (Obj.map #[] 0)
  generalize ho : Obj.cells #[Value.string (bt k), Value.string { data := #[] }, Value.bool false, Value.map (some w1.heap.size)] 82 = o
  have b2 := heap_alloc_new (w1.alloc (Obj.map #[] 0)) o
  have g1 := World.grownBy_alloc w1 (Obj.map #[] 0) none
  have g2 := World.grownBy_alloc (w1.alloc (Obj.map #[] 0)) o none
  refine ⟨w1.heap.size + 1, w1.heap.size, rfl, by omega, by omega, ?_, ?_, grown_none (grown_none hg g1) g2⟩
  · rw [g2.block w1.heap.size (by simp) (by simp)]; exact b1
  · rw [bt_nil, ho]; simpa using b2
theorem take_step {a b : K} {n : Nat} (h : a.take n = b.take n) (e : a[n]? = b[n]?) : a.take (n + 1) = b.take (n + 1) := by
  rw [List.take_add_one, List.take_add_one, h, e]
/-- .. told by its length. -/
theorem lcp_len {a b : K} {n : Nat} (h : a.take n = b.take n) (ha : n ≤ a.length) (hb : n ≤ b.length) (hn : n = a.length ∨ n = b.length ∨ a[n]? ≠ b[n]?) : lcp a b = a.take n := by
  refine lcp_eq (List.take_prefix n a) (h ▸ List.take_prefix n b) fun c h1 h2 => ?_
  have e1 := List.prefix_iff_eq_take.1 h1
  have e2 := List.prefix_iff_eq_take.1 h2
  have hc : c.length ≤ n := by
    rcases hn with e | e | e
    · have := h1.length_le; omega
    · have := h2.length_le; omega
    · refine Nat.le_of_not_lt fun hlt => e ?_
      have l1 := h1.length_le
      have l2 := h2.length_le
      have q1 : c[n]? = a[n]? := by rw [e1, List.getElem?_take, if_pos hlt]
      have q2 : c[n]? = b[n]? := by rw [e2, List.getElem?_take, if_pos hlt]
      exact q1.symm.trans q2
  rw [e1]
  exact (List.take_prefix_take_left hc)
theorem idx_bt (W : World) (k : K) (i : Nat) {c : UInt8} (h : k[i]? = some c) : (Instr.index 9 (.string (bt k)) (.int .i64 i)).run Tryd.prog W = .ok (.int .u8 c.toNat) W := by
  have hl := (List.getElem?_eq_some_iff.1 h)
  obtain ⟨h1, rfl⟩ := hl
  rw [run_index_string _ _ _ _ _ Tryd.underlying9]
  have hi : (0 : Int) ≤ (i : Int) ∧ (i : Int) < (bt k).size := ⟨by omega, by rw [bt_size]; omega⟩
  rw [dif_pos hi]
  simp [bt]
  rfl
theorem get_bt {k : K} {i : Nat} {c : UInt8} (h : k[i]? = some c) : ∀ hi : i < (bt k).size, (bt k)[i]'hi = c := fun hi => by
  obtain ⟨h1, rfl⟩ := List.getElem?_eq_some_iff.1 h
  rfl
theorem len_bt (W : World) (k : K) (ty : TypeId) : (Builtin.len_ #[9] ty #[.string (bt k)]).run Tryd.prog W = .ok (.int .i64 k.length) W := by
  rw [run_len_string _ _ _ _ Tryd.underlying9, bt_size]
  rfl
theorem u8_beq (c d : UInt8) : ((c.toNat : Int) == (d.toNat : Int)) = decide (c = d) := by
  rw [Bool.eq_iff_iff]
  simp only [beq_iff_eq, decide_eq_true_eq]
  exact ⟨fun h => UInt8.toNat_inj.1 (by omega), fun h => by rw [h]⟩
set_option maxRecDepth 100000 in
set_option maxHeartbeats 1000000 in
/-- common. -/
theorem common_any (w : World) (a b : K) (ha : a.length ≤ 1000000) (hb : b.length ≤ 1000000) : Calls Tryd.prog 80 #[.string (bt a), .string (bt b)] w fun r w' => r = .returned (.int .i64 (lcp a b).length) ∧ w.grownBy w' none := by
  obtain ⟨m, hm⟩ : ∃ m : Nat, m = min a.length b.length := ⟨_, rfl⟩
  have sa := bt_size a
  have sb := bt_size b
  have hM : (if b.length < a.length then (b.length : Int) else (a.length : Int)) = m := by subst hm; split <;> omega
  have hml : Hid (m ≤ a.length ∧ m ≤ b.length ∧ (m = a.length ∨ m = b.length)) := ⟨by omega⟩
  clear hm
  obtain ⟨R, hR⟩ : ∃ R : Nat, Hid ((lcp a b).length = R) := ⟨_, ⟨rfl⟩⟩
  rw [hR.out]
  have e8 := u8_beq
  go_enter Tryd.func80, Tryd.ntmps80
  go_wp2_with fail
  go_loopw [13] (fun i wr => ∃ k : Nat, Hid (k ≤ m) ∧ i = .int .i64 k ∧ Hid (a.take k = b.take k) ∧ w.grownBy wr none)
    (fun i _ => m - (intOf i).toNat)
  case atStart => exact ⟨0, ⟨by omega⟩, rfl, ⟨by simp⟩, grown_refl w⟩
  case round =>
    obtain ⟨k, hk, rfl, hT, hg⟩ := hrel
    by_cases hlt : k < m
    · have hd : decide ((k : Int) < m) = true := by simp; omega
      obtain ⟨x, hx⟩ : ∃ x, a[k]? = some x := ⟨_, List.getElem?_eq_getElem (by have := hml.out; omega)⟩
      obtain ⟨y, hy⟩ : ∃ y, b[k]? = some y := ⟨_, List.getElem?_eq_getElem (by have := hml.out; omega)⟩
      haveI := lat_nonempty wr
      have ix := get_bt hx
      have iy := get_bt hy
      have ka : k < a.length := by have := hml.out; omega
      have kb : k < b.length := by have := hml.out; omega
      have hdn : decide (k < m) = true := by simpa using hlt
      replace hx : Hid _ := ⟨hx⟩
      replace hy : Hid _ := ⟨hy⟩
      replace hlt : Hid _ := ⟨hlt⟩
      by_cases hxy : x = y
      · have hq : ((x.toNat : Int) == (y.toNat : Int)) = true := by rw [u8_beq]; simpa using hxy
        have hq2 : ((x.toNat : Int) != (y.toNat : Int)) = false := by rw [bne, hq]; rfl
        have hT2 : Hid (a.take (k + 1) = b.take (k + 1)) := ⟨take_step hT.out (by rw [hx.out, hy.out, hxy])⟩
        clear hxy
        go_wp2_with fail
        refine wp_region_lat (by kernel_rfl) (by kernel_rfl) ?_
        repeat (go_big_quiet_step (fail))
        refine wpQuiet_nil ?_
        intro _ hw'
        obtain ⟨p, hw''⟩ := hw'
        subst hw''
        go_wp2_with fail
        go_roundw
        case rel => exact ⟨k + 1, ⟨by have := hlt.out; omega⟩, by go_num, hT2, grown_none hg p.h⟩
        case measure => have := hlt.out; simp [intOf]; omega
      · have hq : ((x.toNat : Int) == (y.toNat : Int)) = false := by rw [u8_beq]; simpa using hxy
        have hq2 : ((x.toNat : Int) != (y.toNat : Int)) = true := by rw [bne, hq]; rfl
        have hfin : Hid (R = k) := ⟨by
          have h1 := hml.out
          have h2 := hlt.out
          rw [← hR.out, lcp_len hT.out (by omega) (by omega) (.inr (.inr (by rw [hx.out, hy.out]; simpa using hxy))), List.length_take]
          omega⟩
        clear hxy
        go_wp2_with fail
        refine wp_region_lat (by kernel_rfl) (by kernel_rfl) ?_
        repeat (go_big_quiet_step (fail))
        refine wpQuiet_nil ?_
        intro _ hw'
        obtain ⟨p, hw''⟩ := hw'
        subst hw''
        go_wp2_with fail
        go_ret
        exact ⟨by rw [hfin.out]; rfl, grown_none hg p.h⟩
    · have hd : decide ((k : Int) < m) = false := by simp; omega
      have hdn : decide (k < m) = false := by simpa using hlt
      have hfin : Hid (R = k) := ⟨by
        have h1 := hml.out
        have h2 := hk.out
        rw [← hR.out, lcp_len hT.out (by omega) (by omega) (by omega), List.length_take]
        omega⟩
      have hkm : k = m := by have := hk.out; omega
      subst hkm
      go_wp2_with fail
      go_ret
      exact ⟨by rw [hfin.out]; rfl, hg⟩
end Go.Proofs.YtmahpceokpajgaaDoor

/- strings.HasPrefix. -/
namespace Go.Proofs.YtmahpceokpajgaaDoor
open Go.RowKit Go.IntWalk Go.Maps
set_option linter.unusedVariables false
theorem pre_take {p s : K} : p <+: s ↔ p.length ≤ s.length ∧ s.take p.length = p := by
  constructor
  · intro h
    exact ⟨h.length_le, (List.prefix_iff_eq_take.1 h).symm⟩
  · rintro ⟨_, h⟩
    rw [List.prefix_iff_eq_take]
    exact h.symm
set_option maxRecDepth 100000 in
set_option maxHeartbeats 1000000 in
theorem slhas_any (w : World) (s p : K) {b : Bool} (hb : Hid (decide (p <+: s) = b)) : Calls Tryd.prog 83 #[.string (bt s), .string (bt p)] w fun r w' => r = .returned (.bool b) ∧ w' = w := by
  have ss := bt_size s
  have sp := bt_size p
  have ht := bt_take s
  have tl := bt_toList
  by_cases hl : p.length ≤ s.length
  · have hb2 : (s.take p.length == p) = b := by
      rw [← hb.out, Bool.eq_iff_iff]
      simp only [beq_iff_eq, decide_eq_true_eq, pre_take]
      exact ⟨fun h => ⟨hl, h⟩, fun h => h.2⟩
    have hd : decide ((s.length : Int) ≥ p.length) = true := by simp; omega
    clear hb
    go_enter Tryd.func83, Tryd.ntmps83
    go_wp2
    go_ret
    exact ⟨rfl, rfl⟩
  · have hb2 : b = false := by
      rw [← hb.out]
      simp only [decide_eq_false_iff_not]
      exact fun h => hl h.length_le
    subst hb2
    have hd : decide ((s.length : Int) ≥ p.length) = false := by simp; omega
    clear hb
    go_enter Tryd.func83, Tryd.ntmps83
    go_wp2
    go_ret
    exact ⟨rfl, rfl⟩
set_option maxRecDepth 100000 in
set_option maxHeartbeats 1000000 in
/-- strings.HasPrefix. -/
theorem has_any (w : World) (s p : K) {b : Bool} (hb : Hid (decide (p <+: s) = b)) : Calls Tryd.prog 68 #[.string (bt s), .string (bt p)] w fun r w' => r = .returned (.bool b) ∧ w' = w := by
  go_enter Tryd.func68, Tryd.ntmps68
  go_wp2_with fail
  refine (slhas_any w s p hb).mono ?_
  rintro r w1 ⟨rfl, rfl⟩
  go_wp2
  go_ret
  exact ⟨rfl, rfl⟩
end Go.Proofs.YtmahpceokpajgaaDoor
