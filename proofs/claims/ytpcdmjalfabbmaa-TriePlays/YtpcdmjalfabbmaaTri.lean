/- Places of a trie: kids, and what becomes of them when a place is added, parted, taken away: plain facts, no program. -/
import Derived.Test.YtpcdmjalfabbmaaOrd
namespace Go.Proofs.Ytpcdmjalfabbmaa
set_option linter.unusedVariables false

/-- q is a kid of p. -/
structure Kid (P : List K) (p q : K) : Prop where
  up : p ∈ P
  lo : q ∈ P
  pre : p <+: q
  ne : p ≠ q
  btw : ∀ r ∈ P, p <+: r → r <+: q → r = p ∨ r = q
/-- What two places have in common is a place. -/
def Cl (P : List K) : Prop := ∀ p ∈ P, ∀ q ∈ P, lcp p q ∈ P
theorem kid_ex {P : List K} {p : K} {c : UInt8} (hp : p ∈ P) : ∀ (n : Nat) {q : K}, q.length ≤ n → q ∈ P → p ++ [c] <+: q → ∃ k, Kid P p k ∧ p ++ [c] <+: k ∧ k <+: q
  | 0, q, hn, hq, h => by
    have := h.length_le
    simp at this
    omega
  | n + 1, q, hn, hq, h => by
    obtain ⟨h1, h2⟩ := snoc_ne h
    by_cases hb : ∀ r ∈ P, p <+: r → r <+: q → r = p ∨ r = q
    · exact ⟨q, ⟨hp, hq, h1, h2, hb⟩, h, List.prefix_rfl⟩
    · have ⟨r, hr⟩ := Classical.not_forall.1 hb
      simp only [Classical.not_imp, not_or] at hr
      obtain ⟨hrP, hpr, hrq, hne1, hne2⟩ := hr
      obtain ⟨t, rfl⟩ := h
      have hs : p ++ [c] <+: r := pre_next (l := t) hpr (Ne.symm hne1) (by simpa using hrq)
      have hl := pre_len_lt hrq hne2
      obtain ⟨k, k1, k2, k3⟩ := kid_ex hp n (by omega) hrP hs
      exact ⟨k, k1, k2, k3.trans hrq⟩
theorem Kid.un {P : List K} (hc : Cl P) {p k k' : K} {c : UInt8} (h : Kid P p k) (h' : Kid P p k') (e : p ++ [c] <+: k) (e' : p ++ [c] <+: k') : k = k' := by
  have h1 := hc k h.lo k' h'.lo
  have h2 : p ++ [c] <+: lcp k k' := lcp_max e e'
  obtain ⟨h3, h4⟩ := snoc_ne h2
  rcases h.btw _ h1 h3 (lcp_l k k') with h5 | h5
  · exact absurd h5.symm h4
  · rcases h'.btw _ h1 h3 (lcp_r k k') with h6 | h6
    · exact absurd h6.symm h4
    · exact h5.symm.trans h6
theorem Kid.step {P : List K} {p k : K} (h : Kid P p k) : ∃ c l, k = p ++ c :: l := pre_strict h.pre h.ne
theorem Kid.one {P : List K} {p p' k : K} (h : Kid P p k) (h' : Kid P p' k) : p = p' := by
  rcases pre_lin h.pre h'.pre with h1 | h1
  · rcases h.btw p' h'.up h1 h'.pre with h2 | h2
    · exact h2.symm
    · exact absurd h2 h'.ne
  · rcases h'.btw p h.up h1 h.pre with h2 | h2
    · exact h2
    · exact absurd h2 h.ne
/-- Where nothing begins a key's rest, what is added. -/
structure AddK (P : List K) (p k : K) (c : UInt8) : Prop where
  up : p ∈ P
  pre : p ++ [c] <+: k
  no : ∀ q ∈ P, ¬ p ++ [c] <+: q
section
variable {P : List K} {p k : K} {c : UInt8}
theorem AddK.new (h : AddK P p k c) : k ∉ P := fun hk => h.no k hk h.pre
theorem AddK.cl (h : AddK P p k c) (hc : Cl P) : Cl (k :: P) := by
  have key : ∀ q ∈ P, lcp k q ∈ P := fun q hq => by
    have : lcp k q = lcp p q := by
      refine lcp_eq ((lcp_l p q).trans (snoc_ne h.pre).1) (lcp_r p q) fun x h1 h2 => lcp_max ?_ h2
      rcases pre_lin h1 h.pre with h3 | h3
      · by_cases e : x = p ++ [c]
        · exact absurd (e ▸ h2) (h.no q hq)
        · have := pre_len_lt h3 e
          rcases pre_lin h3 (List.prefix_append p [c]) with h4 | h4
          · exact h4
          · have h5 := h4.length_le
            simp at this
            rw [h4.eq_of_length (by omega)]
            exact List.prefix_rfl
      · exact absurd (h3.trans h2) (h.no q hq)
    rw [this]
    exact hc p h.up q hq
  intro a ha b hb
  rcases List.mem_cons.1 ha with rfl | ha'
  · rcases List.mem_cons.1 hb with rfl | hb'
    · rw [lcp_self]; simp
    · exact List.mem_cons_of_mem _ (key b hb')
  · rcases List.mem_cons.1 hb with rfl | hb'
    · rw [lcp_comm]; exact List.mem_cons_of_mem _ (key a ha')
    · exact List.mem_cons_of_mem _ (hc a ha' b hb')
theorem AddK.kid (h : AddK P p k c) {a b : K} : Kid (k :: P) a b ↔ Kid P a b ∨ (a = p ∧ b = k) := by
  have hpk := snoc_ne h.pre
  constructor
  · intro hK
    have hak : a ≠ k := by
      rintro rfl
      rcases List.mem_cons.1 hK.lo with e | hb
      · exact hK.ne e.symm
      · exact h.no b hb (h.pre.trans hK.pre)
    have ha : a ∈ P := by
      rcases List.mem_cons.1 hK.up with e | ha
      · exact absurd e hak
      · exact ha
    rcases List.mem_cons.1 hK.lo with rfl | hb
    · refine .inr ⟨?_, rfl⟩
      rcases pre_lin hK.pre hpk.1 with h1 | h1
      · rcases hK.btw p (List.mem_cons_of_mem _ h.up) h1 hpk.1 with h2 | h2
        · exact h2.symm
        · exact absurd h2 hpk.2
      · by_cases e : p = a
        · exact e.symm
        · exfalso
          obtain ⟨t, ht⟩ := h.pre
          exact h.no a ha (pre_next h1 e (l := t) (by rw [← List.singleton_append, ← List.append_assoc, ht]; exact hK.pre))
    · exact .inl ⟨ha, hb, hK.pre, hK.ne, fun r hr => hK.btw r (List.mem_cons_of_mem _ hr)⟩
  · rintro (hK | ⟨rfl, rfl⟩)
    · refine ⟨List.mem_cons_of_mem _ hK.up, List.mem_cons_of_mem _ hK.lo, hK.pre, hK.ne, fun r hr h1 h2 => ?_⟩
      rcases List.mem_cons.1 hr with rfl | hr
      · exact absurd (h.pre.trans h2) (h.no b hK.lo)
      · exact hK.btw r hr h1 h2
    · refine ⟨List.mem_cons_of_mem _ h.up, by simp, hpk.1, hpk.2, fun r hr h1 h2 => ?_⟩
      rcases List.mem_cons.1 hr with rfl | hr
      · exact .inr rfl
      · by_cases e : a = r
        · exact .inl e.symm
        · obtain ⟨t, ht⟩ := h.pre
          exact absurd (pre_next h1 e (l := t) (by rw [← List.singleton_append, ← List.append_assoc, ht]; exact h2)) (h.no r hr)
end
/-- Where a place is parted: m between p and its kid k. -/
structure Part (P : List K) (p m k : K) : Prop where
  kid : Kid P p k
  lo : p <+: m
  ne : p ≠ m
  hi : m <+: k
  nk : m ≠ k
section
variable {P : List K} {p m k : K}
theorem Part.new (h : Part P p m k) : m ∉ P := fun hm => by
  rcases h.kid.btw m hm h.lo h.hi with e | e
  · exact h.ne e.symm
  · exact h.nk e
/-- What begins with m begins with k. -/
theorem Part.ext (h : Part P p m k) (hc : Cl P) {q : K} (hq : q ∈ P) (hm : m <+: q) : k <+: q := by
  have h1 := hc k h.kid.lo q hq
  have h2 : m <+: lcp k q := lcp_max h.hi hm
  rcases h.kid.btw _ h1 (h.lo.trans h2) (lcp_l k q) with e | e
  · rw [e] at h2
    exact absurd (pre_anti h.lo h2) h.ne
  · have := lcp_r k q
    rwa [e] at this
theorem Part.cl (h : Part P p m k) (hc : Cl P) : Cl (m :: P) := by
  have key : ∀ q ∈ P, lcp m q = m ∨ lcp m q ∈ P := fun q hq => by
    by_cases e : m <+: q
    · exact .inl (lcp_pre e)
    · refine .inr ?_
      rw [← lcp_off h.hi e]
      exact hc k h.kid.lo q hq
  intro a ha b hb
  rcases List.mem_cons.1 ha with rfl | ha'
  · rcases List.mem_cons.1 hb with rfl | hb'
    · rw [lcp_self]; simp
    · rcases key b hb' with e | e
      · rw [e]; simp
      · exact List.mem_cons_of_mem _ e
  · rcases List.mem_cons.1 hb with rfl | hb'
    · rw [lcp_comm]
      rcases key a ha' with e | e
      · rw [e]; simp
      · exact List.mem_cons_of_mem _ e
    · exact List.mem_cons_of_mem _ (hc a ha' b hb')
theorem Part.kid' (h : Part P p m k) (hc : Cl P) {a b : K} : Kid (m :: P) a b ↔ (Kid P a b ∧ ¬ (a = p ∧ b = k)) ∨ (a = p ∧ b = m) ∨ (a = m ∧ b = k) := by
  have hpP := h.kid.up
  have hkP := h.kid.lo
  constructor
  · intro hK
    rcases List.mem_cons.1 hK.up with rfl | ha
    · rcases List.mem_cons.1 hK.lo with e | hb
      · exact absurd e.symm hK.ne
      · refine .inr (.inr ⟨rfl, ?_⟩)
        have h1 := h.ext hc hb hK.pre
        rcases hK.btw k (List.mem_cons_of_mem _ hkP) h.hi h1 with e | e
        · exact absurd e.symm h.nk
        · exact e.symm
    · rcases List.mem_cons.1 hK.lo with rfl | hb
      · refine .inr (.inl ⟨?_, rfl⟩)
        rcases pre_lin hK.pre h.lo with h1 | h1
        · rcases hK.btw p (List.mem_cons_of_mem _ hpP) h1 h.lo with e | e
          · exact e.symm
          · exact absurd e h.ne
        · rcases h.kid.btw a ha h1 (hK.pre.trans h.hi) with e | e
          · exact e
          · exact absurd (pre_anti (e ▸ hK.pre) h.hi).symm h.nk
      · refine .inl ⟨⟨ha, hb, hK.pre, hK.ne, fun r hr => hK.btw r (List.mem_cons_of_mem _ hr)⟩, ?_⟩
        rintro ⟨rfl, rfl⟩
        rcases hK.btw m (by simp) h.lo h.hi with e | e
        · exact h.ne e.symm
        · exact h.nk e
  · rintro (⟨hK, hn⟩ | ⟨rfl, rfl⟩ | ⟨rfl, rfl⟩)
    · refine ⟨List.mem_cons_of_mem _ hK.up, List.mem_cons_of_mem _ hK.lo, hK.pre, hK.ne, fun r hr h1 h2 => ?_⟩
      rcases List.mem_cons.1 hr with rfl | hr
      · exfalso
        have h3 := h.ext hc hK.lo h2
        rcases hK.btw k hkP (h1.trans h.hi) h3 with e | e
        · subst e
          exact absurd (pre_anti h1 h.hi).symm h.nk
        · subst e
          exact hn ⟨Kid.one hK h.kid, rfl⟩
      · exact hK.btw r hr h1 h2
    · refine ⟨List.mem_cons_of_mem _ hpP, by simp, h.lo, h.ne, fun r hr h1 h2 => ?_⟩
      rcases List.mem_cons.1 hr with rfl | hr
      · exact .inr rfl
      · rcases h.kid.btw r hr h1 (h2.trans h.hi) with e | e
        · exact .inl e
        · exact absurd (pre_anti (e ▸ h2) h.hi).symm h.nk
    · refine ⟨by simp, List.mem_cons_of_mem _ hkP, h.hi, h.nk, fun r hr h1 h2 => ?_⟩
      rcases List.mem_cons.1 hr with rfl | hr
      · exact .inl rfl
      · rcases h.kid.btw r hr (h.lo.trans h1) h2 with e | e
        · rw [e] at h1
          exact absurd (pre_anti h.lo h1) h.ne
        · exact .inr e
end
/-- Without a place. -/
def rmv (k : K) (P : List K) : List K := P.filter fun x => !decide (x = k)
theorem mem_rmv {k x : K} {P : List K} : x ∈ rmv k P ↔ x ∈ P ∧ x ≠ k := by simp [rmv]
theorem rmv_nodup {P : List K} (h : P.Nodup) (k : K) : (rmv k P).Nodup := h.sublist List.filter_sublist
theorem rmv_len {P : List K} (h : P.Nodup) {k : K} (hk : k ∈ P) : (rmv k P).length + 1 = P.length := by
  have h1 : (k :: rmv k P).Nodup := List.nodup_cons.2 ⟨fun hc => (mem_rmv.1 hc).2 rfl, rmv_nodup h k⟩
  have := len_mem h1 h fun x => by
    rw [List.mem_cons, mem_rmv]
    constructor
    · rintro (rfl | h)
      · exact hk
      · exact h.1
    · intro hx
      by_cases e : x = k
      · exact .inl e
      · exact .inr ⟨hx, e⟩
  simpa using this
section
variable {P : List K} {p n q : K}
theorem leaf_ext (hn : n ∈ P) (hl : ∀ b, ¬ Kid P n b) {a : K} (ha : a ∈ P) (h : n <+: a) : a = n := by
  by_cases e : n = a
  · exact e.symm
  · obtain ⟨c, l, rfl⟩ := pre_strict h e
    obtain ⟨k, hk, _⟩ := kid_ex hn _ (Nat.le_refl _) ha (snoc_pre n c l)
    exact absurd hk (hl k)
theorem leaf_cl (hc : Cl P) (hn : n ∈ P) (hl : ∀ b, ¬ Kid P n b) : Cl (rmv n P) := fun a ha b hb => by
  rw [mem_rmv] at ha hb ⊢
  refine ⟨hc a ha.1 b hb.1, fun e => ?_⟩
  have h1 := lcp_l a b
  rw [e] at h1
  exact ha.2 (leaf_ext hn hl ha.1 h1)
theorem leaf_kid (hn : n ∈ P) (hl : ∀ b, ¬ Kid P n b) {a b : K} : Kid (rmv n P) a b ↔ Kid P a b ∧ b ≠ n := by
  constructor
  · intro hK
    have ha := mem_rmv.1 hK.up
    have hb := mem_rmv.1 hK.lo
    refine ⟨⟨ha.1, hb.1, hK.pre, hK.ne, fun r hr h1 h2 => ?_⟩, hb.2⟩
    by_cases e : r = n
    · subst e
      exact absurd (leaf_ext hn hl hb.1 h2) hb.2
    · exact hK.btw r (mem_rmv.2 ⟨hr, e⟩) h1 h2
  · rintro ⟨hK, hbn⟩
    have han : a ≠ n := by
      rintro rfl
      exact hl b hK
    exact ⟨mem_rmv.2 ⟨hK.up, han⟩, mem_rmv.2 ⟨hK.lo, hbn⟩, hK.pre, hK.ne, fun r hr => hK.btw r (mem_rmv.1 hr).1⟩
theorem one_ext (hc : Cl P) (hq : Kid P n q) (h1 : ∀ b, Kid P n b → b = q) {a : K} (ha : a ∈ P) (h : n <+: a) (hne : a ≠ n) : q <+: a := by
  obtain ⟨c, l, rfl⟩ := pre_strict h (Ne.symm hne)
  obtain ⟨k, hk, h2, h3⟩ := kid_ex hq.up _ (Nat.le_refl _) ha (snoc_pre n c l)
  rw [← h1 k hk]
  exact h3
theorem one_cl (hc : Cl P) (hq : Kid P n q) (h1 : ∀ b, Kid P n b → b = q) : Cl (rmv n P) := fun a ha b hb => by
  rw [mem_rmv] at ha hb ⊢
  refine ⟨hc a ha.1 b hb.1, fun e => ?_⟩
  have h2 := lcp_l a b
  have h3 := lcp_r a b
  rw [e] at h2 h3
  have h4 := lcp_max (one_ext hc hq h1 ha.1 h2 ha.2) (one_ext hc hq h1 hb.1 h3 hb.2)
  rw [e] at h4
  exact hq.ne (pre_anti hq.pre h4)
theorem one_kid (hc : Cl P) (hq : Kid P n q) (h1 : ∀ b, Kid P n b → b = q) {a b : K} : Kid (rmv n P) a b ↔ (Kid P a b ∧ a ≠ n ∧ b ≠ n) ∨ (Kid P a n ∧ b = q) := by
  constructor
  · intro hK
    have ha := mem_rmv.1 hK.up
    have hb := mem_rmv.1 hK.lo
    by_cases e : a <+: n ∧ n <+: b
    · have h2 := one_ext hc hq h1 hb.1 e.2 hb.2
      refine .inr ⟨⟨ha.1, hq.up, e.1, ha.2, fun r hr k1 k2 => ?_⟩, ?_⟩
      · by_cases er : r = n
        · exact .inr er
        · refine .inl ?_
          rcases hK.btw r (mem_rmv.2 ⟨hr, er⟩) k1 (k2.trans e.2) with h | h
          · exact h
          · subst h
            exact absurd (pre_anti k2 e.2) er
      · rcases hK.btw q (mem_rmv.2 ⟨hq.lo, fun e' => hq.ne e'.symm⟩) (e.1.trans hq.pre) h2 with h | h
        · subst h
          exact absurd (pre_anti hq.pre e.1) hq.ne
        · exact h.symm
    · refine .inl ⟨⟨ha.1, hb.1, hK.pre, hK.ne, fun r hr k1 k2 => ?_⟩, ha.2, hb.2⟩
      by_cases er : r = n
      · subst er; exact absurd ⟨k1, k2⟩ e
      · exact hK.btw r (mem_rmv.2 ⟨hr, er⟩) k1 k2
  · rintro (⟨hK, han, hbn⟩ | ⟨hK, rfl⟩)
    · exact ⟨mem_rmv.2 ⟨hK.up, han⟩, mem_rmv.2 ⟨hK.lo, hbn⟩, hK.pre, hK.ne, fun r hr => hK.btw r (mem_rmv.1 hr).1⟩
    · refine ⟨mem_rmv.2 ⟨hK.up, hK.ne⟩, mem_rmv.2 ⟨hq.lo, hq.ne.symm⟩, hK.pre.trans hq.pre, fun e => ?_, fun r hr k1 k2 => ?_⟩
      · subst e
        exact hq.ne (pre_anti hq.pre hK.pre)
      · obtain ⟨hr, hrn⟩ := mem_rmv.1 hr
        rcases pre_lin k2 hq.pre with h2 | h2
        · rcases hK.btw r hr k1 h2 with h3 | h3
          · exact .inl h3
          · exact absurd h3 hrn
        · rcases hq.btw r hr h2 k2 with h3 | h3
          · exact absurd h3 hrn
          · exact .inr h3
end
/-- The place where a key ends: the last one that begins it. -/
def Top (P : List K) (k p : K) : Prop := p ∈ P ∧ p <+: k ∧ ∀ q ∈ P, q <+: k → q <+: p
theorem Top.un {P : List K} {k p q : K} (h : Top P k p) (h' : Top P k q) : p = q := pre_anti (h'.2.2 p h.1 h.2.1) (h.2.2 q h'.1 h'.2.1)
theorem top_end {P : List K} {k : K} (h : k ∈ P) : Top P k k := ⟨h, List.prefix_rfl, fun q _ h => h⟩
/-- No kid that way. -/
theorem top_none {P : List K} {p : K} {c : UInt8} {l : K} (hp : p ∈ P) (hno : ∀ q, Kid P p q → ¬ p ++ [c] <+: q) : Top P (p ++ c :: l) p ∧ AddK P p (p ++ c :: l) c := by
  have h0 : ∀ q ∈ P, ¬ p ++ [c] <+: q := fun q hq h => by
    obtain ⟨k, h1, h2, _⟩ := kid_ex hp _ (Nat.le_refl _) hq h
    exact hno k h1 h2
  refine ⟨⟨hp, ⟨c :: l, rfl⟩, fun q hq h => ?_⟩, ⟨hp, snoc_pre p c l, h0⟩⟩
  rcases pre_lin h (List.prefix_append p (c :: l)) with h1 | h1
  · exact h1
  · by_cases e : p = q
    · rw [e]; exact List.prefix_rfl
    · exact absurd (pre_next h1 e h) (h0 q hq)
/-- A kid that way, whose label goes off. -/
theorem top_off {P : List K} (hc : Cl P) {p k : K} {c : UInt8} {l : K} (hk : Kid P p k) (hck : p ++ [c] <+: k) (hno : ¬ k <+: p ++ c :: l) : Top P (p ++ c :: l) p := by
  refine ⟨hk.up, ⟨c :: l, rfl⟩, fun q hq h => ?_⟩
  rcases pre_lin h (List.prefix_append p (c :: l)) with h1 | h1
  · exact h1
  · by_cases e : p = q
    · rw [e]; exact List.prefix_rfl
    · have h2 := pre_next h1 e h
      obtain ⟨k', h3, h4, h5⟩ := kid_ex hk.up _ (Nat.le_refl _) hq h2
      rw [← hk.un hc h3 hck h4] at h5
      exact absurd (h5.trans h) hno
/-- Each place is a key, the root, or has two kids. -/
def Tg (P : List K) (key : K → Prop) : Prop := ∀ p ∈ P, p ≠ [] → key p ∨ ∃ q r, Kid P p q ∧ Kid P p r ∧ q ≠ r
/-- Each place is a key, the root, or what two keys have in common. -/
def Cn (P : List K) (key : K → Prop) : Prop := ∀ p ∈ P, p = [] ∨ key p ∨ ∃ a b, key a ∧ key b ∧ lcp a b = p
theorem Cn.ext {P : List K} {key : K → Prop} (h : Cn P key) {p : K} (hp : p ∈ P) (hn : p ≠ []) : ∃ a, key a ∧ p <+: a := by
  rcases h p hp with e | e | ⟨a, b, ha, hb, e⟩
  · exact absurd e hn
  · exact ⟨p, e, List.prefix_rfl⟩
  · exact ⟨a, ha, e ▸ lcp_l a b⟩
theorem Tg.ext {P : List K} {key : K → Prop} (h : Tg P key) : ∀ (n : Nat) {p : K}, (P.filter fun x => decide (p.length < x.length)).length ≤ n → p ∈ P → p ≠ [] → ∃ a, key a ∧ p <+: a
  | n, p, hn, hp, hne => by
    rcases h p hp hne with e | ⟨q, r, hq, hr, _⟩
    · exact ⟨p, e, List.prefix_rfl⟩
    · have h1 := pre_len_lt hq.pre hq.ne
      have h2 : (P.filter fun x => decide (q.length < x.length)).length < (P.filter fun x => decide (p.length < x.length)).length := by
        have hs : (P.filter fun x => decide (q.length < x.length)).Sublist (P.filter fun x => decide (p.length < x.length)) := by
          have : P.filter (fun x => decide (q.length < x.length)) = (P.filter fun x => decide (p.length < x.length)).filter fun x => decide (q.length < x.length) := by
            rw [List.filter_filter]
            refine List.filter_congr fun x _ => ?_
            by_cases hx : q.length < x.length
            · have : p.length < x.length := by omega
              simp [hx, this]
            · simp [hx]
          rw [this]
          exact List.filter_sublist
        refine Nat.lt_of_le_of_ne hs.length_le fun e => ?_
        have h3 := hs.eq_of_length e
        have h4 : q ∈ P.filter fun x => decide (p.length < x.length) := List.mem_filter.2 ⟨hq.lo, by simpa using h1⟩
        rw [← h3] at h4
        have := (List.mem_filter.1 h4).2
        simp at this
      match n, hn with
      | 0, hn => omega
      | n + 1, hn =>
        have hqn : q ≠ [] := by
          rintro rfl
          simp at h1
        obtain ⟨a, ha, hp'⟩ := Tg.ext h n (p := q) (by omega) hq.lo hqn
        exact ⟨a, ha, hq.pre.trans hp'⟩
theorem Kid.snoc {P : List K} {p k : K} (h : Kid P p k) : ∃ c, p ++ [c] <+: k := by
  obtain ⟨c, l, rfl⟩ := h.step
  exact ⟨c, snoc_pre p c l⟩
theorem Tg.cn {P : List K} {key : K → Prop} (hc : Cl P) (h : Tg P key) : Cn P key := fun p hp => by
  by_cases hne : p = []
  · exact .inl hne
  · rcases h p hp hne with e | ⟨q, r, hq, hr, hqr⟩
    · exact .inr (.inl e)
    · have hqn : q ≠ [] := by
        rintro rfl
        exact hne (List.prefix_nil.1 hq.pre)
      have hrn : r ≠ [] := by
        rintro rfl
        exact hne (List.prefix_nil.1 hr.pre)
      obtain ⟨a, ha, h1⟩ := h.ext _ (Nat.le_refl _) hq.lo hqn
      obtain ⟨b, hb, h2⟩ := h.ext _ (Nat.le_refl _) hr.lo hrn
      refine .inr (.inr ⟨a, b, ha, hb, lcp_eq (hq.pre.trans h1) (hr.pre.trans h2) fun x k1 k2 => ?_⟩)
      obtain ⟨c, hcq⟩ := hq.snoc
      obtain ⟨d, hdr⟩ := hr.snoc
      have hcd : c ≠ d := by
        rintro rfl
        exact hqr (hq.un hc hr hcq hdr)
      rcases pre_lin k1 (hq.pre.trans h1) with h3 | h3
      · exact h3
      · by_cases e : p = x
        · rw [e]; exact List.prefix_rfl
        · exfalso
          obtain ⟨t, ht⟩ := hcq.trans h1
          obtain ⟨u, hu⟩ := hdr.trans h2
          have e1 : p ++ [c] <+: x := pre_next (l := t) h3 e (by rw [← List.singleton_append, ← List.append_assoc, ht]; exact k1)
          have e2 : p ++ [d] <+: x := pre_next (l := u) h3 e (by rw [← List.singleton_append, ← List.append_assoc, hu]; exact k2)
          exact hcd (snoc_inj e1 e2)
theorem Cn.tg {P : List K} {key : K → Prop} (hk : ∀ p, key p → p ∈ P) (h : Cn P key) : Tg P key := fun p hp hne => by
  rcases h p hp with e | e | ⟨a, b, ha, hb, e⟩
  · exact absurd e hne
  · exact .inl e
  · by_cases hka : key p
    · exact .inl hka
    · have hpa : p <+: a := e ▸ lcp_l a b
      have hpb : p <+: b := e ▸ lcp_r a b
      have hna : p ≠ a := fun e' => hka (e' ▸ ha)
      have hnb : p ≠ b := fun e' => hka (e' ▸ hb)
      obtain ⟨c, l, ea⟩ := pre_strict hpa hna
      obtain ⟨d, m, eb⟩ := pre_strict hpb hnb
      obtain ⟨q, hq, q1, q2⟩ := kid_ex hp _ (Nat.le_refl _) (hk a ha) (by rw [ea]; exact snoc_pre p c l)
      obtain ⟨r, hr, r1, r2⟩ := kid_ex hp _ (Nat.le_refl _) (hk b hb) (by rw [eb]; exact snoc_pre p d m)
      refine .inr ⟨q, r, hq, hr, fun e' => ?_⟩
      subst e'
      have h4 := lcp_max q2 r2
      rw [e] at h4
      exact hq.ne (pre_anti hq.pre h4)
/-- The places hang on the keys alone. -/
theorem Cn.mem {P : List K} {key : K → Prop} (h0 : [] ∈ P) (hc : Cl P) (hk : ∀ p, key p → p ∈ P) (h : Cn P key) {p : K} : p ∈ P ↔ p = [] ∨ key p ∨ ∃ a b, key a ∧ key b ∧ lcp a b = p := by
  refine ⟨h p, ?_⟩
  rintro (rfl | e | ⟨a, b, ha, hb, rfl⟩)
  · exact h0
  · exact hk p e
  · exact hc a (hk a ha) b (hk b hb)
end Go.Proofs.Ytpcdmjalfabbmaa
