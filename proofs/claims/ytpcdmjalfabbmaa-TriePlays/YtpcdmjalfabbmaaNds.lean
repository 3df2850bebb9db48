/- How many places keys ask for: those of neighbours are all. Plain facts, no program. -/
import Derived.Test.YtpcdmjalfabbmaaTri
namespace Go.Proofs.Ytpcdmjalfabbmaa
set_option linter.unusedVariables false
/-- The i-th key. -/
def kAt (L : List E) (i : Nat) : K := (L[i]?.map E.k).getD []
theorem kAt_some {L : List E} {i : Nat} {x : E} (h : L[i]? = some x) : kAt L i = x.k := by simp [kAt, h]
/-- The document's list of places, behind i entries. -/
def ndl (L : List E) : Nat → List E
  | 0 => [⟨[], bt []⟩]
  | i + 1 => if i = 0 then putE ⟨kAt L i, bt []⟩ (ndl L i) else putE ⟨lcp (kAt L (i - 1)) (kAt L i), bt []⟩ (putE ⟨kAt L i, bt []⟩ (ndl L i))
/-- How many. -/
def nds (L : List E) : Nat := (ndl L L.length).length
theorem ndl_srt (L : List E) : ∀ i, Srt (ndl L i)
  | 0 => List.pairwise_singleton _ _
  | i + 1 => by
    unfold ndl
    split
    · exact (ndl_srt L i).put _
    · exact ((ndl_srt L i).put _).put _
theorem ndl_len (L : List E) : ∀ i, (ndl L i).length ≤ 2 * i + 1
  | 0 => by simp [ndl]
  | i + 1 => by
    have h1 := ndl_len L i
    have h2 := putE_le (ndl_srt L i) ⟨kAt L i, bt []⟩
    have h3 := putE_le ((ndl_srt L i).put ⟨kAt L i, bt []⟩) ⟨lcp (kAt L (i - 1)) (kAt L i), bt []⟩
    unfold ndl
    split <;> omega
theorem key_put {e : E} {L : List E} {k : K} : (∃ x ∈ putE e L, x.k = k) ↔ k = e.k ∨ ∃ x ∈ L, x.k = k := by
  constructor
  · rintro ⟨x, hx, rfl⟩
    rcases mem_putE.1 hx with rfl | ⟨hx, _⟩
    · exact .inl rfl
    · exact .inr ⟨x, hx, rfl⟩
  · rintro (rfl | ⟨x, hx, rfl⟩)
    · exact ⟨e, mem_putE.2 (.inl rfl), rfl⟩
    · by_cases h : x.k = e.k
      · exact ⟨e, mem_putE.2 (.inl rfl), h.symm⟩
      · exact ⟨x, mem_putE.2 (.inr ⟨hx, h⟩), rfl⟩
theorem ndl_key (L : List E) (k : K) : ∀ i, (∃ x ∈ ndl L i, x.k = k) ↔ k = [] ∨ (∃ j, j < i ∧ k = kAt L j) ∨ ∃ j, 0 < j ∧ j < i ∧ k = lcp (kAt L (j - 1)) (kAt L j)
  | 0 => by
    simp only [ndl, List.mem_singleton, exists_eq_left]
    constructor
    · rintro rfl; exact .inl rfl
    · rintro (rfl | ⟨j, h, _⟩ | ⟨j, _, h, _⟩)
      · rfl
      · omega
      · omega
  | i + 1 => by
    have ih := ndl_key L k i
    unfold ndl
    split
    · rename_i h0
      subst h0
      rw [key_put, ih]
      constructor
      · rintro (rfl | rfl | ⟨j, h, _⟩ | ⟨j, _, h, _⟩)
        · exact .inr (.inl ⟨0, by omega, rfl⟩)
        · exact .inl rfl
        · omega
        · omega
      · rintro (rfl | ⟨j, h, rfl⟩ | ⟨j, h1, h, _⟩)
        · exact .inr (.inl rfl)
        · have : j = 0 := by omega
          subst this
          exact .inl rfl
        · omega
    · rename_i h0
      rw [key_put, key_put, ih]
      constructor
      · rintro (rfl | rfl | rfl | ⟨j, h, rfl⟩ | ⟨j, h1, h, rfl⟩)
        · exact .inr (.inr ⟨i, by omega, by omega, rfl⟩)
        · exact .inr (.inl ⟨i, by omega, rfl⟩)
        · exact .inl rfl
        · exact .inr (.inl ⟨j, by omega, rfl⟩)
        · exact .inr (.inr ⟨j, h1, by omega, rfl⟩)
      · rintro (rfl | ⟨j, h, rfl⟩ | ⟨j, h1, h, rfl⟩)
        · exact .inr (.inr (.inl rfl))
        · by_cases e : j = i
          · subst e; exact .inr (.inl rfl)
          · exact .inr (.inr (.inr (.inl ⟨j, by omega, rfl⟩)))
        · by_cases e : j = i
          · subst e; exact .inl rfl
          · exact .inr (.inr (.inr (.inr ⟨j, h1, by omega, rfl⟩)))
theorem lex_cons {a b : UInt8} {x y : K} : a :: x < b :: y ↔ a < b ∨ (a = b ∧ x < y) := List.cons_lt_cons_iff
theorem not_lt_nil (x : K) : ¬ x < [] := by simp
theorem nil_lt {c : UInt8} {x : K} : ([] : K) < c :: x := by simp
theorem lex_app {p x y : K} : p ++ x < p ++ y ↔ x < y := by
  induction p with
  | nil => rfl
  | cons a p ih =>
    rw [List.cons_append, List.cons_append, lex_cons, ih]
    constructor
    · rintro (h | ⟨_, h⟩)
      · exact absurd h (UInt8.lt_irrefl a)
      · exact h
    · intro h; exact .inr ⟨rfl, h⟩
/-- What lies between two that begin with p begins with p. -/
theorem lex_btw : ∀ {p x y z : K}, ¬ z < p ++ x → ¬ p ++ y < z → p <+: z
  | [], _, _, _, _, _ => List.nil_prefix
  | a :: p, x, y, z, h1, h2 => by
    cases z with
    | nil => exact absurd nil_lt h1
    | cons b z =>
      rw [List.cons_append, lex_cons, not_or] at h1 h2
      have hab : a = b := by
        have e1 := h1.1
        have e2 := h2.1
        rw [UInt8.lt_iff_toNat_lt] at e1 e2
        exact UInt8.toNat_inj.1 (by omega)
      subst hab
      exact List.cons_prefix_cons.2 ⟨rfl, lex_btw (x := x) (y := y) (fun h => h1.2 ⟨rfl, h⟩) (fun h => h2.2 ⟨rfl, h⟩)⟩
theorem lt_snoc {p l : K} {c d : UInt8} (h : c < d) : p ++ c :: l < p ++ [d] := lex_app.2 (lex_cons.2 (.inl h))
theorem not_lt_of_pre {a b : K} (h : a <+: b) : ¬ b < a := by
  obtain ⟨t, rfl⟩ := h
  intro h
  have : a ++ t < a ++ [] := by simpa using h
  exact not_lt_nil _ (lex_app.1 this)
theorem step_down {T : Nat → Prop} [DecidablePred T] : ∀ {i j : Nat}, i < j → T i → ¬ T j → ∃ m, i < m ∧ m ≤ j ∧ T (m - 1) ∧ ¬ T m
  | i, 0, h, _, _ => by omega
  | i, j + 1, h, hi, hj => by
    by_cases hT : T j
    · exact ⟨j + 1, by omega, by omega, by simpa using hT, hj⟩
    · have hij : i ≠ j := fun e => hT (e ▸ hi)
      obtain ⟨m, h1, h2, h3⟩ := step_down (i := i) (j := j) (by omega) hi hT
      exact ⟨m, h1, by omega, h3⟩
theorem Srt.lt {L : List E} (h : Srt L) {i j : Nat} (hij : i < j) (hj : j < L.length) : kAt L i < kAt L j := by
  have h1 := List.pairwise_iff_getElem.1 h i j (by omega) hj hij
  rw [kAt_some (List.getElem?_eq_getElem (by omega)), kAt_some (List.getElem?_eq_getElem hj)]
  exact h1
theorem Srt.ix {L : List E} (h : Srt L) {i j : Nat} (hi : i < L.length) (hj : j < L.length) (hlt : kAt L i < kAt L j) : i < j := by
  rcases Nat.lt_trichotomy i j with h1 | h1 | h1
  · exact h1
  · subst h1; exact absurd hlt (k_lt_irrefl _)
  · exact absurd hlt (k_lt_asymm (h.lt h1 hi))
theorem nbr {L : List E} (h : Srt L) {i j : Nat} (hi : i < L.length) (hj : j < L.length) {p l m : K} {c d : UInt8} (h1 : kAt L i = p ++ c :: l) (h2 : kAt L j = p ++ d :: m) (hcd : c < d) : ∃ n, 0 < n ∧ n < L.length ∧ p = lcp (kAt L (n - 1)) (kAt L n) := by
  have hpd : p ++ [d] <+: kAt L j := by rw [h2]; exact snoc_pre p d m
  have hTi : kAt L i < p ++ [d] := by rw [h1]; exact lt_snoc hcd
  have hTj : ¬ kAt L j < p ++ [d] := not_lt_of_pre hpd
  have hij : i < j := h.ix hi hj (by rw [h1, h2]; exact lex_app.2 (lex_cons.2 (.inl hcd)))
  obtain ⟨n, n1, n2, n3, n4⟩ := step_down (T := fun i => kAt L i < p ++ [d]) hij hTi hTj
  refine ⟨n, by omega, by omega, ?_⟩
  have a1 : p <+: kAt L (n - 1) := lex_btw (x := c :: l) (y := [d]) (by
    rw [← h1]
    by_cases e : n - 1 = i
    · rw [e]; exact k_lt_irrefl _
    · exact k_lt_asymm (h.lt (by omega) (by omega))) (k_lt_asymm n3)
  have a2 : p ++ [d] <+: kAt L n := lex_btw (x := []) (y := m) (by simpa using n4) (by
    rw [List.append_assoc, List.singleton_append, ← h2]
    by_cases e : n = j
    · rw [e]; exact k_lt_irrefl _
    · exact k_lt_asymm (h.lt (by omega) hj))
  refine (lcp_eq a1 ((List.prefix_append p [d]).trans a2) fun x k1 k2 => ?_).symm
  rcases pre_lin k1 a1 with h3 | h3
  · exact h3
  · by_cases e : p = x
    · rw [e]; exact List.prefix_rfl
    · obtain ⟨t, ht⟩ := a2
      have := pre_next (l := t) h3 e (by rw [← List.singleton_append, ← List.append_assoc, ht]; exact k2)
      exact absurd n3 (not_lt_of_pre (this.trans k1))
theorem at_key {L : List E} {k : K} (h : (gt L k).isSome = true) : ∃ i, i < L.length ∧ kAt L i = k := by
  obtain ⟨x, hx, rfl⟩ := gt_has.1 h
  obtain ⟨i, hi⟩ := List.getElem?_of_mem hx
  exact ⟨i, (List.getElem?_eq_some_iff.1 hi).1, kAt_some hi⟩
theorem key_at {L : List E} {i : Nat} (h : i < L.length) : (gt L (kAt L i)).isSome = true := gt_has.2 ⟨L[i], List.getElem_mem h, (kAt_some (List.getElem?_eq_getElem h)).symm⟩
theorem nbrs {L : List E} (h : Srt L) {a b : K} (ha : (gt L a).isSome = true) (hb : (gt L b).isSome = true) : (gt L (lcp a b)).isSome = true ∨ ∃ n, 0 < n ∧ n < L.length ∧ lcp a b = lcp (kAt L (n - 1)) (kAt L n) := by
  by_cases e1 : lcp a b = a
  · exact .inl (by rw [e1]; exact ha)
  · by_cases e2 : lcp a b = b
    · exact .inl (by rw [e2]; exact hb)
    · refine .inr ?_
      obtain ⟨c, l, hc⟩ := pre_strict (lcp_l a b) e1
      obtain ⟨d, m, hd⟩ := pre_strict (lcp_r a b) e2
      obtain ⟨i, hi, hia⟩ := at_key ha
      obtain ⟨j, hj, hjb⟩ := at_key hb
      have hcd : c ≠ d := by
        rintro rfl
        have h1 : lcp a b ++ [c] <+: lcp a b := lcp_max (by conv => rhs; rw [hc]
                                                            exact snoc_pre _ c l) (by conv => rhs; rw [hd]
                                                                                      exact snoc_pre _ c m)
        have := h1.length_le
        simp at this
        omega
      rcases Nat.lt_or_gt_of_ne (fun e => hcd (UInt8.toNat_inj.1 e)) with h1 | h1
      · exact nbr h hi hj (hia.trans hc) (hjb.trans hd) (UInt8.lt_iff_toNat_lt.2 h1)
      · exact nbr h hj hi (hjb.trans hd) (hia.trans hc) (UInt8.lt_iff_toNat_lt.2 h1)
/-- HOW MANY PLACES THERE ARE HANGS ON THE KEYS ALONE. -/
theorem places {P : List K} {L : List E} (hs : Srt L) (nd : P.Nodup) (h0 : [] ∈ P) (hc : Cl P) (hk : ∀ p, (gt L p).isSome = true → p ∈ P) (h : Cn P (fun k => (gt L k).isSome = true)) : P.length = nds L := by
  have hnd : ((ndl L L.length).map E.k).Nodup := List.nodup_iff_pairwise_ne.2 (List.pairwise_map.2 (List.Pairwise.imp (fun {a b} hl (e : a.k = b.k) => k_lt_irrefl a.k (by rw [← e] at hl; exact hl)) (ndl_srt L L.length)))
  have := len_mem nd hnd fun p => by
    rw [Cn.mem h0 hc hk h, List.mem_map, ndl_key]
    constructor
    · rintro (e | e | ⟨a, b, ha, hb, rfl⟩)
      · exact .inl e
      · obtain ⟨i, hi, rfl⟩ := at_key e
        exact .inr (.inl ⟨i, hi, rfl⟩)
      · rcases nbrs hs ha hb with e | ⟨n, h1, h2, e⟩
        · obtain ⟨i, hi, e'⟩ := at_key e
          exact .inr (.inl ⟨i, hi, e'.symm⟩)
        · exact .inr (.inr ⟨n, h1, h2, e⟩)
    · rintro (e | ⟨i, hi, rfl⟩ | ⟨j, h1, h2, rfl⟩)
      · exact .inl e
      · exact .inr (.inl (key_at hi))
      · exact .inr (.inr ⟨_, _, key_at (by omega), key_at h2, rfl⟩)
  simpa [nds] using this
theorem nds_le (L : List E) : nds L ≤ 2 * L.length + 1 := ndl_len L _
end Go.Proofs.Ytpcdmjalfabbmaa
