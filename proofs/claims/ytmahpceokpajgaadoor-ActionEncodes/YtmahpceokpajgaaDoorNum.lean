/- Numbers' texts: what ParseInt makes of a numeral, and which texts are a number's. -/
import Derived.Lib.ParseIntB
import Derived.Lib.ParseIntBTie
import Derived.Lib.ItoaNum
import Derived.Lib.ItoaLen
namespace Go.Proofs.YtmahpceokpajgaaDoor
open Go.Lib
set_option linter.unusedVariables false
theorem decDigits_ne (u : Nat) : decDigits u ≠ [] := by
  rw [decDigits]; split <;> simp
theorem dec_dig (u : Nat) : ∀ c ∈ decDigits u, 48 ≤ c.toNat ∧ c.toNat ≤ 57 := by
  induction u using Nat.strongRecOn with
  | _ u ih =>
    intro c hc
    rw [decDigits] at hc
    have hd : ∀ k : Nat, k < 10 → (UInt8.ofNat (48 + k)).toNat = 48 + k := fun k hk => UInt8.toNat_ofNat_of_lt' (by show 48 + k < 256; omega)
    split at hc
    · rename_i h
      simp only [List.mem_singleton] at hc
      subst hc
      rw [hd u h]; omega
    · rename_i h
      rw [List.mem_append] at hc
      rcases hc with hc | hc
      · exact ih (u / 10) (by omega) c hc
      · simp only [List.mem_singleton] at hc
        subst hc
        rw [hd _ (by omega)]; omega
theorem parseM_app (M : Nat) (r : List UInt8) : ∀ (l : List UInt8) (acc a : Nat), parseUintM M acc l = .ok a → parseUintM M acc (l ++ r) = parseUintM M a r
  | [], acc, a, h => by simp only [parseUintM, NumEnd.ok.injEq] at h; subst h; rfl
  | c :: l, acc, a, h => by
    simp only [parseUintM, List.cons_append] at h ⊢
    split at h
    · rename_i h1
      split at h
      · cases h
      · rename_i h2
        split at h
        · cases h
        · rename_i h3
          rw [if_pos h1, if_neg h2, if_neg h3]
          exact parseM_app M r l _ a h
    · cases h
theorem parseM_dec (M : Nat) (hM : M < 18446744073709551616) (u : Nat) (hu : u ≤ M) : parseUintM M 0 (decDigits u) = .ok u := by
  induction u using Nat.strongRecOn with
  | _ u ih =>
    have hd : ∀ k : Nat, k < 10 → (UInt8.ofNat (48 + k)).toNat = 48 + k := fun k hk => UInt8.toNat_ofNat_of_lt' (by show 48 + k < 256; omega)
    rw [decDigits]
    split
    · rename_i h
      simp only [parseUintM]
      rw [hd u h]
      rw [if_pos (by omega), if_neg (by omega), if_neg (by omega)]
      congr 1
      omega
    · rename_i h
      rw [parseM_app M _ _ 0 (u / 10) (ih (u / 10) (by omega) (by omega))]
      simp only [parseUintM]
      rw [hd _ (by omega)]
      rw [if_pos (by omega), if_neg (by omega), if_neg (by omega)]
      congr 1
      omega
theorem parse_itoa (n : Int) (h0 : -9223372036854775808 ≤ n) (h1 : n ≤ 9223372036854775807) : parseIntB 64 (itoa n) = .ok n := by
  have hp : ∀ u : Nat, u ≤ 9223372036854775808 → parseUintB 64 (decDigits u) = .ok u := fun u hu => by
    unfold parseUintB
    rw [if_neg (decDigits_ne u)]
    exact parseM_dec _ (by decide) u (by omega)
  by_cases hn : n < 0
  · have e : itoa n = 45 :: decDigits n.natAbs := by unfold itoa; rw [if_pos hn]
    rw [e]
    unfold parseIntB
    have h45 : (45 : UInt8).toNat = 45 := rfl
    simp only [h45]
    rw [if_pos (by decide), hp n.natAbs (by omega)]
    simp only [not_true_eq_false, false_and, if_false, true_and, if_true]
    rw [if_neg (by show ¬ 2 ^ 63 < n.natAbs; omega)]
    congr 1
    omega
  · have e : itoa n = decDigits n.toNat := by unfold itoa; rw [if_neg hn]
    rw [e]
    have hd := dec_dig n.toNat
    have hp' := hp n.toNat (by omega)
    generalize hl : decDigits n.toNat = l at *
    cases l with
    | nil => exact absurd hl (decDigits_ne _)
    | cons c r =>
      obtain ⟨c0, c1⟩ := hd c (by simp)
      unfold parseIntB
      simp only []
      rw [if_neg (by omega), hp']
      have hc : ¬ c.toNat = 45 := by omega
      simp only [hc, not_false_eq_true, true_and, false_and, if_false]
      rw [if_neg (by show ¬ 2 ^ 63 ≤ n.toNat; omega)]
      congr 1
      omega
/-- The number that a text is of. -/
def numOf (l : List UInt8) : Option Int := match parseIntB 64 l with
  | .ok v => if itoa v = l then some v else none
  | _ => none
/-- Is a number one of 64 bits? -/
abbrev In64 (n : Int) : Prop := -9223372036854775808 ≤ n ∧ n ≤ 9223372036854775807
theorem parse_in {l : List UInt8} {v : Int} (h : parseIntB 64 l = .ok v) : In64 v := by
  have := parseIntB_bounds h
  have e : (2 : Nat) ^ (64 - 1) = 9223372036854775808 := by decide
  rw [e] at this
  constructor <;> omega
theorem numOf_itoa {n : Int} (h : In64 n) : numOf (itoa n) = some n := by
  unfold numOf
  rw [parse_itoa n h.1 h.2]
  simp
theorem numOf_some {l : List UInt8} {v : Int} (h : numOf l = some v) : l = itoa v ∧ In64 v := by
  unfold numOf at h
  split at h
  · rename_i u hu
    split at h
    · rename_i e
      cases h
      exact ⟨e.symm, parse_in hu⟩
    · cases h
  · cases h
theorem itoa_inj {n m : Int} (hn : In64 n) (hm : In64 m) (h : itoa n = itoa m) : n = m := by
  have e1 := numOf_itoa hn
  rw [h, numOf_itoa hm] at e1
  exact (Option.some.inj e1).symm
theorem itoa_chars (n : Int) : ∀ c ∈ itoa n, c.toNat = 45 ∨ (48 ≤ c.toNat ∧ c.toNat ≤ 57) := by
  intro c hc
  unfold itoa at hc
  split at hc
  · rcases List.mem_cons.1 hc with rfl | hc
    · exact .inl rfl
    · exact .inr (dec_dig _ c hc)
  · exact .inr (dec_dig _ c hc)
theorem itoa_ne (n : Int) : itoa n ≠ [] := by
  unfold itoa
  split
  · simp
  · exact decDigits_ne _
theorem dec_head (u : Nat) (hu : u ≠ 0) : ∀ c, (decDigits u).head? = some c → c.toNat ≠ 48 := by
  induction u using Nat.strongRecOn with
  | _ u ih =>
    intro c hc
    have hd : ∀ k : Nat, k < 10 → (UInt8.ofNat (48 + k)).toNat = 48 + k := fun k hk => UInt8.toNat_ofNat_of_lt' (by show 48 + k < 256; omega)
    rw [decDigits] at hc
    split at hc
    · rename_i h
      simp only [List.head?_cons, Option.some.injEq] at hc
      subst hc
      rw [hd u h]; omega
    · rename_i h
      have e : (decDigits (u / 10) ++ [UInt8.ofNat (48 + u % 10)]).head? = (decDigits (u / 10)).head? := by
        cases e2 : decDigits (u / 10) with
        | nil => exact absurd e2 (decDigits_ne _)
        | cons a b => rfl
      rw [e] at hc
      exact ih (u / 10) (by omega) (by omega) c hc
theorem numOf_x (n : Int) : numOf (itoa n ++ [120]) = none := by
  cases h : numOf (itoa n ++ [120]) with
  | none => rfl
  | some v =>
    obtain ⟨e, _⟩ := numOf_some h
    have := itoa_chars v 120 (by rw [← e]; simp)
    have h120 : (120 : UInt8).toNat = 120 := rfl
    omega
theorem numOf_0 (n : Int) : numOf (48 :: itoa n) = none := by
  cases h : numOf (48 :: itoa n) with
  | none => rfl
  | some v =>
    obtain ⟨e, _⟩ := numOf_some h
    exfalso
    unfold itoa at e
    by_cases hv : v < 0
    · rw [if_pos hv] at e
      injection e with e1 _
      exact absurd e1 (by decide)
    · rw [if_neg hv] at e
      by_cases h0 : v.toNat = 0
      · rw [h0] at e
        have e0 : decDigits 0 = [48] := by rw [decDigits]; rfl
        rw [e0] at e
        injection e with _ e2
        exact itoa_ne n e2
      · exact dec_head _ h0 48 (by rw [← e]; rfl) rfl
theorem itoa_len {n : Int} (h : In64 n) : (itoa n).length ≤ 21 := itoa_length_le n h.1 h.2
end Go.Proofs.YtmahpceokpajgaaDoor
