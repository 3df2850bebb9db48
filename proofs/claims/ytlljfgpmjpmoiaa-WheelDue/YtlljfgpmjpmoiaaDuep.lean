/- Deadlines by their places, beside the timers that a wheel has; a row of ticks of one's own. -/
import Derived.Test.YtlljfgpmjpmoiaaScr
namespace Go.Proofs.Ytlljfgpmjpmoiaa
open Go.RowKit Go.IntWalk Go.Maps Go.Shelf
set_option linter.unusedVariables false
/-- The name of the j-th. -/
def ni (j : Nat) : ByteArray := ⟨#[UInt8.ofNat (65 + j)]⟩
theorem ni_inj {i j : Nat} (hi : i < 40) (hj : j < 40) (h : ni i = ni j) : i = j := by
  have h1 := congrArg (fun b : ByteArray => b.data.toList.map UInt8.toNat) h
  simp [ni] at h1
  omega
theorem ni_size (j : Nat) : (ni j).size ≤ maxLen := by
  have : (ni j).size = 1 := rfl
  rw [this]
  unfold maxLen
  omega
/-- The places of ys that are not 0 are the timers of M. -/
structure Inv (ys : List Int) (M : List E) : Prop where
  to : ∀ e ∈ M, ∃ j, ys[j]? = some e.at_ ∧ e.n = ni j ∧ e.at_ ≠ 0
  of : ∀ (j : Nat) (y : Int), ys[j]? = some y → y ≠ 0 → (⟨ni j, y⟩ : E) ∈ M
  len : ys.length ≤ 40
  nd : M.Nodup
theorem Inv.nil : Inv [] [] := ⟨by simp, by simp, by simp, by simp⟩
theorem snoc_at {ys : List Int} {y z : Int} {j : Nat} (h : (ys ++ [y])[j]? = some z) : ys[j]? = some z ∨ (j = ys.length ∧ z = y) := by
  rcases Nat.lt_or_ge j ys.length with hj | hj
  · rw [List.getElem?_append_left hj] at h
    exact .inl h
  · rw [List.getElem?_append_right hj] at h
    have : j - ys.length = 0 := by
      rcases Nat.eq_zero_or_pos (j - ys.length) with h0 | h0
      · exact h0
      · rw [List.getElem?_eq_none (by simp; omega)] at h; cases h
    rw [this] at h
    simp at h
    exact .inr ⟨by omega, h.symm⟩
theorem at_lt {ys : List Int} {j : Nat} {z : Int} (h : ys[j]? = some z) : j < ys.length := (List.getElem?_eq_some_iff.1 h).1
/-- One more that is not 0. -/
theorem Inv.more {ys : List Int} {M M' : List E} (h : Inv ys M) {y : Int} (hy : y ≠ 0) (hl : ys.length < 40) (hm : ∀ x, x ∈ M' ↔ x = ⟨ni ys.length, y⟩ ∨ x ∈ M) (hn : M'.Nodup) : Inv (ys ++ [y]) M' := by
  refine ⟨fun e he => ?_, fun j z hz hz0 => ?_, by simp; omega, hn⟩
  · rcases (hm e).1 he with rfl | he
    · exact ⟨ys.length, by simp, rfl, hy⟩
    · obtain ⟨j, h1, h2, h3⟩ := h.to e he
      exact ⟨j, by rw [List.getElem?_append_left (at_lt h1)]; exact h1, h2, h3⟩
  · rcases snoc_at hz with hz | ⟨rfl, rfl⟩
    · exact (hm _).2 (.inr (h.of j z hz hz0))
    · exact (hm _).2 (.inl rfl)
/-- One more that is 0. -/
theorem Inv.zero {ys : List Int} {M : List E} (h : Inv ys M) (hl : ys.length < 40) : Inv (ys ++ [0]) M := by
  refine ⟨fun e he => ?_, fun j z hz hz0 => ?_, by simp; omega, h.nd⟩
  · obtain ⟨j, h1, h2, h3⟩ := h.to e he
    exact ⟨j, by rw [List.getElem?_append_left (at_lt h1)]; exact h1, h2, h3⟩
  · rcases snoc_at hz with hz | ⟨rfl, rfl⟩
    · exact h.of j z hz hz0
    · exact absurd rfl hz0
/-- No timer has the next name. -/
theorem Inv.fresh {ys : List Int} {M : List E} (h : Inv ys M) (hl : ys.length < 40) : ∀ x ∈ M, x.n ≠ ni ys.length := fun x hx e => by
  obtain ⟨j, h1, h2, h3⟩ := h.to x hx
  have hj := at_lt h1
  have := ni_inj (by omega) hl (h2.symm.trans e)
  omega
theorem Inv.same {ys : List Int} {M M' : List E} (h : Inv ys M) (hm : ∀ x, x ∈ M' ↔ x ∈ M) (hn : M'.Nodup) : Inv ys M' :=
  ⟨fun e he => h.to e ((hm e).1 he), fun j y hy h0 => (hm _).2 (h.of j y hy h0), h.len, hn⟩
/-- The first one told. -/
theorem Inv.tell {ys : List Int} {x : E} {M : List E} (h : Inv ys (x :: M)) : ∃ j, ys[j]? = some x.at_ ∧ x.n = ni j ∧ x.at_ ≠ 0 ∧ Inv (ys.set j 0) M := by
  obtain ⟨j, h1, h2, h3⟩ := h.to x (by simp)
  have hj := at_lt h1
  have hl := h.len
  refine ⟨j, h1, h2, h3, fun e he => ?_, fun i y hy hy0 => ?_, by simpa using hl, (List.nodup_cons.1 h.nd).2⟩
  · obtain ⟨i, k1, k2, k3⟩ := h.to e (List.mem_cons_of_mem _ he)
    have hij : j ≠ i := fun e2 => by
      subst e2
      rw [h1] at k1
      have : x = e := E.ext' (h2.trans k2.symm) (Option.some.inj k1)
      exact (List.nodup_cons.1 h.nd).1 (this ▸ he)
    exact ⟨i, by rw [List.getElem?_set_ne hij]; exact k1, k2, k3⟩
  · by_cases hij : j = i
    · subst hij
      rw [List.getElem?_set_self hj] at hy
      exact absurd (Option.some.inj hy).symm hy0
    · rw [List.getElem?_set_ne hij] at hy
      rcases List.mem_cons.1 (h.of i y hy hy0) with e | e
      · have hi := at_lt hy
        have : i = j := ni_inj (by omega) (by omega) (by have := congrArg E.n e; exact this.trans h2)
        exact absurd this.symm hij
      · exact e
/-- How many of the first k are not 0. -/
def nz (ys : List Int) (k : Nat) : Nat := ((ys.take k).filter fun y => decide (0 < y)).length
theorem nz_succ {ys : List Int} {k : Nat} {y : Int} (h : ys[k]? = some y) : nz ys (k + 1) = nz ys k + if 0 < y then 1 else 0 := by
  unfold nz
  rw [List.take_add_one, h]
  simp only [Option.toList_some, List.filter_append, List.length_append]
  by_cases hy : 0 < y <;> simp [hy]
theorem nz_le (ys : List Int) (k : Nat) : nz ys k ≤ k := by
  unfold nz
  have := List.length_filter_le (fun y : Int => decide (0 < y)) (ys.take k)
  rw [List.length_take] at this
  omega
theorem inv_len : ∀ (n : Nat) (ys : List Int) (M : List E), ys.length = n → Inv ys M → (∀ y ∈ ys, 0 ≤ y) → nz ys n = M.length
  | 0, ys, M, hl, h, hp => by
    have : ys = [] := List.eq_nil_of_length_eq_zero hl
    subst this
    cases M with
    | nil => rfl
    | cons x M =>
      obtain ⟨j, h1, _⟩ := h.to x (by simp)
      simp at h1
  | n + 1, ys, M, hl, h, hp => by
    obtain ⟨zs, y, rfl⟩ : ∃ zs y, ys = zs ++ [y] := ⟨ys.dropLast, ys.getLast (by intro e; simp [e] at hl), (List.dropLast_concat_getLast _).symm⟩
    have hzl : zs.length = n := by simpa using hl
    have hlen := h.len
    simp at hlen
    have hy0 : 0 ≤ y := hp y (by simp)
    have hpz : ∀ z ∈ zs, 0 ≤ z := fun z hz => hp z (by simp [hz])
    have ht : (zs ++ [y]).take n = zs := by rw [← hzl]; simp
    have hz' : nz (zs ++ [y]) n = nz zs n := by
      unfold nz
      rw [ht, ← hzl, List.take_length]
    rw [nz_succ (y := y) (by rw [← hzl]; simp), hz']
    have hat : ∀ (j : Nat) (z : Int), zs[j]? = some z → (zs ++ [y])[j]? = some z := fun j z hz => by rw [List.getElem?_append_left (at_lt hz)]; exact hz
    by_cases hy : 0 < y
    · rw [if_pos hy]
      have hx : (⟨ni zs.length, y⟩ : E) ∈ M := h.of zs.length y (by simp) (by omega)
      have hI : Inv zs (M.filter fun e => !decide (e.n = ni zs.length)) := by
        refine ⟨fun e he => ?_, fun j z hz hz0 => ?_, by omega, h.nd.sublist List.filter_sublist⟩
        · obtain ⟨he, hen⟩ := List.mem_filter.1 he
          have hen' : e.n ≠ ni zs.length := by simpa using hen
          obtain ⟨j, k1, k2, k3⟩ := h.to e he
          rcases snoc_at k1 with k1 | ⟨rfl, _⟩
          · exact ⟨j, k1, k2, k3⟩
          · exact absurd k2 hen'
        · have h1 := h.of j z (hat j z hz) hz0
          have hj := at_lt hz
          refine List.mem_filter.2 ⟨h1, ?_⟩
          have : ni j ≠ ni zs.length := fun e => by have := ni_inj (by omega) (by omega) e; omega
          simpa using this
      rw [inv_len n zs _ hzl hI hpz]
      have hpm := len_mem (L := ⟨ni zs.length, y⟩ :: M.filter fun e => !decide (e.n = ni zs.length)) (M := M) (List.nodup_cons.2 ⟨fun hc => by simpa using (List.mem_filter.1 hc).2, hI.nd⟩) h.nd fun e => by
        rw [List.mem_cons, List.mem_filter]
        constructor
        · rintro (rfl | e)
          · exact hx
          · exact e.1
        · intro he
          by_cases hen : e.n = ni zs.length
          · refine .inl ?_
            obtain ⟨j, k1, k2, k3⟩ := h.to e he
            rcases snoc_at k1 with k1 | ⟨rfl, k4⟩
            · have hj := at_lt k1
              have := ni_inj (by omega) (by omega) (k2.symm.trans hen)
              omega
            · exact E.ext' hen k4
          · exact .inr ⟨he, by simpa using hen⟩
      simpa using hpm
    · rw [if_neg hy, Nat.add_zero]
      have hye : y = 0 := by omega
      subst hye
      refine inv_len n zs M hzl ⟨fun e he => ?_, fun j z hz hz0 => h.of j z (hat j z hz) hz0, by omega, h.nd⟩ hpz
      obtain ⟨j, k1, k2, k3⟩ := h.to e he
      rcases snoc_at k1 with k1 | ⟨_, k4⟩
      · exact ⟨j, k1, k2, k3⟩
      · exact absurd k4 k3
end Go.Proofs.Ytlljfgpmjpmoiaa
