/- What codec.Decode returns, in plain words. -/
import Derived.Test.YtmahpceokpajgaaDoorCDecode
namespace Go.Proofs.YtmahpceokpajgaaDoor.C
open Go.RowKit Go.Shelf Plain Go.IntWalk
set_option linter.unusedVariables false

def DecSaid : Prop := ∀ (v : Value) (zs : List Int) (w : World), Bts w.heap.size w v zs →
  Calls Tryd.prog 27 #[v] w fun e W' => ((∃ u xs, e = .returned (.tuple #[u, .int .i64 0]) ∧ Flds W'.heap.size W' u xs ∧ zs = encL xs ∧ okL xs = true) ∨ (e = .returned (.tuple #[.slice none 0 0, .int .i64 12]) ∧ ∀ xs, okL xs = true → zs ≠ encL xs)) ∧ Below w.heap.size w W'

theorem decSaid : DecSaid := by
  intro v zs w hz
  obtain ⟨a, len, cap, rfl, _⟩ := hz.form
  refine (callsIn_wide.1 (decode_t a len cap zs w hz)).mono ?_
  rintro e W' ⟨⟨v, ys, rfl, hP, ⟨xs, hrow, hok, hsd⟩, hyl⟩ | ⟨rfl, ys, ⟨ini, x, rfl, hini, hx⟩, hS⟩, hB⟩
  · refine ⟨.inl ⟨v, xs, rfl, Flds.of_own hrow (fun x hx => (hok x hx).ok), ?_, ?_⟩, hB⟩
    · have := hP.2
      rw [List.append_nil] at this
      rw [this]; exact encL_said hsd.symm
    · rw [okL_said hsd]
      simp only [okL, Bool.and_eq_true, decide_eq_true_eq, List.all_eq_true]
      refine ⟨by simpa [fsB] using hyl, fun f hf => ?_⟩
      obtain ⟨y, hy, rfl⟩ := List.mem_map.1 hf
      exact (y.2 (hP.1 y hy)).2
  · refine ⟨.inr ⟨rfl, fun xs ho heq => ?_⟩, hB⟩
    simp only [okL, Bool.and_eq_true, decide_eq_true_eq, List.all_eq_true] at ho
    rcases hS with ⟨rest, hp⟩ | ⟨ini', x', rest, e', hxf, hp, hne, hnb⟩
    · have h1 := hp.1 x (by simp)
      have h2 : ini.length = 200 := by
        rcases hx with h | h
        · rw [h] at h1; cases h1
        · exact h.2
      have h3 := hp.2
      rw [heq] at h3
      obtain ⟨qs, _, _, hl, _⟩ := encL_split h3.symm
      have : (fsB (ini ++ [x])).length = 201 := by simp [fsB, h2]
      omega
    · have h3 := hp.2
      rw [heq] at h3
      obtain ⟨qs, _, hr, _, hq⟩ := encL_split h3.symm
      cases qs with
      | nil => exact hne hr
      | cons q qs => exact hnb ⟨q, encL qs, ho.2 q (hq q (by simp)), hr⟩
end Go.Proofs.YtmahpceokpajgaaDoor.C
