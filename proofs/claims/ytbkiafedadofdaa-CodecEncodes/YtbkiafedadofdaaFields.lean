/- The argument of type []api.Field as the walks want it: what the row's reading says, in their words. -/
import Derived.Test.YtbkiafedadofdaaFrame
import Derived.Deep.SlicePairs
namespace Go.Proofs.Ytbkiafedadofdaa
open Go.ChangeShapes Go.WideShapes Go.ChangeAt Go.RowKit Go.Deep
set_option linter.unusedVariables false

theorem addr_add (b off j : Nat) : (⟨b, off, none⟩ : Addr).add j = ⟨b, off + j, none⟩ := by unfold Addr.add; split <;> simp_all

/-- A []byte in a cell. -/
theorem open_bts_cell {H : Type} {enc : TypeId × Value → H} {W : World} {v : Value} {fuel : Nat} {y : DataW H × List MemPlace} (hf : DataW.trod enc Try.prog W 0 (fun _ => true) true fuel 23 [v] = some y) :
    ∃ a len cap zs, v = .slice a len cap ∧ Bts W.heap.size W (.slice a len cap) zs := by
  rcases open_ints Try.underlying23 Try.underlying5 (by kernel_rfl) hf with ⟨hcs, _⟩ | ⟨x, l, c, zs, hcs, _, hl, hm, hz, _, hcell, hwz⟩
  · simp at hcs
    subst hcs
    exact ⟨none, 0, 0, [], rfl, .inl ⟨.inl rfl, rfl⟩, fun z hz => by cases hz⟩
  · simp at hcs
    subst hcs
    refine ⟨some x, l, c, ?_⟩
    have hz' : zs.length = c := by simpa using hz
    by_cases h0 : l = 0
    · subst h0
      exact ⟨[], rfl, .inl ⟨.inr ⟨_, _, rfl⟩, rfl⟩, fun z hz => by cases hz⟩
    · obtain ⟨b, off, spot⟩ := x
      have hc0 := hcell 0 (by omega)
      have hspot : spot = none := by simpa [Addr.add] using World.cell?_spot hc0
      subst hspot
      have hb : b < W.heap.size := by
        have := World.block_lt_of_cell? W _ hc0
        simpa [Addr.add] using this
      refine ⟨zs.take l, rfl, .inr ⟨b, off, c, by rw [List.length_take, Nat.min_eq_left (by omega)], hb, by rw [List.length_take]; omega, hm, fun j hj => ?_⟩, fun z hz => ?_⟩
      · rw [List.length_take] at hj
        have hadd := addr_add b off j
        have := hcell j (by omega)
        rw [hadd] at this
        rw [this, List.getElem?_take, if_pos (by omega)]
        rfl
      · have := bounds_u8 (hwz z (List.mem_of_mem_take hz))
        omega

/-- A []api.Field that came in. -/
theorem open_flds {H : Type} {enc : TypeId × Value → H} {W : World} {a : Option Addr} {len cap : Nat} {d : DataW H} {ps : List MemPlace} (h : DataW.Trod enc Try.prog W 0 (fun _ => true) true 22 (.slice a len cap) d ps) :
    ∃ xs, Flds W.heap.size W (.slice a len cap) xs := by
  obtain ⟨fuel, hf⟩ := h
  rcases open_slice_pairs Try.underlying22 Try.underlying37 (by kernel_rfl) rfl rfl (by kernel_rfl) (by kernel_rfl) hf with ⟨hcs, _⟩ | ⟨x, l, c, m, n, V0, V1, D0, D1, P0, P1, hcs, _, hl, hm, hmm, _, hx⟩
  · simp [Value.cells] at hcs
    obtain ⟨rfl, rfl, rfl⟩ := hcs
    exact ⟨[], .inl ⟨.inl rfl, rfl⟩, fun z hz => by cases hz⟩
  · simp [Value.cells] at hcs
    obtain ⟨rfl, rfl, rfl⟩ := hcs
    have hmm' : m = cap := by simpa using hmm
    subst hmm'
    by_cases h0 : len = 0
    · subst h0
      exact ⟨[], .inl ⟨.inr ⟨_, _, rfl⟩, rfl⟩, fun z hz => by cases hz⟩
    · obtain ⟨b, off, spot⟩ := x
      have hc0 := (hx 0 (by omega)).1
      have hspot : spot = none := by simpa [Addr.add] using World.cell?_spot hc0
      subst hspot
      have hb : b < W.heap.size := by
        have := World.block_lt_of_cell? W _ hc0
        simpa [Addr.add] using this
      have hadd := addr_add b off
      have each : ∀ i, i < m → ∃ f : Fd, V0 i = .int .i64 f.tag ∧ V1 i = .slice f.a f.len f.cap ∧ f.ok W.heap.size W := by
        intro i hi
        obtain ⟨_, _, t0, t1⟩ := hx i hi
        obtain ⟨tag, e0, _, wt⟩ := DataW.trod_int Try.underlying3 t0
        obtain ⟨a1, l1, c1, zs, e1, hb1⟩ := open_bts_cell t1
        simp at e0
        have := bounds_i64 wt
        exact ⟨⟨tag, a1, l1, c1, zs⟩, e0, e1, hb1, this.1, this.2⟩
      haveI : Inhabited Fd := ⟨⟨0, none, 0, 0, []⟩⟩
      obtain ⟨f, hfd⟩ := choose_lt each
      refine ⟨(List.range len).map f, .inr ⟨b, off, m, by simp, hb, by simpa using hl, hm, ?_⟩, ?_⟩
      · intro j x hj
        rw [List.getElem?_map] at hj
        have hjl : j < len := by
          rcases Nat.lt_or_ge j len with h | h
          · exact h
          · rw [List.getElem?_eq_none (by simpa using h)] at hj; cases hj
        rw [List.getElem?_range hjl] at hj
        obtain rfl : f j = x := by simpa using hj
        obtain ⟨e0, e1, _⟩ := hfd j (by omega)
        obtain ⟨q0, q1, _, _⟩ := hx j (by omega)
        rw [hadd] at q0 q1
        rw [Nat.add_assoc]
        exact ⟨by rw [q0, e0], by rw [q1, e1]⟩
      · intro x hx'
        obtain ⟨j, hj, rfl⟩ := List.mem_map.1 hx'
        exact (hfd j (by have := List.mem_range.1 hj; omega)).2.2
end Go.Proofs.Ytbkiafedadofdaa
