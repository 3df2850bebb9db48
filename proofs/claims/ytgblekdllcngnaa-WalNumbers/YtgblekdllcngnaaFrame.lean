/- The laws' arguments as the walks want them: what the row's reading says, in their words. -/
import Derived.Test.YtgblekdllcngnaaRows
import Derived.Test.YtgblekdllcngnaaAlv
import Derived.ProofKit
import Derived.OpenShut
import Derived.ShutString
import Derived.ChangeOld
import Derived.Deep.Slices
import Derived.Laws.IdiomArrays
namespace Go.Proofs.Ytgblekdllcngnaa
open Go.ChangeShapes Go.WideShapes Go.ChangeAt Go.RowKit Go.Deep
set_option linter.unusedVariables false

theorem own : ownKnob Try.prog.godebug = none := by kernel_rfl
theorem laidOut : laidOutB Try.prog = true := by kernel_rfl
theorem i64_bd {n : Int} (h : (Lit.int .i64 n).wf = true) : -9223372036854775808 ≤ n ∧ n < 9223372036854775808 := by
  have := bounds_i64 h
  omega
theorem addr_add (b off j : Nat) : (⟨b, off, none⟩ : Addr).add j = ⟨b, off + j, none⟩ := by unfold Addr.add; split <;> simp_all

/-- A []byte in a cell. -/
theorem open_bts_cell {H : Type} {enc : TypeId × Value → H} {W : World} {v : Value} {fuel : Nat} {y : DataW H × List MemPlace} (hf : DataW.trod enc Try.prog W 0 (fun _ => true) true fuel 32 [v] = some y) :
    ∃ a cap zs, v = .slice a zs.length cap ∧ Bts W.heap.size W (.slice a zs.length cap) zs := by
  rcases open_ints Try.underlying32 Try.underlying5 (by kernel_rfl) hf with ⟨hcs, _⟩ | ⟨x, l, c, zs, hcs, _, hl, hm, hz, _, hcell, hwz⟩
  · simp at hcs
    subst hcs
    exact ⟨none, 0, [], rfl, .inl ⟨.inl rfl, rfl⟩, fun z hz => by cases hz⟩
  · simp at hcs
    subst hcs
    have hz' : zs.length = c := by simpa using hz
    by_cases h0 : l = 0
    · subst h0
      exact ⟨some x, c, [], rfl, .inl ⟨.inr ⟨_, _, rfl⟩, rfl⟩, fun z hz => by cases hz⟩
    · obtain ⟨b, off, spot⟩ := x
      have hc0 := hcell 0 (by omega)
      have hspot : spot = none := by simpa [Addr.add] using World.cell?_spot hc0
      subst hspot
      have hb : b < W.heap.size := by
        have := World.block_lt_of_cell? W _ hc0
        simpa [Addr.add] using this
      have hlt : (zs.take l).length = l := by rw [List.length_take]; omega
      refine ⟨some ⟨b, off, none⟩, c, zs.take l, by rw [hlt], .inr ⟨b, off, c, rfl, hb, by omega, hm, fun j hj => ?_⟩, fun z hz => ?_⟩
      · have := hcell j (by omega)
        rw [addr_add] at this
        rw [this, List.getElem?_take, if_pos (by omega)]
        rfl
      · have := bounds_u8 (hwz z (List.mem_of_mem_take hz))
        omega
/-- A []int in a cell. -/
theorem open_ins_cell {H : Type} {enc : TypeId × Value → H} {W : World} {v : Value} {fuel : Nat} {y : DataW H × List MemPlace} (hf : DataW.trod enc Try.prog W 0 (fun _ => true) true fuel 23 [v] = some y) :
    ∃ a cap zs, v = .slice a zs.length cap ∧ Ins W.heap.size W (.slice a zs.length cap) zs := by
  rcases open_ints Try.underlying23 Try.underlying3 (by kernel_rfl) hf with ⟨hcs, _⟩ | ⟨x, l, c, zs, hcs, _, hl, hm, hz, _, hcell, hwz⟩
  · simp at hcs
    subst hcs
    exact ⟨none, 0, [], rfl, .inl ⟨.inl rfl, rfl⟩, fun z hz => by cases hz⟩
  · simp at hcs
    subst hcs
    have hz' : zs.length = c := by simpa using hz
    by_cases h0 : l = 0
    · subst h0
      exact ⟨some x, c, [], rfl, .inl ⟨.inr ⟨_, _, rfl⟩, rfl⟩, fun z hz => by cases hz⟩
    · obtain ⟨b, off, spot⟩ := x
      have hc0 := hcell 0 (by omega)
      have hspot : spot = none := by simpa [Addr.add] using World.cell?_spot hc0
      subst hspot
      have hb : b < W.heap.size := by
        have := World.block_lt_of_cell? W _ hc0
        simpa [Addr.add] using this
      have hlt : (zs.take l).length = l := by rw [List.length_take]; omega
      refine ⟨some ⟨b, off, none⟩, c, zs.take l, by rw [hlt], .inr ⟨b, off, c, rfl, hb, by omega, hm, fun j hj => ?_⟩, fun z hz => ?_⟩
      · have := hcell j (by omega)
        rw [addr_add] at this
        rw [this, List.getElem?_take, if_pos (by omega)]
        rfl
      · exact i64_bd (hwz z (List.mem_of_mem_take hz))

/-- A []byte, a []int that came in. -/
theorem open_bts {H : Type} {enc : TypeId × Value → H} {W : World} {a : Option Addr} {len cap : Nat} {d : DataW H} {ps : List MemPlace} (h : DataW.Trod enc Try.prog W 0 (fun _ => true) true 32 (.slice a len cap) d ps) : ∃ zs, Bts W.heap.size W (.slice a len cap) zs := by
  obtain ⟨fuel, hf⟩ := h
  obtain ⟨a', c', zs, e, hz⟩ := open_bts_cell (y := (d, ps)) (by simpa [Value.cells] using hf)
  exact ⟨zs, e ▸ hz⟩
theorem open_ins {H : Type} {enc : TypeId × Value → H} {W : World} {a : Option Addr} {len cap : Nat} {d : DataW H} {ps : List MemPlace} (h : DataW.Trod enc Try.prog W 0 (fun _ => true) true 23 (.slice a len cap) d ps) : ∃ zs, Ins W.heap.size W (.slice a len cap) zs := by
  obtain ⟨fuel, hf⟩ := h
  obtain ⟨a', c', zs, e, hz⟩ := open_ins_cell (y := (d, ps)) (by simpa [Value.cells] using hf)
  exact ⟨zs, e ▸ hz⟩
/-- A slice v of elements xs of k cells each. -/
def Many {α : Type} (k : Nat) (cs : α → List Value) (ok : World → α → Prop) (W : World) (v : Value) (xs : List α) : Prop :=
  ((v = .slice none 0 0 ∨ ∃ ad cap, v = .slice (some ad) 0 cap) ∧ xs = []) ∨ ∃ b off cap, v = .slice (some ⟨b, off, none⟩) xs.length cap ∧ b < W.heap.size ∧ xs.length ≤ cap ∧ cap ≤ maxLen ∧
    ∀ j x, xs[j]? = some x → ok W x ∧ ∀ i u, (cs x)[i]? = some u → W.cell? ⟨b, off + j * k + i, none⟩ = some u
theorem Many.shape {α : Type} {k : Nat} {cs : α → List Value} {ok : World → α → Prop} {W : World} {v : Value} {xs : List α} (h : Many k cs ok W v xs) : ∃ a cap, v = .slice a xs.length cap := by
  obtain ⟨rfl | ⟨ad, cap, rfl⟩, rfl⟩ | ⟨b, off, cap, rfl, _⟩ := id h <;> exact ⟨_, _, rfl⟩
theorem Many.at {α : Type} {k : Nat} {cs : α → List Value} {ok : World → α → Prop} {W : World} {a : Option Addr} {len cap : Nat} {xs : List α} (h : Many k cs ok W (.slice a len cap) xs) {j : Nat} {x : α} (hj : xs[j]? = some x) :
    ∃ b off, a = some ⟨b, off, none⟩ ∧ b < W.heap.size ∧ ok W x ∧ ∀ i u, (cs x)[i]? = some u → W.cell? ⟨b, off + j * k + i, none⟩ = some u := by
  obtain ⟨_, rfl⟩ | ⟨b, off, c, e, hb, hl, hm, hc⟩ := h
  · simp at hj
  · simp only [Value.slice.injEq] at e
    exact ⟨b, off, e.1, hb, hc j x hj⟩
theorem Many.grown0 {α : Type} {k : Nat} {cs : α → List Value} {ok : World → α → Prop} {W W' : World} {v : Value} {xs : List α} (h : Many k cs ok W v xs) (hg : W.grownBy W' none) (hok : ∀ x, ok W x → ok W' x) : Many k cs ok W' v xs := by
  obtain e | ⟨b, off, c, e, hb, hl, hm, hc⟩ := h
  · exact .inl e
  · exact .inr ⟨b, off, c, e, Nat.lt_of_lt_of_le hb hg.size, hl, hm, fun j x hj => ⟨hok x (hc j x hj).1, fun i u hi => grown_cell hg ((hc j x hj).2 i u hi)⟩⟩
theorem open_many {H : Type} {enc : TypeId × Value → H} {α : Type} [Inhabited α] {k : Nat} {cs : α → List Value} {ok : World → α → Prop} {W : World} {t e : TypeId} {a : Option Addr} {len cap : Nat} {d : DataW H} {ps : List MemPlace}
    (ht : Try.prog.underlying t = some (.slice e)) (ce : Try.prog.cellsOf e = k) (each : ∀ (n : Nat) (l : List Value) (y : DataW H × List MemPlace), l.length = k → DataW.trod enc Try.prog W 0 (fun _ => true) true n e l = some y → ∃ x, l = cs x ∧ ok W x) (hk : 0 < k)
    (h : DataW.Trod enc Try.prog W 0 (fun _ => true) true t (.slice a len cap) d ps) : ∃ xs, Many k cs ok W (.slice a len cap) xs := by
  obtain ⟨fuel, hf⟩ := h
  rcases open_slice ht hf with ⟨hcs, _⟩ | ⟨x, l, c, m, n, D, Pl, hcs, hb0, hl, hm, hmm, _, hx⟩
  · simp [Value.cells] at hcs
    obtain ⟨rfl, rfl, rfl⟩ := hcs
    exact ⟨[], .inl ⟨.inl rfl, rfl⟩⟩
  · simp [Value.cells] at hcs
    obtain ⟨rfl, rfl, rfl⟩ := hcs
    have hmm' : m = cap := by simpa using hmm
    subst hmm'
    by_cases h0 : len = 0
    · subst h0
      exact ⟨[], .inl ⟨.inr ⟨_, _, rfl⟩, rfl⟩⟩
    · have each' : ∀ i, i < m → ∃ z : α, ok W z ∧ ∀ j u, (cs z)[j]? = some u → W.cell? (x.add (i * k + j)) = some u := by
        intro i hi
        obtain ⟨cs', h1, h2⟩ := hx i hi
        rw [ce] at h1
        obtain ⟨_, hlen, hcell⟩ := World.cells?_some h1
        obtain ⟨z, hz, hzo⟩ := each n cs' _ hlen h2
        refine ⟨z, hzo, fun j u hj => ?_⟩
        rw [← hz] at hj
        have hjl : j < cs'.length := by
          rcases Nat.lt_or_ge j cs'.length with h | h
          · exact h
          · rw [List.getElem?_eq_none h] at hj; cases hj
        have := hcell j (by omega)
        rw [add_add] at this
        rw [this]
        exact hj
      obtain ⟨f, hfd⟩ := choose_lt each'
      obtain ⟨b, off, spot⟩ := x
      have hc0 : ∃ u, W.cell? ((⟨b, off, spot⟩ : Addr).add 0) = some u := by
        obtain ⟨cs', h1, h2⟩ := hx 0 (by omega)
        rw [ce] at h1
        obtain ⟨_, hlen, hcell⟩ := World.cells?_some h1
        have := hcell 0 hk
        rw [add_add] at this
        simp only [Nat.zero_mul, Nat.add_zero] at this
        rw [List.getElem?_eq_getElem (by omega)] at this
        exact ⟨_, this⟩
      obtain ⟨u0, hc0⟩ := hc0
      have hspot : spot = none := by simpa [Addr.add] using World.cell?_spot hc0
      subst hspot
      have hb : b < W.heap.size := by
        have := World.block_lt_of_cell? W _ hc0
        simpa [Addr.add] using this
      refine ⟨(List.range len).map f, .inr ⟨b, off, m, by simp, hb, by simpa using hl, hm, fun j z hj => ?_⟩⟩
      rw [List.getElem?_map] at hj
      have hjl : j < len := by
        rcases Nat.lt_or_ge j len with h | h
        · exact h
        · rw [List.getElem?_eq_none (by simpa using h)] at hj; cases hj
      rw [List.getElem?_range hjl] at hj
      obtain rfl : f j = z := by simpa using hj
      obtain ⟨q0, q1⟩ := hfd j (by omega)
      refine ⟨q0, fun i u hi => ?_⟩
      have := q1 i u hi
      rw [addr_add] at this
      rw [Nat.add_assoc]
      exact this
end Go.Proofs.Ytgblekdllcngnaa
