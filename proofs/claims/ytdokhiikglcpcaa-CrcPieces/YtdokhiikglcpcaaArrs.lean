/- The arguments of types [3][]byte and [4]byte as the walks want them. -/
import Derived.Test.YtdokhiikglcpcaaFrame
import Derived.Laws.IdiomArrays
namespace Go.Proofs.Ytdokhiikglcpcaa
open Go.ChangeShapes Go.WideShapes Go.ChangeAt Go.RowKit
set_option linter.unusedVariables false

theorem cells22 : Try.prog.cellsOf 22 = 1 := by kernel_rfl
theorem cells5 : Try.prog.cellsOf 5 = 1 := by kernel_rfl
theorem cells29 : Try.prog.cellsOf 29 = 3 := by kernel_rfl
theorem cells32 : Try.prog.cellsOf 32 = 4 := by kernel_rfl
/-- A []byte in an array. -/
theorem open_cell {H : Type} {enc : TypeId × Value → H} {W : World} {c : Value} {y : DataW H × List MemPlace} {n : Nat} (h : DataW.trod enc Try.prog W 0 (fun _ => true) true n 22 [c] = some y) :
    ∃ a len cap zs, c = .slice a len cap ∧ Bts W.heap.size W (.slice a len cap) zs := by
  have hc : ∃ a len cap, c = .slice a len cap := by
    rcases open_ints Try.underlying22 Try.underlying5 (by kernel_rfl) h with ⟨hcs, _⟩ | ⟨x, l, c', zs, hcs, _⟩
    · simp at hcs; exact ⟨_, _, _, hcs⟩
    · simp at hcs; exact ⟨_, _, _, hcs⟩
  obtain ⟨a, len, cap, rfl⟩ := hc
  obtain ⟨zs, hz⟩ := open_bts (W := W) (a := a) (len := len) (cap := cap) (enc := enc) (d := y.1) (ps := y.2) ⟨n, h⟩
  exact ⟨a, len, cap, zs, rfl, hz⟩
/-- A [3][]byte that came in. -/
theorem open_three {H : Type} {enc : TypeId × Value → H} {W : World} {r : Reach} {b0 : Nat} {v : Value} {d : DataW H} {ps : List MemPlace} (hv : Value.okWide Try.prog W r b0 29 v) (h : DataW.Trod enc Try.prog W 0 (fun _ => true) true 29 v d ps) :
    ∃ a0 l0 c0 z0 a1 l1 c1 z1 a2 l2 c2 z2, v = .agg #[.slice a0 l0 c0, .slice a1 l1 c1, .slice a2 l2 c2] ∧ Bts W.heap.size W (.slice a0 l0 c0) z0 ∧ Bts W.heap.size W (.slice a1 l1 c1) z1 ∧ Bts W.heap.size W (.slice a2 l2 c2) z2 := by
  obtain ⟨cs, rfl, hsz, _⟩ : ∃ cs, v = .agg cs ∧ cs.size = Try.prog.cellsOf 29 ∧ Row.okWide Try.prog W r b0 29 cs := by
    have := hv
    simpa [Value.okWide, Try.underlying29] using this
  obtain ⟨x0, x1, x2, rfl⟩ := Joins.array3 (hsz.trans cells29)
  obtain ⟨fuel, hf⟩ := h
  obtain ⟨y0, y1, y2, n, _, h0, h1, h2⟩ := trod_array3 Try.underlying29 cells22 (by simpa [Value.cells] using hf)
  obtain ⟨a0, l0, c0, z0, rfl, k0⟩ := open_cell h0
  obtain ⟨a1, l1, c1, z1, rfl, k1⟩ := open_cell h1
  obtain ⟨a2, l2, c2, z2, rfl, k2⟩ := open_cell h2
  exact ⟨a0, l0, c0, z0, a1, l1, c1, z1, a2, l2, c2, z2, rfl, k0, k1, k2⟩
/-- A [4]byte that came in. -/
theorem open_four {H : Type} {enc : TypeId × Value → H} {W : World} {r : Reach} {b0 : Nat} {v : Value} {d : DataW H} {ps : List MemPlace} (hv : Value.okWide Try.prog W r b0 32 v) (h : DataW.Trod enc Try.prog W 0 (fun _ => true) true 32 v d ps) :
    ∃ n0 n1 n2 n3 : Int, v = .agg #[.int .u8 n0, .int .u8 n1, .int .u8 n2, .int .u8 n3] ∧ (0 ≤ n0 ∧ n0 < 256) ∧ (0 ≤ n1 ∧ n1 < 256) ∧ (0 ≤ n2 ∧ n2 < 256) ∧ (0 ≤ n3 ∧ n3 < 256) := by
  obtain ⟨cs, rfl, hsz, hrow⟩ : ∃ cs, v = .agg cs ∧ cs.size = Try.prog.cellsOf 32 ∧ Row.okWide Try.prog W r b0 32 cs := by
    have := hv
    simpa [Value.okWide, Try.underlying32] using this
  obtain ⟨x0, x1, x2, x3, rfl⟩ := Joins.array4 (hsz.trans cells32)
  obtain ⟨fuel, hf⟩ := h
  obtain ⟨y0, y1, y2, y3, n, _, h0, h1, h2, h3⟩ := trod_array4 Try.underlying32 cells5 (by simpa [Value.cells] using hf)
  obtain ⟨n0, e0, _, b0⟩ := DataW.trod_int Try.underlying5 h0
  obtain ⟨n1, e1, _, b1⟩ := DataW.trod_int Try.underlying5 h1
  obtain ⟨n2, e2, _, b2⟩ := DataW.trod_int Try.underlying5 h2
  obtain ⟨n3, e3, _, b3⟩ := DataW.trod_int Try.underlying5 h3
  simp only [List.cons.injEq, and_true] at e0 e1 e2 e3
  subst e0 e1 e2 e3
  have q0 := bounds_u8 b0
  have q1 := bounds_u8 b1
  have q2 := bounds_u8 b2
  have q3 := bounds_u8 b3
  exact ⟨n0, n1, n2, n3, rfl, by omega, by omega, by omega, by omega⟩
end Go.Proofs.Ytdokhiikglcpcaa
