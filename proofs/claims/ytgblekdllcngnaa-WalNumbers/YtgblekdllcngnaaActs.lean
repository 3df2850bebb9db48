/- An Act, a slice of them that came in. -/
import Derived.Test.YtgblekdllcngnaaFrame
namespace Go.Proofs.Ytgblekdllcngnaa
open Go.ChangeShapes Go.WideShapes Go.ChangeAt Go.RowKit Go.Deep
set_option linter.unusedVariables false

theorem cells3 : Try.prog.cellsOf 3 = 1 := by kernel_rfl
theorem cells32 : Try.prog.cellsOf 32 = 1 := by kernel_rfl
theorem cells23 : Try.prog.cellsOf 23 = 1 := by kernel_rfl
theorem cells34 : Try.prog.cellsOf 34 = 5 := by kernel_rfl
/-- An act. -/
structure Ac where
  kd : Int
  s : Int
  n : Int
  ba : Option Addr
  bc : Nat
  b : List Int
  ka : Option Addr
  kc : Nat
  k : List Int
def Ac.cells (x : Ac) : List Value := [.int .i64 x.kd, .int .i64 x.s, .int .i64 x.n, .slice x.ba x.b.length x.bc, .slice x.ka x.k.length x.kc]
def Ac.ok (W : World) (x : Ac) : Prop := (-9223372036854775808 ≤ x.kd ∧ x.kd < 9223372036854775808) ∧ (-9223372036854775808 ≤ x.s ∧ x.s < 9223372036854775808) ∧ (-9223372036854775808 ≤ x.n ∧ x.n < 9223372036854775808) ∧
  Bts W.heap.size W (.slice x.ba x.b.length x.bc) x.b ∧ Ins W.heap.size W (.slice x.ka x.k.length x.kc) x.k
theorem Ac.ok_grown {W W' : World} (hg : W.grownBy W' none) (x : Ac) (h : x.ok W) : x.ok W' := ⟨h.1, h.2.1, h.2.2.1, h.2.2.2.1.grown0 hg, h.2.2.2.2.grown0 hg⟩
set_option maxRecDepth 100000 in
theorem open_act_cells {H : Type} {enc : TypeId × Value → H} {W : World} (n : Nat) (l : List Value) (y : DataW H × List MemPlace) (hl : l.length = 5) (h : DataW.trod enc Try.prog W 0 (fun _ => true) true n 34 l = some y) : ∃ x : Ac, l = x.cells ∧ x.ok W := by
  obtain ⟨xs, m, _, _, _, hxl, hf⟩ := DataW.trod_struct Try.underlying34 h
  match xs, hxl, l, hl with
  | [y0, y1, y2, y3, y4], _, [c0, c1, c2, c3, c4], _ =>
    have g0 := hf 0 _ rfl
    have g1 := hf 1 _ rfl
    have g2 := hf 2 _ rfl
    have g3 := hf 3 _ rfl
    have g4 := hf 4 _ rfl
    simp [cells3, cells32, cells23] at g0 g1 g2 g3 g4
    obtain ⟨n0, e0, _, b0⟩ := DataW.trod_int Try.underlying3 g0
    obtain ⟨n1, e1, _, b1⟩ := DataW.trod_int Try.underlying3 g1
    obtain ⟨n2, e2, _, b2⟩ := DataW.trod_int Try.underlying3 g2
    simp only [List.cons.injEq, and_true] at e0 e1 e2
    subst e0 e1 e2
    obtain ⟨ba, bc, bs, rfl, hb⟩ := open_bts_cell g3
    obtain ⟨ka, kc, ks, rfl, hk⟩ := open_ins_cell g4
    exact ⟨⟨n0, n1, n2, ba, bc, bs, ka, kc, ks⟩, rfl, i64_bd b0, i64_bd b1, i64_bd b2, hb, hk⟩
set_option maxRecDepth 100000 in
/-- An Act that came in by value. -/
theorem open_act {H : Type} {enc : TypeId × Value → H} {W : World} {r : Reach} {b0 : Nat} {v : Value} {d : DataW H} {ps : List MemPlace} (hv : Value.okWide Try.prog W r b0 34 v) (h : DataW.Trod enc Try.prog W 0 (fun _ => true) true 34 v d ps) :
    ∃ x : Ac, v = .agg x.cells.toArray ∧ x.ok W := by
  obtain ⟨cs, rfl, hsz⟩ := okWide_struct Try.underlying34 hv
  obtain ⟨fuel, hf⟩ := h
  obtain ⟨x, hx, hok⟩ := open_act_cells fuel cs.toList _ (by simpa [cells34] using hsz) (by simpa [Value.cells] using hf)
  exact ⟨x, by rw [← hx], hok⟩
abbrev Acs := Many 5 Ac.cells Ac.ok
set_option maxRecDepth 100000 in
theorem open_acts {H : Type} {enc : TypeId × Value → H} {W : World} {a : Option Addr} {len cap : Nat} {d : DataW H} {ps : List MemPlace} (h : DataW.Trod enc Try.prog W 0 (fun _ => true) true 22 (.slice a len cap) d ps) : ∃ xs, Acs W (.slice a len cap) xs :=
  haveI : Inhabited Ac := ⟨⟨0, 0, 0, none, 0, [], none, 0, []⟩⟩
  open_many Try.underlying22 cells34 open_act_cells (by decide) h
end Go.Proofs.Ytgblekdllcngnaa
