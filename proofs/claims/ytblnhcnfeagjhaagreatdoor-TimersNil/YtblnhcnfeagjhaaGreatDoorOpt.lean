/- Timers that came in. -/
import Derived.Test.YtblnhcnfeagjhaaGreatDoorOpn
import Derived.Test.YtblnhcnfeagjhaaGreatDoorAMa
namespace Go.Proofs.YtblnhcnfeagjhaaGreatDoor
open Go.ChangeShapes Go.WideShapes Go.ChangeAt Go.RowKit Go.Deep
set_option linter.unusedVariables false
theorem cells3t : Tryz.prog.cellsOf 3 = 1 := by kernel_rfl
theorem cells22t : Tryz.prog.cellsOf 22 = 1 := by kernel_rfl
theorem cells30t : Tryz.prog.cellsOf 30 = 1 := by kernel_rfl
theorem cells32t : Tryz.prog.cellsOf 32 = 5 := by kernel_rfl
/-- What a timer that came in is. -/
def tok (W : World) (x : Tmr) : Prop := x.nm.size ≤ maxLen ∧ In64 x.vr ∧ V.U x.at_ ∧ V.U x.ev ∧ Sps W.heap.size W x.v x.xs
theorem open_steps_cell {H : Type} {enc : TypeId × Value → H} {W : World} {v : Value} {fuel : Nat} {y : DataW H × List MemPlace} (hf : DataW.trod enc Tryz.prog W 0 (fun _ => true) true fuel 30 [v] = some y) :
    ∃ xs, Sps W.heap.size W v xs := by
  have hs : ∃ a l c, v = .slice a l c := by
    rcases open_slice Tryz.underlying30 hf with ⟨hcs, _⟩ | ⟨x, l, c, m, n, D, Pl, hcs, _⟩
    · simp at hcs; exact ⟨_, _, _, hcs⟩
    · simp at hcs; exact ⟨_, _, _, hcs⟩
  obtain ⟨a, l, c, rfl⟩ := hs
  exact open_steps (d := y.1) (ps := y.2) ⟨fuel, by simpa [Value.cells] using hf⟩
set_option maxRecDepth 100000 in
theorem open_timer_cells {H : Type} {enc : TypeId × Value → H} {W : World} (n : Nat) (l : List Value) (y : DataW H × List MemPlace) (hl : l.length = 5) (h : DataW.trod enc Tryz.prog W 0 (fun _ => true) true n 32 l = some y) : ∃ x : Tmr, l = x.cells ∧ tok W x := by
  obtain ⟨xs, m, _, _, _, hxl, hf⟩ := DataW.trod_struct Tryz.underlying32 h
  match xs, hxl, l, hl with
  | [y0, y1, y2, y3, y4], _, [c0, c1, c2, c3, c4], _ =>
    have g0 := hf 0 _ rfl
    have g1 := hf 1 _ rfl
    have g2 := hf 2 _ rfl
    have g3 := hf 3 _ rfl
    have g4 := hf 4 _ rfl
    simp [cells3t, cells9', cells22t, cells30t] at g0 g1 g2 g3 g4
    obtain ⟨n0, e0, _, b0⟩ := DataW.trod_string Tryz.underlying9 g0
    obtain ⟨n1, e1, _, b1⟩ := DataW.trod_int Tryz.underlying3 g1
    obtain ⟨n2, e2, _, b2⟩ := DataW.trod_int Tryz.underlying22 g2
    obtain ⟨n3, e3, _, b3⟩ := DataW.trod_int Tryz.underlying22 g3
    obtain ⟨ss, hs⟩ := open_steps_cell g4
    simp only [List.cons.injEq, and_true] at e0 e1 e2 e3
    subst e0 e1 e2 e3
    exact ⟨⟨n0, n1, n2, n3, c4, ss⟩, rfl, by have := bt_wf b0; simpa using b0, i64_in b1, u64_U b2, u64_U b3, hs⟩
set_option maxRecDepth 100000 in
theorem open_timer {H : Type} {enc : TypeId × Value → H} {W : World} {r : Reach} {b0 : Nat} {v : Value} {d : DataW H} {ps : List MemPlace} (hv : Value.okWide Tryz.prog W r b0 32 v) (h : DataW.Trod enc Tryz.prog W 0 (fun _ => true) true 32 v d ps) :
    ∃ x : Tmr, v = x.val ∧ tok W x := by
  obtain ⟨cs, rfl, hsz, _⟩ : ∃ cs, v = .agg cs ∧ cs.size = Tryz.prog.cellsOf 32 ∧ Row.okWide Tryz.prog W r b0 32 cs := by
    have := hv
    simpa [Value.okWide, Tryz.underlying32] using this
  obtain ⟨fuel, hf⟩ := h
  obtain ⟨x, hx, hok⟩ := open_timer_cells fuel cs.toList _ (by simp [hsz, cells32t]) (by simpa [Value.cells] using hf)
  refine ⟨x, ?_, hok⟩
  show Value.agg cs = .agg x.cells.toArray
  rw [← hx]
end Go.Proofs.YtblnhcnfeagjhaaGreatDoor
