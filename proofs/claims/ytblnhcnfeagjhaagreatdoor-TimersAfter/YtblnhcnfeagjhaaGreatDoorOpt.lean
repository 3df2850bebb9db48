/- Timers that came in. -/
import Derived.Test.YtblnhcnfeagjhaaGreatDoorOpn
import Derived.Test.YtblnhcnfeagjhaaGreatDoorAMa
namespace Go.Proofs.YtblnhcnfeagjhaaGreatDoor
open Go.ChangeShapes Go.WideShapes Go.ChangeAt Go.RowKit Go.Deep
set_option linter.unusedVariables false
theorem cells3t : Tryz.prog.cellsOf 3 = 1 := by kernel_rfl
theorem cells22t : Tryz.prog.cellsOf 22 = 1 := by kernel_rfl
theorem cells30t : Tryz.prog.cellsOf 30 = 1 := by kernel_rfl
theorem cells32t : Tryz.prog.cellsOf 32 = 5 := by kernel_rfl
/-- What a timer that came in is. -/
def tok (W : World) (x : Tmr) : Prop := x.nm.size ≤ maxLen ∧ In64 x.vr ∧ V.U x.at_ ∧ V.U x.ev ∧ Sps W.heap.size W x.v x.xs
theorem open_steps_cell {H : Type} {enc : TypeId × Value → H} {W : World} {v : Value} {fuel : Nat} {y : DataW H × List MemPlace} (hf : DataW.trod enc Tryz.prog W 0 (fun _ => true) true fuel 30 [v] = some y) :
    ∃ xs, Sps W.heap.size W v xs := by
  have hs : ∃ a l c, v = .slice a l c := by
    rcases open_slice Tryz.underlying30 hf with ⟨hcs, _⟩ | ⟨x, l, c, m, n, D, Pl, hcs, _⟩
    · simp at hcs; exact ⟨_, _, _, hcs⟩
    · simp at hcs; exact ⟨_, _, _, hcs⟩
  obtain ⟨a, l, c, rfl⟩ := hs
  exact open_steps (d := y.1) (ps := y.2) ⟨fuel, by simpa [Value.cells] using hf⟩
set_option maxRecDepth 100000 in
theorem open_timer_cells {H : Type} {enc : TypeId × Value → H} {W : World} (n : Nat) (l : List Value) (y : DataW H × List MemPlace) (hl : l.length = 5) (h : DataW.trod enc Tryz.prog W 0 (fun _ => true) true n 32 l = some y) : ∃ x : Tmr, l = x.cells ∧ tok W x := by
  obtain ⟨xs, m, _, _, _, hxl, hf⟩ := DataW.trod_struct Tryz.underlying32 h
  match xs, hxl, l, hl with
  | [y0, y1, y2, y3, y4], _, [c0, c1, c2, c3, c4], _ =>
    have g0 := hf 0 _ rfl
    have g1 := hf 1 _ rfl
    have g2 := hf 2 _ rfl
    have g3 := hf 3 _ rfl
    have g4 := hf 4 _ rfl
    simp [cells3t, cells9', cells22t, cells30t] at g0 g1 g2 g3 g4
    obtain ⟨n0, e0, _, b0⟩ := DataW.trod_string Tryz.underlying9 g0
    obtain ⟨n1, e1, _, b1⟩ := DataW.trod_int Tryz.underlying3 g1
    obtain ⟨n2, e2, _, b2⟩ := DataW.trod_int Tryz.underlying22 g2
    obtain ⟨n3, e3, _, b3⟩ := DataW.trod_int Tryz.underlying22 g3
    obtain ⟨ss, hs⟩ := open_steps_cell g4
    simp only [List.cons.injEq, and_true] at e0 e1 e2 e3
    subst e0 e1 e2 e3
    exact ⟨⟨n0, n1, n2, n3, c4, ss⟩, rfl, by have := bt_wf b0; simpa using b0, i64_in b1, u64_U b2, u64_U b3, hs⟩
theorem types32 : Tryz.prog.cellTypes Tryz.prog.depth 32 = some [9, 3, 22, 22, 30] := by kernel_rfl
set_option maxRecDepth 100000 in
/-- A slice that came in lies in a block that is there. -/
theorem slice_block {W : World} {r : Reach} {b0 : Nat} {v : Value} (h : Cell.okWide Tryz.prog W r b0 30 v) : ∀ k, v.ownBlock = some k → k < W.heap.size := by
  intro k hk
  simp only [Cell.okWide, Tryz.underlying30, Cell.ok] at h
  cases v with
  | slice a l c =>
    cases a with
    | none => simp [Value.ownBlock] at hk
    | some ad =>
      simp only [Value.ownBlock, Option.some.injEq] at hk
      subst hk
      obtain ⟨_, _, _, _, row, cells, hsh, _⟩ := h
      unfold World.shape? at hsh
      rcases Nat.lt_or_ge ad.block W.heap.size with h1 | h1
      · exact h1
      · rw [Array.getElem?_eq_none h1] at hsh
        simp at hsh
  | _ => simp_all [Value.ownBlock]
set_option maxRecDepth 100000 in
theorem open_timer {H : Type} {enc : TypeId × Value → H} {W : World} {r : Reach} {b0 : Nat} {v : Value} {d : DataW H} {ps : List MemPlace} (hv : Value.okWide Tryz.prog W r b0 32 v) (h : DataW.Trod enc Tryz.prog W 0 (fun _ => true) true 32 v d ps) :
    ∃ x : Tmr, v = x.val ∧ tok W x ∧ ∀ k, x.v.ownBlock = some k → k < W.heap.size := by
  obtain ⟨cs, rfl, hsz, ts, hts, _, hall⟩ : ∃ cs, v = .agg cs ∧ cs.size = Tryz.prog.cellsOf 32 ∧ Row.okWide Tryz.prog W r b0 32 cs := by
    have := hv
    simpa [Value.okWide, Tryz.underlying32] using this
  obtain ⟨fuel, hf⟩ := h
  obtain ⟨x, hx, hok⟩ := open_timer_cells fuel cs.toList _ (by simp [hsz, cells32t]) (by simpa [Value.cells] using hf)
  have e : cs = x.cells.toArray := by rw [← hx]
  refine ⟨x, by rw [e]; rfl, hok, ?_⟩
  rw [types32] at hts
  cases hts
  obtain ⟨u, hu, hc⟩ := hall 4 x.v (by rw [e]; rfl)
  simp at hu
  subst hu
  exact slice_block hc
theorem cells45t : Tryz.prog.cellsOf 45 = 1 := by kernel_rfl
theorem cells2t : Tryz.prog.cellsOf 2 = 1 := by kernel_rfl
set_option maxRecDepth 100000 in
/-- A step that came in. -/
theorem open_step {H : Type} {enc : TypeId × Value → H} {W : World} {r : Reach} {b0 : Nat} {v : Value} {d : DataW H} {ps : List MemPlace} (hv : Value.okWide Tryz.prog W r b0 47 v) (h : DataW.Trod enc Tryz.prog W 0 (fun _ => true) true 47 v d ps) :
    ∃ x : Sp, v = x.val ∧ x.ok := by
  obtain ⟨cs, rfl, hsz, _⟩ : ∃ cs, v = .agg cs ∧ cs.size = Tryz.prog.cellsOf 47 ∧ Row.okWide Tryz.prog W r b0 47 cs := by
    have := hv
    simpa [Value.okWide, Tryz.underlying47] using this
  obtain ⟨fuel, hf⟩ := h
  have hc4 : cs.size = 4 := by rw [hsz]; kernel_rfl
  obtain ⟨x, hx, hok⟩ := open_step_cells fuel cs.toList _ (by simp [hc4]) (by simpa [Value.cells] using hf)
  refine ⟨x, ?_, hok⟩
  show Value.agg cs = .agg _
  congr 1
  apply Array.toList_inj.1
  rw [hx]
end Go.Proofs.YtblnhcnfeagjhaaGreatDoor
