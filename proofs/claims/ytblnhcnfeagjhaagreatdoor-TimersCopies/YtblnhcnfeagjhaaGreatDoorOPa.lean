/- The laws' arguments as the walks want them: what the row's reading says, in their words. -/
import Derived.Test.YtblnhcnfeagjhaaGreatDoorRows
import Derived.Test.YtblnhcnfeagjhaaGreatDoorDfr
import Derived.Test.YtblnhcnfeagjhaaGreatDoorStp
import Derived.Test.YtblnhcnfeagjhaaGreatDoorCApf
import Derived.ProofKit
import Derived.OpenShut
import Derived.ShutString
import Derived.ChangeOld
import Derived.Deep.Slices
import Derived.Laws.IdiomArrays
import Derived.Test.YtblnhcnfeagjhaaGreatDoorAMa
namespace Go.Proofs.YtblnhcnfeagjhaaGreatDoor
open Go.ChangeShapes Go.WideShapes Go.ChangeAt Go.RowKit Go.Deep
set_option linter.unusedVariables false

theorem cells2 : Tryz.prog.cellsOf 2 = 1 := by kernel_rfl
theorem cells9' : Tryz.prog.cellsOf 9 = 1 := by kernel_rfl
theorem cells34 : Tryz.prog.cellsOf 45 = 1 := by kernel_rfl
theorem cells36 : Tryz.prog.cellsOf 47 = 4 := by kernel_rfl
/-- A slice v of elements xs of k cells each. -/
def Many {α : Type} (k : Nat) (cs : α → List Value) (ok : World → α → Prop) (W : World) (v : Value) (xs : List α) : Prop :=
  ((v = .slice none 0 0 ∨ ∃ ad cap, v = .slice (some ad) 0 cap) ∧ xs = []) ∨ ∃ b off cap, v = .slice (some ⟨b, off, none⟩) xs.length cap ∧ b < W.heap.size ∧ xs.length ≤ cap ∧ cap ≤ maxLen ∧
    ∀ j x, xs[j]? = some x → ok W x ∧ ∀ i u, (cs x)[i]? = some u → W.cell? ⟨b, off + j * k + i, none⟩ = some u
theorem open_many {H : Type} {enc : TypeId × Value → H} {α : Type} [Inhabited α] {k : Nat} {cs : α → List Value} {ok : World → α → Prop} {W : World} {t e : TypeId} {a : Option Addr} {len cap : Nat} {d : DataW H} {ps : List MemPlace}
    (ht : Tryz.prog.underlying t = some (.slice e)) (ce : Tryz.prog.cellsOf e = k) (each : ∀ (n : Nat) (l : List Value) (y : DataW H × List MemPlace), l.length = k → DataW.trod enc Tryz.prog W 0 (fun _ => true) true n e l = some y → ∃ x, l = cs x ∧ ok W x) (hk : 0 < k)
    (h : DataW.Trod enc Tryz.prog W 0 (fun _ => true) true t (.slice a len cap) d ps) : ∃ xs, Many k cs ok W (.slice a len cap) xs := by
  obtain ⟨fuel, hf⟩ := h
  rcases open_slice ht hf with ⟨hcs, _⟩ | ⟨x, l, c, m, n, D, Pl, hcs, hb0, hl, hm, hmm, _, hx⟩
  · simp [Value.cells] at hcs
    obtain ⟨rfl, rfl, rfl⟩ := hcs
    exact ⟨[], .inl ⟨.inl rfl, rfl⟩⟩
  · simp [Value.cells] at hcs
    obtain ⟨rfl, rfl, rfl⟩ := hcs
    have hmm' : m = cap := by simpa using hmm
    subst hmm'
    by_cases h0 : len = 0
    · subst h0
      exact ⟨[], .inl ⟨.inr ⟨_, _, rfl⟩, rfl⟩⟩
    · have each' : ∀ i, i < m → ∃ z : α, ok W z ∧ ∀ j u, (cs z)[j]? = some u → W.cell? (x.add (i * k + j)) = some u := by
        intro i hi
        obtain ⟨cs', h1, h2⟩ := hx i hi
        rw [ce] at h1
        obtain ⟨_, hlen, hcell⟩ := World.cells?_some h1
        obtain ⟨z, hz, hzo⟩ := each n cs' _ hlen h2
        refine ⟨z, hzo, fun j u hj => ?_⟩
        rw [← hz] at hj
        have hjl : j < cs'.length := by
          rcases Nat.lt_or_ge j cs'.length with h | h
          · exact h
          · rw [List.getElem?_eq_none h] at hj; cases hj
        have := hcell j (by omega)
        rw [add_add] at this
        rw [this]
        exact hj
      obtain ⟨f, hfd⟩ := choose_lt each'
      obtain ⟨b, off, spot⟩ := x
      have hc0 : ∃ u, W.cell? ((⟨b, off, spot⟩ : Addr).add 0) = some u := by
        obtain ⟨cs', h1, h2⟩ := hx 0 (by omega)
        rw [ce] at h1
        obtain ⟨_, hlen, hcell⟩ := World.cells?_some h1
        have := hcell 0 hk
        rw [add_add] at this
        simp only [Nat.zero_mul, Nat.add_zero] at this
        rw [List.getElem?_eq_getElem (by omega)] at this
        exact ⟨_, this⟩
      obtain ⟨u0, hc0⟩ := hc0
      have hspot : spot = none := by simpa [Addr.add] using World.cell?_spot hc0
      subst hspot
      have hb : b < W.heap.size := by
        have := World.block_lt_of_cell? W _ hc0
        simpa [Addr.add] using this
      refine ⟨(List.range len).map f, .inr ⟨b, off, m, by simp, hb, by simpa using hl, hm, fun j z hj => ?_⟩⟩
      rw [List.getElem?_map] at hj
      have hjl : j < len := by
        rcases Nat.lt_or_ge j len with h | h
        · exact h
        · rw [List.getElem?_eq_none (by simpa using h)] at hj; cases hj
      rw [List.getElem?_range hjl] at hj
      obtain rfl : f j = z := by simpa using hj
      obtain ⟨q0, q1⟩ := hfd j (by omega)
      refine ⟨q0, fun i u hi => ?_⟩
      have := q1 i u hi
      rw [addr_add] at this
      rw [Nat.add_assoc]
      exact this
theorem bt_wf {n : ByteArray} (h : n.size ≤ maxLen) : n.data.toList.length ≤ maxLen := by
  have := bt_size n.data.toList
  rw [bt_of] at this
  omega
/-- A []byte in a cell. -/
theorem open_bts_cell {H : Type} {enc : TypeId × Value → H} {W : World} {v : Value} {fuel : Nat} {y : DataW H × List MemPlace} (hf : DataW.trod enc Tryz.prog W 0 (fun _ => true) true fuel 78 [v] = some y) :
    ∃ a cap zs, v = .slice a zs.length cap ∧ C.Bts W.heap.size W (.slice a zs.length cap) zs := by
  rcases open_ints Tryz.underlying78 Tryz.underlying5 (by kernel_rfl) hf with ⟨hcs, _⟩ | ⟨x, l, c, zs, hcs, _, hl, hm, hz, _, hcell, hwz⟩
  · simp at hcs
    subst hcs
    exact ⟨none, 0, [], rfl, .inl ⟨.inl rfl, rfl⟩, fun z hz => by cases hz⟩
  · simp at hcs
    subst hcs
    have hz' : zs.length = c := by simpa using hz
    by_cases h0 : l = 0
    · subst h0
      exact ⟨some x, c, [], rfl, .inl ⟨.inr ⟨_, _, rfl⟩, rfl⟩, fun z hz => by cases hz⟩
    · obtain ⟨b, off, spot⟩ := x
      have hc0 := hcell 0 (by omega)
      have hspot : spot = none := by simpa [Addr.add] using World.cell?_spot hc0
      subst hspot
      have hb : b < W.heap.size := by
        have := World.block_lt_of_cell? W _ hc0
        simpa [Addr.add] using this
      have hlt : (zs.take l).length = l := by rw [List.length_take]; omega
      refine ⟨some ⟨b, off, none⟩, c, zs.take l, by rw [hlt], .inr ⟨b, off, c, rfl, hb, by omega, hm, fun j hj => ?_⟩, fun z hz => ?_⟩
      · have := hcell j (by omega)
        rw [addr_add] at this
        rw [this, List.getElem?_take, if_pos (by omega)]
        rfl
      · have := bounds_u8 (hwz z (List.mem_of_mem_take hz))
        omega
set_option maxRecDepth 100000 in
theorem open_step_cells {H : Type} {enc : TypeId × Value → H} {W : World} (n : Nat) (l : List Value) (y : DataW H × List MemPlace) (hl : l.length = 4) (h : DataW.trod enc Tryz.prog W 0 (fun _ => true) true n 47 l = some y) : ∃ x : Sp, l = [.int .i64 x.kd, .string (bt x.ky), .string (bt x.vl), .int .i64 x.n] ∧ x.ok := by
  obtain ⟨xs, m, _, _, _, hxl, hf⟩ := DataW.trod_struct Tryz.underlying47 h
  match xs, hxl, l, hl with
  | [y0, y1, y2, y3], _, [c0, c1, c2, c3], _ =>
    have g0 := hf 0 _ rfl
    have g1 := hf 1 _ rfl
    have g2 := hf 2 _ rfl
    have g3 := hf 3 _ rfl
    simp [cells2, cells9', cells34] at g0 g1 g2 g3
    obtain ⟨n0, e0, _, b0⟩ := DataW.trod_int Tryz.underlying45 g0
    obtain ⟨n1, e1, _, b1⟩ := DataW.trod_string Tryz.underlying9 g1
    obtain ⟨n2, e2, _, b2⟩ := DataW.trod_string Tryz.underlying9 g2
    obtain ⟨n3, e3, _, b3⟩ := DataW.trod_int Tryz.underlying2 g3
    simp only [List.cons.injEq, and_true] at e0 e1 e2 e3
    subst e0 e1 e2 e3
    exact ⟨⟨n0, n1.data.toList, n2.data.toList, n3⟩, by simp [bt_of], i64_in b0, bt_wf b1, bt_wf b2, i64_in b3⟩
theorem open_steps {H : Type} {enc : TypeId × Value → H} {W : World} {a : Option Addr} {len cap : Nat} {d : DataW H} {ps : List MemPlace} (h : DataW.Trod enc Tryz.prog W 0 (fun _ => true) true 30 (.slice a len cap) d ps) :
    ∃ xs, Sps W.heap.size W (.slice a len cap) xs := by
  haveI : Inhabited Sp := ⟨⟨0, [], [], 0⟩⟩
  obtain ⟨xs, hm⟩ := open_many (k := 4) (cs := fun x : Sp => [Value.int .i64 x.kd, .string (bt x.ky), .string (bt x.vl), .int .i64 x.n]) (ok := fun _ x => x.ok) Tryz.underlying30 cells36 (fun n l y hl h => open_step_cells n l y hl h) (by decide) h
  refine ⟨xs, ?_⟩
  rcases hm with e | ⟨b, off, c, e, hb, hl, hmm, hc⟩
  · exact .inl e
  · exact .inr ⟨b, off, c, e, hb, hl, hmm, fun j x hj => ⟨(hc j x hj).1, (hc j x hj).2 0 _ rfl, (hc j x hj).2 1 _ rfl, (hc j x hj).2 2 _ rfl, (hc j x hj).2 3 _ rfl⟩⟩
set_option maxRecDepth 1000000 in
theorem open_bytes {H : Type} {enc : TypeId × Value → H} {W : World} {r : Reach} {b0 : Nat} {v : Value} {d : DataW H} {ps : List MemPlace} (hv : Value.okWide Tryz.prog W r b0 78 v) (h : DataW.Trod enc Tryz.prog W 0 (fun _ => true) true 78 v d ps) : ∃ zs, C.Bts W.heap.size W v zs := by
  obtain ⟨a, len, cap, rfl⟩ := okWide_slice Tryz.underlying78 hv
  obtain ⟨fuel, hf⟩ := h
  obtain ⟨a', c', zs, e, hb⟩ := open_bts_cell (by simpa [Value.cells] using hf)
  exact ⟨zs, by rw [e]; exact hb⟩
end Go.Proofs.YtblnhcnfeagjhaaGreatDoor

/- Timers that came in. -/
namespace Go.Proofs.YtblnhcnfeagjhaaGreatDoor
open Go.ChangeShapes Go.WideShapes Go.ChangeAt Go.RowKit Go.Deep
set_option linter.unusedVariables false
theorem cells3t : Tryz.prog.cellsOf 3 = 1 := by kernel_rfl
theorem cells22t : Tryz.prog.cellsOf 22 = 1 := by kernel_rfl
theorem cells30t : Tryz.prog.cellsOf 30 = 1 := by kernel_rfl
theorem cells32t : Tryz.prog.cellsOf 32 = 5 := by kernel_rfl
/-- What a timer that came in is. -/
def tok (W : World) (x : Tmr) : Prop := x.nm.size ≤ maxLen ∧ In64 x.vr ∧ V.U x.at_ ∧ V.U x.ev ∧ Sps W.heap.size W x.v x.xs
theorem open_steps_cell {H : Type} {enc : TypeId × Value → H} {W : World} {v : Value} {fuel : Nat} {y : DataW H × List MemPlace} (hf : DataW.trod enc Tryz.prog W 0 (fun _ => true) true fuel 30 [v] = some y) :
    ∃ xs, Sps W.heap.size W v xs := by
  have hs : ∃ a l c, v = .slice a l c := by
    rcases open_slice Tryz.underlying30 hf with ⟨hcs, _⟩ | ⟨x, l, c, m, n, D, Pl, hcs, _⟩
    · simp at hcs; exact ⟨_, _, _, hcs⟩
    · simp at hcs; exact ⟨_, _, _, hcs⟩
  obtain ⟨a, l, c, rfl⟩ := hs
  exact open_steps (d := y.1) (ps := y.2) ⟨fuel, by simpa [Value.cells] using hf⟩
set_option maxRecDepth 100000 in
theorem open_timer_cells {H : Type} {enc : TypeId × Value → H} {W : World} (n : Nat) (l : List Value) (y : DataW H × List MemPlace) (hl : l.length = 5) (h : DataW.trod enc Tryz.prog W 0 (fun _ => true) true n 32 l = some y) : ∃ x : Tmr, l = x.cells ∧ tok W x := by
  obtain ⟨xs, m, _, _, _, hxl, hf⟩ := DataW.trod_struct Tryz.underlying32 h
  match xs, hxl, l, hl with
  | [y0, y1, y2, y3, y4], _, [c0, c1, c2, c3, c4], _ =>
    have g0 := hf 0 _ rfl
    have g1 := hf 1 _ rfl
    have g2 := hf 2 _ rfl
    have g3 := hf 3 _ rfl
    have g4 := hf 4 _ rfl
    simp [cells3t, cells9', cells22t, cells30t] at g0 g1 g2 g3 g4
    obtain ⟨n0, e0, _, b0⟩ := DataW.trod_string Tryz.underlying9 g0
    obtain ⟨n1, e1, _, b1⟩ := DataW.trod_int Tryz.underlying3 g1
    obtain ⟨n2, e2, _, b2⟩ := DataW.trod_int Tryz.underlying22 g2
    obtain ⟨n3, e3, _, b3⟩ := DataW.trod_int Tryz.underlying22 g3
    obtain ⟨ss, hs⟩ := open_steps_cell g4
    simp only [List.cons.injEq, and_true] at e0 e1 e2 e3
    subst e0 e1 e2 e3
    exact ⟨⟨n0, n1, n2, n3, c4, ss⟩, rfl, by have := bt_wf b0; simpa using b0, i64_in b1, u64_U b2, u64_U b3, hs⟩
theorem types32 : Tryz.prog.cellTypes Tryz.prog.depth 32 = some [9, 3, 22, 22, 30] := by kernel_rfl
set_option maxRecDepth 100000 in
/-- A slice that came in lies in a block that is there. -/
theorem slice_block {W : World} {r : Reach} {b0 : Nat} {v : Value} (h : Cell.okWide Tryz.prog W r b0 30 v) : ∀ k, v.ownBlock = some k → k < W.heap.size := by
  intro k hk
  simp only [Cell.okWide, Tryz.underlying30, Cell.ok] at h
  cases v with
  | slice a l c =>
    cases a with
    | none => simp [Value.ownBlock] at hk
    | some ad =>
      simp only [Value.ownBlock, Option.some.injEq] at hk
      subst hk
      obtain ⟨_, _, _, _, row, cells, hsh, _⟩ := h
      unfold World.shape? at hsh
      rcases Nat.lt_or_ge ad.block W.heap.size with h1 | h1
      · exact h1
      · rw [Array.getElem?_eq_none h1] at hsh
        simp at hsh
  | _ => simp_all [Value.ownBlock]
set_option maxRecDepth 100000 in
theorem open_timer {H : Type} {enc : TypeId × Value → H} {W : World} {r : Reach} {b0 : Nat} {v : Value} {d : DataW H} {ps : List MemPlace} (hv : Value.okWide Tryz.prog W r b0 32 v) (h : DataW.Trod enc Tryz.prog W 0 (fun _ => true) true 32 v d ps) :
    ∃ x : Tmr, v = x.val ∧ tok W x ∧ ∀ k, x.v.ownBlock = some k → k < W.heap.size := by
  obtain ⟨cs, rfl, hsz, ts, hts, _, hall⟩ : ∃ cs, v = .agg cs ∧ cs.size = Tryz.prog.cellsOf 32 ∧ Row.okWide Tryz.prog W r b0 32 cs := by
    have := hv
    simpa [Value.okWide, Tryz.underlying32] using this
  obtain ⟨fuel, hf⟩ := h
  obtain ⟨x, hx, hok⟩ := open_timer_cells fuel cs.toList _ (by simp [hsz, cells32t]) (by simpa [Value.cells] using hf)
  have e : cs = x.cells.toArray := by rw [← hx]
  refine ⟨x, by rw [e]; rfl, hok, ?_⟩
  rw [types32] at hts
  cases hts
  obtain ⟨u, hu, hc⟩ := hall 4 x.v (by rw [e]; rfl)
  simp at hu
  subst hu
  exact slice_block hc
theorem cells45t : Tryz.prog.cellsOf 45 = 1 := by kernel_rfl
theorem cells2t : Tryz.prog.cellsOf 2 = 1 := by kernel_rfl
set_option maxRecDepth 100000 in
/-- A step that came in. -/
theorem open_step {H : Type} {enc : TypeId × Value → H} {W : World} {r : Reach} {b0 : Nat} {v : Value} {d : DataW H} {ps : List MemPlace} (hv : Value.okWide Tryz.prog W r b0 47 v) (h : DataW.Trod enc Tryz.prog W 0 (fun _ => true) true 47 v d ps) :
    ∃ x : Sp, v = x.val ∧ x.ok := by
  obtain ⟨cs, rfl, hsz, _⟩ : ∃ cs, v = .agg cs ∧ cs.size = Tryz.prog.cellsOf 47 ∧ Row.okWide Tryz.prog W r b0 47 cs := by
    have := hv
    simpa [Value.okWide, Tryz.underlying47] using this
  obtain ⟨fuel, hf⟩ := h
  have hc4 : cs.size = 4 := by rw [hsz]; kernel_rfl
  obtain ⟨x, hx, hok⟩ := open_step_cells fuel cs.toList _ (by simp [hc4]) (by simpa [Value.cells] using hf)
  refine ⟨x, ?_, hok⟩
  show Value.agg cs = .agg _
  congr 1
  apply Array.toList_inj.1
  rw [hx]
end Go.Proofs.YtblnhcnfeagjhaaGreatDoor

/- Lists of timers that came in; two numbers. -/
namespace Go.Proofs.YtblnhcnfeagjhaaGreatDoor
open Go.ChangeShapes Go.WideShapes Go.ChangeAt Go.RowKit Go.Deep
set_option linter.unusedVariables false
/-- A slice of timers that came in. -/
def Tms (W : World) (v : Value) (l : List Tmr) : Prop := Many 5 Tmr.cells tok W v l
theorem open_timers {H : Type} {enc : TypeId × Value → H} {W : World} {a : Option Addr} {len cap : Nat} {d : DataW H} {ps : List MemPlace} (h : DataW.Trod enc Tryz.prog W 0 (fun _ => true) true 27 (.slice a len cap) d ps) :
    ∃ xs, Tms W (.slice a len cap) xs := by
  haveI : Inhabited Tmr := ⟨⟨⟨#[]⟩, 0, 0, 0, .slice none 0 0, []⟩⟩
  exact open_many (k := 5) (cs := Tmr.cells) (ok := tok) Tryz.underlying27 cells32t (fun n l y hl h => open_timer_cells n l y hl h) (by decide) h
theorem trod_array2 {H : Type} {enc : TypeId × Value → H} {P : Program} {w : World} {base : Nat} {spare : Nat → Bool} {held : Bool} {t e : TypeId} {fuel : Nat} {c0 c1 : Value} {x : DataW H × List MemPlace} (ht : P.underlying t = some (.array 2 e)) (hce : P.cellsOf e = 1)
    (h : DataW.trod enc P w base spare held fuel t [c0, c1] = some x) :
    ∃ y0 y1 n, DataW.trod enc P w base spare held n e [c0] = some y0 ∧ DataW.trod enc P w base spare held n e [c1] = some y1 := by
  cases fuel with
  | zero => simp [DataW.trod] at h
  | succ n =>
    unfold DataW.trod at h
    rw [ht] at h
    have r3 : List.range 2 = [0, 1] := rfl
    simp [r3, hce] at h
    obtain ⟨_, h⟩ := h
    cases h0 : DataW.trod enc P w base spare held n e [c0] with
    | none => simp [h0] at h
    | some y0 =>
      cases h1 : DataW.trod enc P w base spare held n e [c1] with
      | none => simp [h0, h1] at h
      | some y1 => exact ⟨y0, y1, n, h0, h1⟩
theorem sps_low {n : Nat} {W : World} {v : Value} {xs : List Sp} (h : Sps n W v xs) : ∀ k, v.ownBlock = some k → xs ≠ [] → k < n := fun k hk hx => by
  rcases h with ⟨_, h⟩ | ⟨b, off, cap, rfl, hb, _⟩
  · exact absurd h hx
  · simp [Value.ownBlock] at hk
    omega
theorem cells51 : Tryz.prog.cellsOf 51 = 2 := by kernel_rfl
set_option maxRecDepth 100000 in
theorem open_utwo {H : Type} {enc : TypeId × Value → H} {W : World} {r : Reach} {b0 : Nat} {v : Value} {d : DataW H} {ps : List MemPlace} (hv : Value.okWide Tryz.prog W r b0 51 v) (h : DataW.Trod enc Tryz.prog W 0 (fun _ => true) true 51 v d ps) :
    ∃ n0 n1 : Int, v = .agg #[.int .u64 n0, .int .u64 n1] ∧ V.U n0 ∧ V.U n1 := by
  obtain ⟨cs, rfl, hsz, _⟩ : ∃ cs, v = .agg cs ∧ cs.size = Tryz.prog.cellsOf 51 ∧ Row.okWide Tryz.prog W r b0 51 cs := by
    have := hv
    simpa [Value.okWide, Tryz.underlying51] using this
  obtain ⟨x0, x1, rfl⟩ := Joins.array2 (hsz.trans cells51)
  obtain ⟨fuel, hf⟩ := h
  obtain ⟨y0, y1, n, h0, h1⟩ := trod_array2 Tryz.underlying51 cells22t (by simpa [Value.cells] using hf)
  obtain ⟨n0, e0, _, b0⟩ := DataW.trod_int Tryz.underlying22 h0
  obtain ⟨n1, e1, _, b1⟩ := DataW.trod_int Tryz.underlying22 h1
  simp only [List.cons.injEq, and_true] at e0 e1
  subst e0 e1
  exact ⟨n0, n1, rfl, u64_U b0, u64_U b1⟩
end Go.Proofs.YtblnhcnfeagjhaaGreatDoor
