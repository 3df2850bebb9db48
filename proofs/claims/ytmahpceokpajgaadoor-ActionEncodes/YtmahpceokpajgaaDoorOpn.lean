/- The laws' arguments as the walks want them: what the row's reading says, in their words. -/
import Derived.Test.YtmahpceokpajgaaDoorRows
import Derived.Test.YtmahpceokpajgaaDoorDfr
import Derived.Test.YtmahpceokpajgaaDoorStp
import Derived.Test.YtmahpceokpajgaaDoorCDeca
import Derived.ProofKit
import Derived.OpenShut
import Derived.ShutString
import Derived.ChangeOld
import Derived.Deep.Slices
import Derived.Laws.IdiomArrays
namespace Go.Proofs.YtmahpceokpajgaaDoor
open Go.ChangeShapes Go.WideShapes Go.ChangeAt Go.RowKit Go.Deep
set_option linter.unusedVariables false

theorem cells2 : Tryd.prog.cellsOf 2 = 1 := by kernel_rfl
theorem cells9' : Tryd.prog.cellsOf 9 = 1 := by kernel_rfl
theorem cells34 : Tryd.prog.cellsOf 34 = 1 := by kernel_rfl
theorem cells36 : Tryd.prog.cellsOf 36 = 4 := by kernel_rfl
/-- A slice v of elements xs of k cells each. -/
def Many {α : Type} (k : Nat) (cs : α → List Value) (ok : World → α → Prop) (W : World) (v : Value) (xs : List α) : Prop :=
  ((v = .slice none 0 0 ∨ ∃ ad cap, v = .slice (some ad) 0 cap) ∧ xs = []) ∨ ∃ b off cap, v = .slice (some ⟨b, off, none⟩) xs.length cap ∧ b < W.heap.size ∧ xs.length ≤ cap ∧ cap ≤ maxLen ∧
    ∀ j x, xs[j]? = some x → ok W x ∧ ∀ i u, (cs x)[i]? = some u → W.cell? ⟨b, off + j * k + i, none⟩ = some u
theorem open_many {H : Type} {enc : TypeId × Value → H} {α : Type} [Inhabited α] {k : Nat} {cs : α → List Value} {ok : World → α → Prop} {W : World} {t e : TypeId} {a : Option Addr} {len cap : Nat} {d : DataW H} {ps : List MemPlace}
    (ht : Tryd.prog.underlying t = some (.slice e)) (ce : Tryd.prog.cellsOf e = k) (each : ∀ (n : Nat) (l : List Value) (y : DataW H × List MemPlace), l.length = k → DataW.trod enc Tryd.prog W 0 (fun _ => true) true n e l = some y → ∃ x, l = cs x ∧ ok W x) (hk : 0 < k)
    (h : DataW.Trod enc Tryd.prog W 0 (fun _ => true) true t (.slice a len cap) d ps) : ∃ xs, Many k cs ok W (.slice a len cap) xs := by
  obtain ⟨fuel, hf⟩ := h
  rcases open_slice ht hf with ⟨hcs, _⟩ | ⟨x, l, c, m, n, D, Pl, hcs, hb0, hl, hm, hmm, _, hx⟩
  · simp [Value.cells] at hcs
    obtain ⟨rfl, rfl, rfl⟩ := hcs
    exact ⟨[], .inl ⟨.inl rfl, rfl⟩⟩
  · simp [Value.cells] at hcs
    obtain ⟨rfl, rfl, rfl⟩ := hcs
    have hmm' : m = cap := by simpa using hmm
    subst hmm'
    by_cases h0 : len = 0
    · subst h0
      exact ⟨[], .inl ⟨.inr ⟨_, _, rfl⟩, rfl⟩⟩
    · have each' : ∀ i, i < m → ∃ z : α, ok W z ∧ ∀ j u, (cs z)[j]? = some u → W.cell? (x.add (i * k + j)) = some u := by
        intro i hi
        obtain ⟨cs', h1, h2⟩ := hx i hi
        rw [ce] at h1
        obtain ⟨_, hlen, hcell⟩ := World.cells?_some h1
        obtain ⟨z, hz, hzo⟩ := each n cs' _ hlen h2
        refine ⟨z, hzo, fun j u hj => ?_⟩
        rw [← hz] at hj
        have hjl : j < cs'.length := by
          rcases Nat.lt_or_ge j cs'.length with h | h
          · exact h
          · rw [List.getElem?_eq_none h] at hj; cases hj
        have := hcell j (by omega)
        rw [add_add] at this
        rw [this]
        exact hj
      obtain ⟨f, hfd⟩ := choose_lt each'
      obtain ⟨b, off, spot⟩ := x
      have hc0 : ∃ u, W.cell? ((⟨b, off, spot⟩ : Addr).add 0) = some u := by
        obtain ⟨cs', h1, h2⟩ := hx 0 (by omega)
        rw [ce] at h1
        obtain ⟨_, hlen, hcell⟩ := World.cells?_some h1
        have := hcell 0 hk
        rw [add_add] at this
        simp only [Nat.zero_mul, Nat.add_zero] at this
        rw [List.getElem?_eq_getElem (by omega)] at this
        exact ⟨_, this⟩
      obtain ⟨u0, hc0⟩ := hc0
      have hspot : spot = none := by simpa [Addr.add] using World.cell?_spot hc0
      subst hspot
      have hb : b < W.heap.size := by
        have := World.block_lt_of_cell? W _ hc0
        simpa [Addr.add] using this
      refine ⟨(List.range len).map f, .inr ⟨b, off, m, by simp, hb, by simpa using hl, hm, fun j z hj => ?_⟩⟩
      rw [List.getElem?_map] at hj
      have hjl : j < len := by
        rcases Nat.lt_or_ge j len with h | h
        · exact h
        · rw [List.getElem?_eq_none (by simpa using h)] at hj; cases hj
      rw [List.getElem?_range hjl] at hj
      obtain rfl : f j = z := by simpa using hj
      obtain ⟨q0, q1⟩ := hfd j (by omega)
      refine ⟨q0, fun i u hi => ?_⟩
      have := q1 i u hi
      rw [addr_add] at this
      rw [Nat.add_assoc]
      exact this
theorem bt_wf {n : ByteArray} (h : n.size ≤ maxLen) : n.data.toList.length ≤ maxLen := by
  have := bt_size n.data.toList
  rw [bt_of] at this
  omega
/-- A []byte in a cell. -/
theorem open_bts_cell {H : Type} {enc : TypeId × Value → H} {W : World} {v : Value} {fuel : Nat} {y : DataW H × List MemPlace} (hf : DataW.trod enc Tryd.prog W 0 (fun _ => true) true fuel 23 [v] = some y) :
    ∃ a cap zs, v = .slice a zs.length cap ∧ C.Bts W.heap.size W (.slice a zs.length cap) zs := by
  rcases open_ints Tryd.underlying23 Tryd.underlying5 (by kernel_rfl) hf with ⟨hcs, _⟩ | ⟨x, l, c, zs, hcs, _, hl, hm, hz, _, hcell, hwz⟩
  · simp at hcs
    subst hcs
    exact ⟨none, 0, [], rfl, .inl ⟨.inl rfl, rfl⟩, fun z hz => by cases hz⟩
  · simp at hcs
    subst hcs
    have hz' : zs.length = c := by simpa using hz
    by_cases h0 : l = 0
    · subst h0
      exact ⟨some x, c, [], rfl, .inl ⟨.inr ⟨_, _, rfl⟩, rfl⟩, fun z hz => by cases hz⟩
    · obtain ⟨b, off, spot⟩ := x
      have hc0 := hcell 0 (by omega)
      have hspot : spot = none := by simpa [Addr.add] using World.cell?_spot hc0
      subst hspot
      have hb : b < W.heap.size := by
        have := World.block_lt_of_cell? W _ hc0
        simpa [Addr.add] using this
      have hlt : (zs.take l).length = l := by rw [List.length_take]; omega
      refine ⟨some ⟨b, off, none⟩, c, zs.take l, by rw [hlt], .inr ⟨b, off, c, rfl, hb, by omega, hm, fun j hj => ?_⟩, fun z hz => ?_⟩
      · have := hcell j (by omega)
        rw [addr_add] at this
        rw [this, List.getElem?_take, if_pos (by omega)]
        rfl
      · have := bounds_u8 (hwz z (List.mem_of_mem_take hz))
        omega
set_option maxRecDepth 100000 in
theorem open_step_cells {H : Type} {enc : TypeId × Value → H} {W : World} (n : Nat) (l : List Value) (y : DataW H × List MemPlace) (hl : l.length = 4) (h : DataW.trod enc Tryd.prog W 0 (fun _ => true) true n 36 l = some y) : ∃ x : Sp, l = [.int .i64 x.kd, .string (bt x.ky), .string (bt x.vl), .int .i64 x.n] ∧ x.ok := by
  obtain ⟨xs, m, _, _, _, hxl, hf⟩ := DataW.trod_struct Tryd.underlying36 h
  match xs, hxl, l, hl with
  | [y0, y1, y2, y3], _, [c0, c1, c2, c3], _ =>
    have g0 := hf 0 _ rfl
    have g1 := hf 1 _ rfl
    have g2 := hf 2 _ rfl
    have g3 := hf 3 _ rfl
    simp [cells2, cells9', cells34] at g0 g1 g2 g3
    obtain ⟨n0, e0, _, b0⟩ := DataW.trod_int Tryd.underlying34 g0
    obtain ⟨n1, e1, _, b1⟩ := DataW.trod_string Tryd.underlying9 g1
    obtain ⟨n2, e2, _, b2⟩ := DataW.trod_string Tryd.underlying9 g2
    obtain ⟨n3, e3, _, b3⟩ := DataW.trod_int Tryd.underlying2 g3
    simp only [List.cons.injEq, and_true] at e0 e1 e2 e3
    subst e0 e1 e2 e3
    exact ⟨⟨n0, n1.data.toList, n2.data.toList, n3⟩, by simp [bt_of], i64_in b0, bt_wf b1, bt_wf b2, i64_in b3⟩
theorem open_steps {H : Type} {enc : TypeId × Value → H} {W : World} {a : Option Addr} {len cap : Nat} {d : DataW H} {ps : List MemPlace} (h : DataW.Trod enc Tryd.prog W 0 (fun _ => true) true 22 (.slice a len cap) d ps) :
    ∃ xs, Sps W.heap.size W (.slice a len cap) xs := by
  haveI : Inhabited Sp := ⟨⟨0, [], [], 0⟩⟩
  obtain ⟨xs, hm⟩ := open_many (k := 4) (cs := fun x : Sp => [Value.int .i64 x.kd, .string (bt x.ky), .string (bt x.vl), .int .i64 x.n]) (ok := fun _ x => x.ok) Tryd.underlying22 cells36 (fun n l y hl h => open_step_cells n l y hl h) (by decide) h
  refine ⟨xs, ?_⟩
  rcases hm with e | ⟨b, off, c, e, hb, hl, hmm, hc⟩
  · exact .inl e
  · exact .inr ⟨b, off, c, e, hb, hl, hmm, fun j x hj => ⟨(hc j x hj).1, (hc j x hj).2 0 _ rfl, (hc j x hj).2 1 _ rfl, (hc j x hj).2 2 _ rfl, (hc j x hj).2 3 _ rfl⟩⟩
set_option maxRecDepth 1000000 in
theorem open_bytes {H : Type} {enc : TypeId × Value → H} {W : World} {r : Reach} {b0 : Nat} {v : Value} {d : DataW H} {ps : List MemPlace} (hv : Value.okWide Tryd.prog W r b0 23 v) (h : DataW.Trod enc Tryd.prog W 0 (fun _ => true) true 23 v d ps) : ∃ zs, C.Bts W.heap.size W v zs := by
  obtain ⟨a, len, cap, rfl⟩ := okWide_slice Tryd.underlying23 hv
  obtain ⟨fuel, hf⟩ := h
  obtain ⟨a', c', zs, e, hb⟩ := open_bts_cell (by simpa [Value.cells] using hf)
  exact ⟨zs, by rw [e]; exact hb⟩
end Go.Proofs.YtmahpceokpajgaaDoor
