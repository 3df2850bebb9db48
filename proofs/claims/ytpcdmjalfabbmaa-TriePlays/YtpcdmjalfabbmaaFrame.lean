/- The laws' arguments as the walks want them: what the row's reading says, in their words. -/
import Derived.Test.YtpcdmjalfabbmaaRows
import Derived.Test.YtpcdmjalfabbmaaArg
import Derived.ProofKit
import Derived.OpenShut
import Derived.ShutString
import Derived.ChangeOld
import Derived.Deep.Slices
import Derived.Laws.IdiomArrays
namespace Go.Proofs.Ytpcdmjalfabbmaa
open Go.ChangeShapes Go.WideShapes Go.ChangeAt Go.RowKit Go.Deep
set_option linter.unusedVariables false

theorem laidOut : laidOutB Try.prog = true := by kernel_rfl
theorem ownK : ownKnob Try.prog.godebug = none := by kernel_rfl
theorem i64_bd {n : Int} (h : (Lit.int .i64 n).wf = true) : -9223372036854775808 ≤ n ∧ n < 9223372036854775808 := by
  have := bounds_i64 h
  omega
theorem u64_bd {n : Int} (h : (Lit.int .u64 n).wf = true) : 0 ≤ n ∧ n < 18446744073709551616 := by
  have := bounds_u64 h
  omega
theorem cells3 : Try.prog.cellsOf 3 = 1 := by kernel_rfl
theorem cells9' : Try.prog.cellsOf 9 = 1 := by kernel_rfl
theorem cells30 : Try.prog.cellsOf 30 = 3 := by kernel_rfl
theorem cells24 : Try.prog.cellsOf 24 = 3 := by kernel_rfl
/-- A slice v of elements xs of k cells each. -/
def Many {α : Type} (k : Nat) (cs : α → List Value) (ok : World → α → Prop) (W : World) (v : Value) (xs : List α) : Prop :=
  ((v = .slice none 0 0 ∨ ∃ ad cap, v = .slice (some ad) 0 cap) ∧ xs = []) ∨ ∃ b off cap, v = .slice (some ⟨b, off, none⟩) xs.length cap ∧ b < W.heap.size ∧ xs.length ≤ cap ∧ cap ≤ maxLen ∧
    ∀ j x, xs[j]? = some x → ok W x ∧ ∀ i u, (cs x)[i]? = some u → W.cell? ⟨b, off + j * k + i, none⟩ = some u
theorem open_many {H : Type} {enc : TypeId × Value → H} {α : Type} [Inhabited α] {k : Nat} {cs : α → List Value} {ok : World → α → Prop} {W : World} {t e : TypeId} {a : Option Addr} {len cap : Nat} {d : DataW H} {ps : List MemPlace}
    (ht : Try.prog.underlying t = some (.slice e)) (ce : Try.prog.cellsOf e = k) (each : ∀ (n : Nat) (l : List Value) (y : DataW H × List MemPlace), l.length = k → DataW.trod enc Try.prog W 0 (fun _ => true) true n e l = some y → ∃ x, l = cs x ∧ ok W x) (hk : 0 < k)
    (h : DataW.Trod enc Try.prog W 0 (fun _ => true) true t (.slice a len cap) d ps) : ∃ xs, Many k cs ok W (.slice a len cap) xs := by
  obtain ⟨fuel, hf⟩ := h
  rcases open_slice ht hf with ⟨hcs, _⟩ | ⟨x, l, c, m, n, D, Pl, hcs, hb0, hl, hm, hmm, _, hx⟩
  · simp [Value.cells] at hcs
    obtain ⟨rfl, rfl, rfl⟩ := hcs
    exact ⟨[], .inl ⟨.inl rfl, rfl⟩⟩
  · simp [Value.cells] at hcs
    obtain ⟨rfl, rfl, rfl⟩ := hcs
    have hmm' : m = cap := by simpa using hmm
    subst hmm'
    by_cases h0 : len = 0
    · subst h0
      exact ⟨[], .inl ⟨.inr ⟨_, _, rfl⟩, rfl⟩⟩
    · have each' : ∀ i, i < m → ∃ z : α, ok W z ∧ ∀ j u, (cs z)[j]? = some u → W.cell? (x.add (i * k + j)) = some u := by
        intro i hi
        obtain ⟨cs', h1, h2⟩ := hx i hi
        rw [ce] at h1
        obtain ⟨_, hlen, hcell⟩ := World.cells?_some h1
        obtain ⟨z, hz, hzo⟩ := each n cs' _ hlen h2
        refine ⟨z, hzo, fun j u hj => ?_⟩
        rw [← hz] at hj
        have hjl : j < cs'.length := by
          rcases Nat.lt_or_ge j cs'.length with h | h
          · exact h
          · rw [List.getElem?_eq_none h] at hj; cases hj
        have := hcell j (by omega)
        rw [add_add] at this
        rw [this]
        exact hj
      obtain ⟨f, hfd⟩ := choose_lt each'
      obtain ⟨b, off, spot⟩ := x
      have hc0 : ∃ u, W.cell? ((⟨b, off, spot⟩ : Addr).add 0) = some u := by
        obtain ⟨cs', h1, h2⟩ := hx 0 (by omega)
        rw [ce] at h1
        obtain ⟨_, hlen, hcell⟩ := World.cells?_some h1
        have := hcell 0 hk
        rw [add_add] at this
        simp only [Nat.zero_mul, Nat.add_zero] at this
        rw [List.getElem?_eq_getElem (by omega)] at this
        exact ⟨_, this⟩
      obtain ⟨u0, hc0⟩ := hc0
      have hspot : spot = none := by simpa [Addr.add] using World.cell?_spot hc0
      subst hspot
      have hb : b < W.heap.size := by
        have := World.block_lt_of_cell? W _ hc0
        simpa [Addr.add] using this
      refine ⟨(List.range len).map f, .inr ⟨b, off, m, by simp, hb, by simpa using hl, hm, fun j z hj => ?_⟩⟩
      rw [List.getElem?_map] at hj
      have hjl : j < len := by
        rcases Nat.lt_or_ge j len with h | h
        · exact h
        · rw [List.getElem?_eq_none (by simpa using h)] at hj; cases hj
      rw [List.getElem?_range hjl] at hj
      obtain rfl : f j = z := by simpa using hj
      obtain ⟨q0, q1⟩ := hfd j (by omega)
      refine ⟨q0, fun i u hi => ?_⟩
      have := q1 i u hi
      rw [addr_add] at this
      rw [Nat.add_assoc]
      exact this
theorem bt_wf {n : ByteArray} (h : n.size ≤ maxLen) : n.data.toList.length ≤ maxLen := by
  have := bt_size n.data.toList
  rw [bt_of] at this
  omega
set_option maxRecDepth 100000 in
theorem open_act_cells {H : Type} {enc : TypeId × Value → H} {W : World} (n : Nat) (l : List Value) (y : DataW H × List MemPlace) (hl : l.length = 3) (h : DataW.trod enc Try.prog W 0 (fun _ => true) true n 30 l = some y) : ∃ x : Ac, l = x.cells ∧ x.ok := by
  obtain ⟨xs, m, _, _, _, hxl, hf⟩ := DataW.trod_struct Try.underlying30 h
  match xs, hxl, l, hl with
  | [y0, y1, y2], _, [c0, c1, c2], _ =>
    have g0 := hf 0 _ rfl
    have g1 := hf 1 _ rfl
    have g2 := hf 2 _ rfl
    simp [cells3, cells9'] at g0 g1 g2
    obtain ⟨n0, e0, _, b0⟩ := DataW.trod_int Try.underlying3 g0
    obtain ⟨n1, e1, _, b1⟩ := DataW.trod_string Try.underlying9 g1
    obtain ⟨n2, e2, _, b2⟩ := DataW.trod_string Try.underlying9 g2
    simp only [List.cons.injEq, and_true] at e0 e1 e2
    subst e0 e1 e2
    exact ⟨⟨n0, n1.data.toList, n2⟩, by simp [Ac.cells, bt_of], i64_bd b0, bt_wf b1, b2⟩
set_option maxRecDepth 1000000 in
/-- An Act that came in by value. -/
theorem open_act {H : Type} {enc : TypeId × Value → H} {W : World} {r : Reach} {b0 : Nat} {v : Value} {d : DataW H} {ps : List MemPlace} (hv : Value.okWide Try.prog W r b0 30 v) (h : DataW.Trod enc Try.prog W 0 (fun _ => true) true 30 v d ps) :
    ∃ x : Ac, v = .agg #[.int .i64 x.kd, .string (bt x.ky), .string x.vl] ∧ x.ok := by
  obtain ⟨cs, rfl, hsz⟩ := okWide_struct Try.underlying30 hv
  obtain ⟨fuel, hf⟩ := h
  obtain ⟨x, hx, hok⟩ := open_act_cells fuel cs.toList _ (by simpa [cells30] using hsz) (by simpa [Value.cells] using hf)
  refine ⟨x, ?_, hok⟩
  congr 1
  apply Array.toList_inj.1
  rw [hx]
  rfl
set_option maxRecDepth 100000 in
theorem open_of_cells {H : Type} {enc : TypeId × Value → H} {W : World} (n : Nat) (l : List Value) (y : DataW H × List MemPlace) (hl : l.length = 3) (h : DataW.trod enc Try.prog W 0 (fun _ => true) true n 24 l = some y) : ∃ x : Oq, l = x.cells ∧ x.ok := by
  obtain ⟨xs, m, _, _, _, hxl, hf⟩ := DataW.trod_struct Try.underlying24 h
  match xs, hxl, l, hl with
  | [y0, y1, y2], _, [c0, c1, c2], _ =>
    have g0 := hf 0 _ rfl
    have g1 := hf 1 _ rfl
    have g2 := hf 2 _ rfl
    simp [cells3, cells9'] at g0 g1 g2
    obtain ⟨n0, e0, _, b0⟩ := DataW.trod_string Try.underlying9 g0
    obtain ⟨n1, e1, _, b1⟩ := DataW.trod_int Try.underlying3 g1
    obtain ⟨n2, e2, _, b2⟩ := DataW.trod_string Try.underlying9 g2
    simp only [List.cons.injEq, and_true] at e0 e1 e2
    subst e0 e1 e2
    exact ⟨⟨n0.data.toList, n1, n2.data.toList⟩, by simp [Oq.cells, bt_of], i64_bd b1, bt_wf b0, bt_wf b2⟩
set_option maxRecDepth 1000000 in
/-- An Of that came in by value. -/
theorem open_of {H : Type} {enc : TypeId × Value → H} {W : World} {r : Reach} {b0 : Nat} {v : Value} {d : DataW H} {ps : List MemPlace} (hv : Value.okWide Try.prog W r b0 24 v) (h : DataW.Trod enc Try.prog W 0 (fun _ => true) true 24 v d ps) :
    ∃ x : Oq, v = .agg #[.string (bt x.pf), .int .i64 x.mo, .string (bt x.ky)] ∧ x.ok := by
  obtain ⟨cs, rfl, hsz⟩ := okWide_struct Try.underlying24 hv
  obtain ⟨fuel, hf⟩ := h
  obtain ⟨x, hx, hok⟩ := open_of_cells fuel cs.toList _ (by simpa [cells24] using hsz) (by simpa [Value.cells] using hf)
  refine ⟨x, ?_, hok⟩
  congr 1
  apply Array.toList_inj.1
  rw [hx]
  rfl
/-- A script that came in. -/
theorem open_acts {H : Type} {enc : TypeId × Value → H} {W : World} {a : Option Addr} {len cap : Nat} {d : DataW H} {ps : List MemPlace} (h : DataW.Trod enc Try.prog W 0 (fun _ => true) true 22 (.slice a len cap) d ps) : ∃ xs, Acs W.heap.size W (.slice a len cap) xs := by
  haveI : Inhabited Ac := ⟨⟨0, [], ⟨#[]⟩⟩⟩
  obtain ⟨xs, hx⟩ := open_many (cs := Ac.cells) (ok := fun _ x => x.ok) Try.underlying22 cells30 open_act_cells (by decide) h
  refine ⟨xs, ?_⟩
  rcases hx with e | ⟨b, off, c, e, hb, hl, hm, hc⟩
  · exact .inl e
  · exact .inr ⟨b, off, c, e, hb, hl, hm, fun j x hj => ⟨(hc j x hj).1, (hc j x hj).2 0 _ rfl, (hc j x hj).2 1 _ rfl, (hc j x hj).2 2 _ rfl⟩⟩
end Go.Proofs.Ytpcdmjalfabbmaa
