/- The laws' arguments as the walks want them: what the row's reading says, in their words. -/
import Derived.Test.YtlljfgpmjpmoiaaRows
import Derived.Test.YtlljfgpmjpmoiaaArg
import Derived.ProofKit
import Derived.OpenShut
import Derived.ShutString
import Derived.ChangeOld
import Derived.Deep.Slices
import Derived.Laws.IdiomArrays
namespace Go.Proofs.Ytlljfgpmjpmoiaa
open Go.ChangeShapes Go.WideShapes Go.ChangeAt Go.RowKit Go.Deep
set_option linter.unusedVariables false

theorem own : ownKnob Try.prog.godebug = none := by kernel_rfl
theorem i64_bd {n : Int} (h : (Lit.int .i64 n).wf = true) : -9223372036854775808 ≤ n ∧ n < 9223372036854775808 := by
  have := bounds_i64 h
  omega
theorem u64_bd {n : Int} (h : (Lit.int .u64 n).wf = true) : 0 ≤ n ∧ n < 18446744073709551616 := by
  have := bounds_u64 h
  omega
theorem cells3 : Try.prog.cellsOf 3 = 1 := by kernel_rfl
theorem cells31 : Try.prog.cellsOf 31 = 4 := by kernel_rfl
theorem cells54 : Try.prog.cellsOf 54 = 2 := by kernel_rfl
/-- A slice v of elements xs of k cells each. -/
def Many {α : Type} (k : Nat) (cs : α → List Value) (ok : World → α → Prop) (W : World) (v : Value) (xs : List α) : Prop :=
  ((v = .slice none 0 0 ∨ ∃ ad cap, v = .slice (some ad) 0 cap) ∧ xs = []) ∨ ∃ b off cap, v = .slice (some ⟨b, off, none⟩) xs.length cap ∧ b < W.heap.size ∧ xs.length ≤ cap ∧ cap ≤ maxLen ∧
    ∀ j x, xs[j]? = some x → ok W x ∧ ∀ i u, (cs x)[i]? = some u → W.cell? ⟨b, off + j * k + i, none⟩ = some u
theorem open_many {H : Type} {enc : TypeId × Value → H} {α : Type} [Inhabited α] {k : Nat} {cs : α → List Value} {ok : World → α → Prop} {W : World} {t e : TypeId} {a : Option Addr} {len cap : Nat} {d : DataW H} {ps : List MemPlace}
    (ht : Try.prog.underlying t = some (.slice e)) (ce : Try.prog.cellsOf e = k) (each : ∀ (n : Nat) (l : List Value) (y : DataW H × List MemPlace), l.length = k → DataW.trod enc Try.prog W 0 (fun _ => true) true n e l = some y → ∃ x, l = cs x ∧ ok W x) (hk : 0 < k)
    (h : DataW.Trod enc Try.prog W 0 (fun _ => true) true t (.slice a len cap) d ps) : ∃ xs, Many k cs ok W (.slice a len cap) xs := by
  obtain ⟨fuel, hf⟩ := h
  rcases open_slice ht hf with ⟨hcs, _⟩ | ⟨x, l, c, m, n, D, Pl, hcs, hb0, hl, hm, hmm, _, hx⟩
  · simp [Value.cells] at hcs
    obtain ⟨rfl, rfl, rfl⟩ := hcs
    exact ⟨[], .inl ⟨.inl rfl, rfl⟩⟩
  · simp [Value.cells] at hcs
    obtain ⟨rfl, rfl, rfl⟩ := hcs
    have hmm' : m = cap := by simpa using hmm
    subst hmm'
    by_cases h0 : len = 0
    · subst h0
      exact ⟨[], .inl ⟨.inr ⟨_, _, rfl⟩, rfl⟩⟩
    · have each' : ∀ i, i < m → ∃ z : α, ok W z ∧ ∀ j u, (cs z)[j]? = some u → W.cell? (x.add (i * k + j)) = some u := by
        intro i hi
        obtain ⟨cs', h1, h2⟩ := hx i hi
        rw [ce] at h1
        obtain ⟨_, hlen, hcell⟩ := World.cells?_some h1
        obtain ⟨z, hz, hzo⟩ := each n cs' _ hlen h2
        refine ⟨z, hzo, fun j u hj => ?_⟩
        rw [← hz] at hj
        have hjl : j < cs'.length := by
          rcases Nat.lt_or_ge j cs'.length with h | h
          · exact h
          · rw [List.getElem?_eq_none h] at hj; cases hj
        have := hcell j (by omega)
        rw [add_add] at this
        rw [this]
        exact hj
      obtain ⟨f, hfd⟩ := choose_lt each'
      obtain ⟨b, off, spot⟩ := x
      have hc0 : ∃ u, W.cell? ((⟨b, off, spot⟩ : Addr).add 0) = some u := by
        obtain ⟨cs', h1, h2⟩ := hx 0 (by omega)
        rw [ce] at h1
        obtain ⟨_, hlen, hcell⟩ := World.cells?_some h1
        have := hcell 0 hk
        rw [add_add] at this
        simp only [Nat.zero_mul, Nat.add_zero] at this
        rw [List.getElem?_eq_getElem (by omega)] at this
        exact ⟨_, this⟩
      obtain ⟨u0, hc0⟩ := hc0
      have hspot : spot = none := by simpa [Addr.add] using World.cell?_spot hc0
      subst hspot
      have hb : b < W.heap.size := by
        have := World.block_lt_of_cell? W _ hc0
        simpa [Addr.add] using this
      refine ⟨(List.range len).map f, .inr ⟨b, off, m, by simp, hb, by simpa using hl, hm, fun j z hj => ?_⟩⟩
      rw [List.getElem?_map] at hj
      have hjl : j < len := by
        rcases Nat.lt_or_ge j len with h | h
        · exact h
        · rw [List.getElem?_eq_none (by simpa using h)] at hj; cases hj
      rw [List.getElem?_range hjl] at hj
      obtain rfl : f j = z := by simpa using hj
      obtain ⟨q0, q1⟩ := hfd j (by omega)
      refine ⟨q0, fun i u hi => ?_⟩
      have := q1 i u hi
      rw [addr_add] at this
      rw [Nat.add_assoc]
      exact this
set_option maxRecDepth 10000 in
theorem open_act_cells {H : Type} {enc : TypeId × Value → H} {W : World} (n : Nat) (l : List Value) (y : DataW H × List MemPlace) (hl : l.length = 4) (h : DataW.trod enc Try.prog W 0 (fun _ => true) true n 31 l = some y) : ∃ x : Ac, l = x.cells ∧ x.ok := by
  obtain ⟨xs, m, _, _, _, hxl, hf⟩ := DataW.trod_struct Try.underlying31 h
  match xs, hxl, l, hl with
  | [y0, y1, y2, y3], _, [c0, c1, c2, c3], _ =>
    have g0 := hf 0 _ rfl
    have g1 := hf 1 _ rfl
    have g2 := hf 2 _ rfl
    have g3 := hf 3 _ rfl
    simp [cells3, cells9, cells22] at g0 g1 g2 g3
    obtain ⟨n0, e0, _, b0⟩ := DataW.trod_int Try.underlying3 g0
    obtain ⟨n1, e1, _, b1⟩ := DataW.trod_string Try.underlying9 g1
    obtain ⟨n2, e2, _, b2⟩ := DataW.trod_int Try.underlying22 g2
    obtain ⟨n3, e3, _, b3⟩ := DataW.trod_int Try.underlying22 g3
    simp only [List.cons.injEq, and_true] at e0 e1 e2 e3
    subst e0 e1 e2 e3
    exact ⟨⟨n0, n1, n2, n3⟩, rfl, i64_bd b0, b1, u64_bd b2, u64_bd b3⟩
/-- An Act that came in by value. -/
theorem open_act {H : Type} {enc : TypeId × Value → H} {W : World} {r : Reach} {b0 : Nat} {v : Value} {d : DataW H} {ps : List MemPlace} (hv : Value.okWide Try.prog W r b0 31 v) (h : DataW.Trod enc Try.prog W 0 (fun _ => true) true 31 v d ps) :
    ∃ x : Ac, v = .agg #[.int .i64 x.kd, .string x.nm, .int .u64 x.at_, .int .u64 x.by_] ∧ x.ok := by
  obtain ⟨cs, rfl, hsz⟩ := okWide_struct Try.underlying31 hv
  obtain ⟨fuel, hf⟩ := h
  obtain ⟨x, hx, hok⟩ := open_act_cells fuel cs.toList _ (by simpa [cells31] using hsz) (by simpa [Value.cells] using hf)
  refine ⟨x, ?_, hok⟩
  congr 1
  apply Array.toList_inj.1
  rw [hx]
  rfl
/-- A script that came in. -/
theorem open_acts {H : Type} {enc : TypeId × Value → H} {W : World} {a : Option Addr} {len cap : Nat} {d : DataW H} {ps : List MemPlace} (h : DataW.Trod enc Try.prog W 0 (fun _ => true) true 23 (.slice a len cap) d ps) : ∃ xs, Acs W.heap.size W (.slice a len cap) xs := by
  haveI : Inhabited Ac := ⟨⟨0, ⟨#[]⟩, 0, 0⟩⟩
  obtain ⟨xs, hx⟩ := open_many (cs := Ac.cells) (ok := fun _ x => x.ok) Try.underlying23 cells31 open_act_cells (by decide) h
  refine ⟨xs, ?_⟩
  rcases hx with e | ⟨b, off, c, e, hb, hl, hm, hc⟩
  · exact .inl e
  · exact .inr ⟨b, off, c, e, hb, hl, hm, fun j x hj => ⟨(hc j x hj).1, (hc j x hj).2 0 _ rfl, (hc j x hj).2 1 _ rfl, (hc j x hj).2 2 _ rfl, (hc j x hj).2 3 _ rfl⟩⟩
theorem open_tick_cells {H : Type} {enc : TypeId × Value → H} {W : World} (n : Nat) (l : List Value) (y : DataW H × List MemPlace) (hl : l.length = 1) (h : DataW.trod enc Try.prog W 0 (fun _ => true) true n 22 l = some y) : ∃ x : Int, l = [.int .u64 x] ∧ (0 ≤ x ∧ x < 18446744073709551616) := by
  match l, hl with
  | [c0], _ =>
    obtain ⟨n0, e0, _, b0⟩ := DataW.trod_int Try.underlying22 h
    exact ⟨n0, e0, u64_bd b0⟩
/-- A list of ticks that came in. -/
theorem open_ticks {H : Type} {enc : TypeId × Value → H} {W : World} {a : Option Addr} {len cap : Nat} {d : DataW H} {ps : List MemPlace} (h : DataW.Trod enc Try.prog W 0 (fun _ => true) true 49 (.slice a len cap) d ps) : ∃ ys, Us W.heap.size W (.slice a len cap) ys := by
  obtain ⟨ys, hx⟩ := open_many (cs := fun x : Int => [Value.int .u64 x]) (ok := fun _ x => 0 ≤ x ∧ x < 18446744073709551616) Try.underlying49 cells22 open_tick_cells (by decide) h
  refine ⟨ys, ?_⟩
  rcases hx with e | ⟨b, off, c, e, hb, hl, hm, hc⟩
  · exact .inl e
  · exact .inr ⟨b, off, c, e, hb, hl, hm, fun j x hj => ⟨(hc j x hj).1, by have := (hc j x hj).2 0 _ rfl; simpa using this⟩⟩
theorem trod_array2 {H : Type} {enc : TypeId × Value → H} {P : Program} {w : World} {base : Nat} {spare : Nat → Bool} {held : Bool} {t e : TypeId} {fuel : Nat} {c0 c1 : Value} {x : DataW H × List MemPlace} (ht : P.underlying t = some (.array 2 e)) (hce : P.cellsOf e = 1)
    (h : DataW.trod enc P w base spare held fuel t [c0, c1] = some x) :
    ∃ y0 y1 n, DataW.trod enc P w base spare held n e [c0] = some y0 ∧ DataW.trod enc P w base spare held n e [c1] = some y1 := by
  cases fuel with
  | zero => simp [DataW.trod] at h
  | succ n =>
    unfold DataW.trod at h
    rw [ht] at h
    have r3 : List.range 2 = [0, 1] := rfl
    simp [r3, hce] at h
    obtain ⟨_, h⟩ := h
    cases h0 : DataW.trod enc P w base spare held n e [c0] with
    | none => simp [h0] at h
    | some y0 =>
      cases h1 : DataW.trod enc P w base spare held n e [c1] with
      | none => simp [h0, h1] at h
      | some y1 => exact ⟨y0, y1, n, h0, h1⟩
set_option maxRecDepth 10000 in
/-- A [2]uint64 that came in. -/
theorem open_two {H : Type} {enc : TypeId × Value → H} {W : World} {r : Reach} {b0 : Nat} {v : Value} {d : DataW H} {ps : List MemPlace} (hv : Value.okWide Try.prog W r b0 54 v) (h : DataW.Trod enc Try.prog W 0 (fun _ => true) true 54 v d ps) :
    ∃ n0 n1 : Int, v = .agg #[.int .u64 n0, .int .u64 n1] ∧ (0 ≤ n0 ∧ n0 < 18446744073709551616) ∧ 0 ≤ n1 ∧ n1 < 18446744073709551616 := by
  obtain ⟨cs, rfl, hsz, _⟩ : ∃ cs, v = .agg cs ∧ cs.size = Try.prog.cellsOf 54 ∧ Row.okWide Try.prog W r b0 54 cs := by
    have := hv
    simpa [Value.okWide, Try.underlying54] using this
  obtain ⟨x0, x1, rfl⟩ : ∃ x0 x1, cs = #[x0, x1] := by
    have h2 := hsz.trans cells54
    obtain ⟨l⟩ := cs
    match l, h2 with
    | [x0, x1], _ => exact ⟨x0, x1, rfl⟩
  obtain ⟨fuel, hf⟩ := h
  obtain ⟨y0, y1, n, h0, h1⟩ := trod_array2 Try.underlying54 cells22 (by simpa [Value.cells] using hf)
  obtain ⟨n0, e0, _, b0⟩ := DataW.trod_int Try.underlying22 h0
  obtain ⟨n1, e1, _, b1⟩ := DataW.trod_int Try.underlying22 h1
  simp only [List.cons.injEq, and_true] at e0 e1
  subst e0 e1
  exact ⟨n0, n1, rfl, u64_bd b0, u64_bd b1⟩
end Go.Proofs.Ytlljfgpmjpmoiaa
