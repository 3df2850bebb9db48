/- A list of texts that came in. -/
import Derived.Test.YtpcdmjalfabbmaaFrame
import Derived.Test.YtpcdmjalfabbmaaTwo
namespace Go.Proofs.Ytpcdmjalfabbmaa
open Go.ChangeShapes Go.WideShapes Go.ChangeAt Go.RowKit Go.Deep
set_option linter.unusedVariables false
set_option maxRecDepth 100000 in
theorem open_str_cells {H : Type} {enc : TypeId × Value → H} {W : World} (n : Nat) (l : List Value) (y : DataW H × List MemPlace) (hl : l.length = 1) (h : DataW.trod enc Try.prog W 0 (fun _ => true) true n 9 l = some y) : ∃ k : K, l = [.string (bt k)] ∧ k.length ≤ maxLen := by
  match l, hl with
  | [c0], _ =>
    obtain ⟨n0, e0, _, b0⟩ := DataW.trod_string Try.underlying9 h
    simp only [List.cons.injEq, and_true] at e0
    subst e0
    exact ⟨n0.data.toList, by simp [bt_of], bt_wf b0⟩
/-- A list of texts. -/
theorem open_strs {H : Type} {enc : TypeId × Value → H} {W : World} {a : Option Addr} {len cap : Nat} {d : DataW H} {ps : List MemPlace} (h : DataW.Trod enc Try.prog W 0 (fun _ => true) true 52 (.slice a len cap) d ps) : ∃ ks, Strs W.heap.size W (.slice a len cap) ks := by
  haveI : Inhabited K := ⟨[]⟩
  obtain ⟨xs, hx⟩ := open_many (cs := fun k : K => [.string (bt k)]) (ok := fun _ k => k.length ≤ maxLen) Try.underlying52 cells9' open_str_cells (by decide) h
  refine ⟨xs, ?_⟩
  rcases hx with e | ⟨b, off, c, e, hb, hl, hm, hc⟩
  · exact .inl e
  · refine .inr ⟨b, off, c, e, hb, hl, hm, fun j x hj => ⟨(hc j x hj).1, ?_⟩⟩
    have := (hc j x hj).2 0 _ rfl
    simpa using this
end Go.Proofs.Ytpcdmjalfabbmaa
