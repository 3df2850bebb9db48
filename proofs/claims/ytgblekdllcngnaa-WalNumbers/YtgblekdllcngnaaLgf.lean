/- What goneAhead answers. -/
import Derived.Test.YtgblekdllcngnaaLge
namespace Go.Proofs.Ytgblekdllcngnaa
open Go.RowKit Go.IntWalk Go.Maps
set_option linter.unusedVariables false

section
variable {M : Nat → Prop} {lb sb bm : Nat} {sv : Value} {l : List Sg} {root : List Int} {seg : Int} {st : List Int} {size next forced : Int}
set_option maxRecDepth 100000 in
set_option maxHeartbeats 1000000 in
theorem gone_any (w : World) (h : Lgd M w lb sb bm sv l root seg st size next forced) (hs : st.Pairwise (· < ·)) (hl : st.length ≤ 100000) (h0 : 0 ≤ seg) (h1 : seg ≤ 1000000000) (x : Int) (hx : x ≤ 1000000000) :
    Calls Try.prog 33 #[.pointer (some ⟨lb, 0, none⟩), .int .i64 x] w fun e w' => ∃ i, e = .returned (.int .i64 i) ∧ Hid (i = max 0 (hld st x)) ∧ w.grownBy w' none := by
  have hm1 : min x (1099511627776 : Int) = x := by omega
  go_enter Try.func33, Try.ntmps33
  go_wp2_with fail
  refine (holder_any w h hs hl x).mono ?_
  rintro e w1 ⟨i, rfl, hi, hg⟩
  have hib : -1 ≤ i ∧ i ≤ 100000 := by
    have := hi.out
    unfold hld at this
    have hc : st.countP (fun z => decide (z ≤ x)) ≤ st.length := List.countP_le_length
    omega
  have c1 := (h.keep hg).c1
  have hm2 : min i (1099511627776 - seg) = i := by omega
  clear hm1
  go_wp2
  go_ret
  refine ⟨max 0 i, rfl, ?_, hg⟩
  show max 0 i = max 0 (hld st x)
  rw [← hi.out]
end
end Go.Proofs.Ytgblekdllcngnaa
