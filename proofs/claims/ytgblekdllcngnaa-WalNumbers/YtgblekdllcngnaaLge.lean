/- What holder answers. -/
import Derived.Test.YtgblekdllcngnaaLgd
namespace Go.Proofs.Ytgblekdllcngnaa
open Go.RowKit Go.IntWalk Go.Maps
set_option linter.unusedVariables false

/-- The place of the last start that is not above x; below 0, if there is none. -/
def hld (st : List Int) (x : Int) : Int := (st.countP (fun z => decide (z ≤ x)) : Int) - 1
theorem countP_not {st : List Int} {x : Int} (h : x ∉ st) : st.countP (fun z => decide (z ≤ x)) = st.countP (fun z => decide (z < x)) := by
  refine List.countP_congr fun z hz => ?_
  have : z ≠ x := fun e => h (e ▸ hz)
  simp; omega
theorem countP_in {st : List Int} {x : Int} (hs : st.Pairwise (· < ·)) (h : x ∈ st) : st.countP (fun z => decide (z ≤ x)) = st.countP (fun z => decide (z < x)) + 1 := by
  induction st with
  | nil => cases h
  | cons y st ih =>
    rw [List.pairwise_cons] at hs
    rcases List.mem_cons.1 h with rfl | h'
    · have h1 : st.countP (fun z => decide (z ≤ x)) = 0 := List.countP_eq_zero.2 fun z hz => by have := hs.1 z hz; simp; omega
      have h2 : st.countP (fun z => decide (z < x)) = 0 := List.countP_eq_zero.2 fun z hz => by have := hs.1 z hz; simp; omega
      simp [h1, h2]
    · have := hs.1 x h'
      rw [List.countP_cons, List.countP_cons, ih hs.2 h', if_pos (by simp; omega), if_pos (by simp; omega)]
section
variable {M : Nat → Prop} {lb sb bm : Nat} {sv : Value} {l : List Sg} {root : List Int} {seg : Int} {st : List Int} {size next forced : Int}
theorem drewN_grown (w : World) (q : Nat) : w.grownBy (w.drewN q) none := ⟨rfl, rfl, rfl, Nat.le_refl _, fun _ _ _ => rfl⟩
/-- slices.BinarySearch of the starts. -/
theorem search_starts (w : World) (hrow : w.ownsRow 0 3 1 sv st.length (st.map (Value.int .i64))) (hs : st.Pairwise (· < ·)) (hl : st.length ≤ 100000) (x : Int) :
    Calls Try.prog 56 #[sv, .int .i64 x] w fun e w' => ∃ (i : Int) (b : Bool), e = .returned (.tuple #[.int .i64 i, .bool b]) ∧ 0 ≤ i ∧ i ≤ 100000 ∧ Hid ((if b = true then i else i - 1) = hld st x) ∧ w.grownBy w' none := by
  have hle : st.Pairwise (· ≤ ·) := hs.imp fun h => by omega
  have hcl : ∀ p : Int → Bool, st.countP p ≤ st.length := fun p => List.countP_le_length
  rcases hrow.2 with ⟨rfl, h0⟩ | ⟨g, cap, cur, rfl, hb, hg, hn, hm, hsz, ht⟩
  · have e : st = [] := List.eq_nil_of_length_eq_zero h0
    subst e
    refine (search_empty none 0 x w).mono ?_
    rintro e w' ⟨rfl, rfl⟩
    exact ⟨0, false, rfl, by omega, by omega, rfl, grown_refl w'⟩
  · refine (search_any g 0 st.length cap st x w (Nat.le_refl _) (by omega) (fun j hj => ?_) (by rw [List.take_length]; exact hle)).mono ?_
    · have := hrow.cells (g := g) rfl j (.int .i64 (st.getD j 0)) (by simp [hj])
      have hadd : (⟨g, 0, none⟩ : Addr).add j = ⟨g, 0 + j, none⟩ := by unfold Addr.add; split <;> simp_all
      rwa [hadd] at this
    · rintro e w' ⟨rfl, q, rfl⟩
      rw [List.take_length]
      refine ⟨_, _, rfl, by omega, by have := hcl (fun z => decide (z < x)); omega, ?_, drewN_grown w q⟩
      show (if st.contains x = true then _ else _) = hld st x
      unfold hld
      by_cases hx : x ∈ st
      · rw [if_pos (by simpa using hx), countP_in hs hx]; omega
      · rw [if_neg (by simpa using hx), countP_not hx]
set_option maxRecDepth 100000 in
set_option maxHeartbeats 1000000 in
/-- holder. -/
theorem holder_any (w : World) (h : Lgd M w lb sb bm sv l root seg st size next forced) (hs : st.Pairwise (· < ·)) (hl : st.length ≤ 100000) (x : Int) :
    Calls Try.prog 41 #[.pointer (some ⟨lb, 0, none⟩), .int .i64 x] w fun e w' => ∃ i, e = .returned (.int .i64 i) ∧ Hid (i = hld st x) ∧ w.grownBy w' none := by
  have c2 := h.c2
  go_enter Try.func41, Try.ntmps41
  go_wp2_with fail
  refine (search_starts w h.row hs hl x).mono ?_
  rintro e w1 ⟨i, b, rfl, hi0, hi1, hi, hg⟩
  cases b with
  | true =>
    go_wp2
    go_ret
    exact ⟨i, rfl, hi, hg⟩
  | false =>
    go_wp2
    go_ret
    exact ⟨i - 1, rfl, hi, hg⟩
end
end Go.Proofs.Ytgblekdllcngnaa
