/- belfrylaw06.alive, whatever lies in memory. -/
import Derived.Test.YtipcoghhnbgalaaMem
namespace Go.Proofs.Ytipcoghhnbgalaa
open Go.RowKit Go.IntWalk Go.Maps
set_option linter.unusedVariables false
def nA : ByteArray := ⟨#[97]⟩
def nB : ByteArray := ⟨#[98]⟩
def nC : ByteArray := ⟨#[99]⟩
theorem nAB : nA ≠ nB := by intro h; have := congrArg ByteArray.data h; revert this; decide
theorem nAC : nA ≠ nC := by intro h; have := congrArg ByteArray.data h; revert this; decide
theorem nBC : nB ≠ nC := by intro h; have := congrArg ByteArray.data h; revert this; decide
theorem lAB : lt ⟨nA, 5⟩ ⟨nB, 5⟩ := .inr ⟨rfl, by rw [ByteArray.toList_eq, ByteArray.toList_eq]; decide⟩
theorem s1 : Srt [⟨nB, 5⟩] := ⟨by simp, by simp⟩
theorem s2 : Srt [⟨nA, 5⟩, ⟨nB, 5⟩] := ⟨by simp [lAB], by simp [nAB, Ne.symm nAB]⟩
theorem s3 : Srt [⟨nC, 3⟩, ⟨nA, 5⟩, ⟨nB, 5⟩] := ⟨by simp [lAB]; simp [lt], by simp [nAB, Ne.symm nAB, nAC, Ne.symm nAC, nBC, Ne.symm nBC]⟩
theorem s4 : Srt [⟨nA, 5⟩, ⟨nB, 5⟩, ⟨nC, 9⟩] := ⟨by simp [lAB]; simp [lt], by simp [nAB, Ne.symm nAB, nAC, Ne.symm nAC, nBC, Ne.symm nBC]⟩
theorem p1 : putE ⟨nB, 5⟩ [] = [⟨nB, 5⟩] := (Srt.nil.put _).eq s1 fun x => by simp [mem_putE]
theorem p2 : putE ⟨nA, 5⟩ [⟨nB, 5⟩] = [⟨nA, 5⟩, ⟨nB, 5⟩] := (s1.put _).eq s2 fun x => by
  simp only [mem_putE, List.mem_cons, List.not_mem_nil, or_false]
  constructor
  · rintro (h | ⟨h, _⟩) <;> simp [h]
  · rintro (h | h)
    · exact .inl h
    · subst h; exact .inr ⟨rfl, Ne.symm nAB⟩
theorem p3 : putE ⟨nC, 3⟩ [⟨nA, 5⟩, ⟨nB, 5⟩] = [⟨nC, 3⟩, ⟨nA, 5⟩, ⟨nB, 5⟩] := (s2.put _).eq s3 fun x => by
  simp only [mem_putE, List.mem_cons, List.not_mem_nil, or_false]
  constructor
  · rintro (h | ⟨h | h, _⟩) <;> simp [h]
  · rintro (h | h | h)
    · exact .inl h
    · subst h; exact .inr ⟨.inl rfl, nAC⟩
    · subst h; exact .inr ⟨.inr rfl, nBC⟩
theorem p4 : putE ⟨nC, 9⟩ [⟨nC, 3⟩, ⟨nA, 5⟩, ⟨nB, 5⟩] = [⟨nA, 5⟩, ⟨nB, 5⟩, ⟨nC, 9⟩] := (s3.put _).eq s4 fun x => by
  simp only [mem_putE, List.mem_cons, List.not_mem_nil, or_false]
  constructor
  · rintro (h | ⟨h | h | h, hn⟩)
    · simp [h]
    · subst h; exact absurd rfl hn
    · simp [h]
    · simp [h]
  · rintro (h | h | h)
    · subst h; exact .inr ⟨.inr (.inl rfl), nAC⟩
    · subst h; exact .inr ⟨.inr (.inr rfl), nBC⟩
    · exact .inl h
theorem h3 : hasN nC [⟨nA, 5⟩, ⟨nB, 5⟩] = false := by simp [hasN, nAC, nBC]
theorem h4 : hasN nC [⟨nC, 3⟩, ⟨nA, 5⟩, ⟨nB, 5⟩] = true := by simp [hasN]
theorem small (n : ByteArray) (h : n.size ≤ 40) : n.size ≤ maxLen := by unfold maxLen; omega
theorem own_b {w : World} {k : Nat} {a b : Value} {t : TypeId} (hb : w.heap[k]? = some (.cells #[a, b] t (0, 0))) : w.cell? ⟨k, 0, none⟩ = some a ∧ w.cell? ⟨k, 1, none⟩ = some b ∧ ∀ i, w.frozen? ⟨k, i, none⟩ = false :=
  ⟨by simp [World.cell?, hb], by simp [World.cell?, hb], fun i => by simp [World.frozen?, hb]⟩
set_option maxRecDepth 100000 in
set_option maxHeartbeats 1000000 in
theorem alive_s {W w : World} {l : List Res} (h : St W w l) : Calls Try.prog 20 #[] w fun r w' => r = .returned (.bool true) ∧ St W w' l := by
  have hA : nA.size ≤ maxLen := small _ (by decide)
  have hB : nB.size ≤ maxLen := small _ (by decide)
  have hC : nC.size ≤ maxLen := small _ (by decide)
  go_enter Try.func20, Try.ntmps20
  go_wp2_with fail
  refine (new_s h).mono ?_
  rintro r w1 ⟨qb, rfl, hs⟩
  go_wp2_with fail
  refine (put_s hs nB 5 hB (by omega) (by simp)).mono ?_
  rintro r w2 ⟨rfl, hs⟩
  rw [p1] at hs
  go_wp2_with fail
  refine (put_s hs nA 5 hA (by omega) (by simp)).mono ?_
  rintro r w3 ⟨rfl, hs⟩
  rw [p2] at hs
  go_wp2_with fail
  refine (put_s hs nC 3 hC (by omega) (by simp)).mono ?_
  rintro r w4 ⟨rfl, hs⟩
  rw [p3] at hs
  rw [h3]
  go_wp2_with fail
  refine (put_s hs nC 9 hC (by omega) (by simp)).mono ?_
  rintro r w5 ⟨rfl, hs⟩
  rw [p4] at hs
  rw [h4]
  go_wp2_with fail
  refine (pop_s hs).mono ?_
  rintro r w6 ⟨rfl, hs⟩
  have e1 : (fr [⟨nA, 5⟩, ⟨nB, 5⟩, ⟨nC, 9⟩]).1.n = ⟨#[97]⟩ := rfl
  have e2 : (fr [⟨nA, 5⟩, ⟨nB, 5⟩, ⟨nC, 9⟩]).1.at_ = 5 := rfl
  have e3 : (fr [⟨nA, 5⟩, ⟨nB, 5⟩, ⟨nC, 9⟩]).2 = true := rfl
  rw [e1, e2, e3]
  go_wp2_with fail
  refine (len_s (hs.grown (World.grownBy_alloc w6 (.cells #[.string ⟨#[97]⟩, .int .u64 5] 36) none))).mono ?_
  rintro r w7 ⟨rfl, rfl⟩
  go_wp2
  go_ret
  exact ⟨rfl, (hs.grown (World.grownBy_alloc w6 _ none)).drop⟩
end Go.Proofs.Ytipcoghhnbgalaa
