/- quota.Of and the document's Of: sizes are counted as far as the greatest number of 31 bits. -/
import Derived.Test.YtlnikgejcogkeaaAns
namespace Go.Proofs.Ytlnikgejcogkeaa
open Go.RowKit Go.IntWalk
set_option linter.unusedVariables false
/-- One size more. -/
def cnt1 (c z : Int) : Int := if bad z = true then c else min (c + z) 2147483647
theorem cnt1_bd {c z : Int} (h : 0 ≤ c ∧ c ≤ 2147483647) : 0 ≤ cnt1 c z ∧ cnt1 c z ≤ 2147483647 := by
  unfold cnt1
  split
  · exact h
  · rename_i hb
    have : bad z = false := by simpa using hb
    have hz : 0 ≤ z := by simp [bad] at this; omega
    omega
/-- The first n of both lists counted. -/
def cntL (ks vs : List Int) : Nat → Int
  | 0 => 0
  | n + 1 => cnt1 (cnt1 (cntL ks vs n) (ks[n]?.getD 0)) (vs[n]?.getD 0)
theorem cntL_bd (ks vs : List Int) (n : Nat) : 0 ≤ cntL ks vs n ∧ cntL ks vs n ≤ 2147483647 := by
  induction n with
  | zero => exact ⟨Int.le_refl 0, by unfold cntL; decide⟩
  | succ n ih => exact cnt1_bd (cnt1_bd ih)
theorem ins_new1' {w : World} {n : Nat} (hn : w.heap.size = n) {a : Int} (ha : I64 a) :
    Ins (n + 1) (w.alloc (.cells #[.int .i64 a] 3)) (.slice (some ⟨n, 0, none⟩) 1 1) [a] := by
  subst hn
  have h := heap_new w (.cells #[.int .i64 a] 3)
  refine ⟨.inr ⟨w.heap.size, 0, 1, rfl, by omega, by simp, by decide, fun j hj => ?_⟩, ?_⟩
  · simp only [World.cell?, h]
    rcases j with _ | j
    · simp
    · simp at hj
  · simp; exact ha
theorem wrg1 (a : Int) : wrg [a] = bad a := by simp [wrg]
set_option maxRecDepth 100000 in
set_option maxHeartbeats 1000000 in
/-- quota.count of two sizes. -/
theorem count_any {n₀ : Nat} {v : Value} {a b c : Int} (w : World) (hn : n₀ ≤ w.heap.size) (h : Ins n₀ w v [a, b]) (hc : 0 ≤ c ∧ c ≤ 2147483647) {d : Int} (hd : Hid (cnt1 (cnt1 c a) b = d)) :
    Calls Try.prog 15 #[.int .i64 c, v] w fun e w' => e = .returned (.int .i64 d) ∧ Below w.heap.size w w' := by
  obtain ⟨ad, cap, rfl, hlen⟩ := h.shape
  have hI : ∀ z ∈ [a, b], I64 z := h.2
  go_enter Try.func15, Try.ntmps15
  go_wp2
  go_loopw [0, 9] (fun cv i wr => ∃ (k : Nat) (c' : Int), k ≤ 2 ∧ i = .int .i64 k ∧ cv = .int .i64 c' ∧ Hid ((k = 0 → c' = c) ∧ (k = 1 → c' = cnt1 c a) ∧ (k = 2 → c' = d)) ∧ 0 ≤ c' ∧ c' ≤ 2147483647 ∧ Below w.heap.size w wr) (fun _ i _ => (2 - intOf i).toNat)
  case atStart => exact ⟨0, c, by omega, rfl, rfl, ⟨⟨fun _ => rfl, fun h => by omega, fun h => by omega⟩⟩, hc.1, hc.2, Below.refl _ _⟩
  case round =>
    obtain ⟨k, c', hk, rfl, rfl, hp, h0, h1, hB⟩ := hrel
    by_cases hlt : k < 2
    · have hi := (h.mono hn).below hB
      obtain ⟨bb, off, rfl, hbb, hcell⟩ := hi.at (j := k) (by simpa using hlt)
      obtain ⟨z, hz⟩ : ∃ z, [a, b][k]?.getD 0 = z := ⟨_, rfl⟩
      have hzI : I64 z := by
        refine hI z ?_
        rw [← hz, List.getElem?_eq_getElem (show k < [a, b].length by simpa using hlt)]
        exact List.getElem_mem _
      have hnx : Hid ((k + 1 = 1 → cnt1 c' z = cnt1 c a) ∧ (k + 1 = 2 → cnt1 c' z = d)) := by
        refine ⟨⟨fun e => ?_, fun e => ?_⟩⟩
        · obtain rfl : k = 0 := by omega
          rw [← hz, hp.out.1 rfl]; rfl
        · obtain rfl : k = 1 := by omega
          rw [← hz, hp.out.2.1 rfl, ← hd.out]; rfl
      rw [hz] at hcell
      have hw := wrong_any _ (ins_new1' (w := wr) rfl hzI) ⟨wrg1 z⟩
      have hs := hB.size
      replace hz := Hid.mk hz
      replace hi := Hid.mk hi
      cases hbd : bad z with
      | true =>
        rw [hbd] at hw
        have hc2 : Hid (cnt1 c' z = c') := ⟨if_pos hbd⟩
        clear hbd
        go_wp2_with fail
        refine hw.mono ?_
        rintro e w1 ⟨rfl, rfl⟩
        clear hw
        go_wp2
        go_roundw
        case rel => exact ⟨k + 1, c', by omega, by go_num, rfl, ⟨⟨fun e => by omega, fun e => hc2.out.symm.trans (hnx.out.1 e), fun e => hc2.out.symm.trans (hnx.out.2 e)⟩⟩, h0, h1, hB.alloc hs _⟩
        case measure => simp [intOf]; omega
      | false =>
        rw [hbd] at hw
        have hzb : 0 ≤ z ∧ z ≤ 4000 := by simp [bad] at hbd; omega
        obtain ⟨m, hm⟩ : ∃ m, min (c' + z) 2147483647 = m := ⟨_, rfl⟩
        have hc2 : Hid (cnt1 c' z = m) := ⟨(if_neg (by rw [hbd]; decide)).trans hm⟩
        have hmm : (c' + if 2147483647 - c' < z then 2147483647 - c' else z) = m := by split <;> omega
        have hm0 : 0 ≤ m ∧ m ≤ 2147483647 := by omega
        replace hmm := Hid.mk hmm
        obtain ⟨hz0, hz1⟩ := hzb
        obtain ⟨hm0, hm1⟩ := hm0
        clear hbd hm
        go_wp2_with fail
        refine hw.mono ?_
        rintro e w1 ⟨rfl, rfl⟩
        clear hw
        go_wp2
        go_roundw
        case rel => exact ⟨k + 1, m, by omega, by go_num, congrArg _ hmm.out, ⟨⟨fun e => by omega, fun e => hc2.out.symm.trans (hnx.out.1 e), fun e => hc2.out.symm.trans (hnx.out.2 e)⟩⟩, hm0, hm1, hB.alloc hs _⟩
        case measure => simp [intOf]; omega
    · obtain rfl : c' = d := hp.out.2.2 (by omega)
      go_wp2
      go_ret
      exact ⟨rfl, hB⟩
end Go.Proofs.Ytlnikgejcogkeaa
