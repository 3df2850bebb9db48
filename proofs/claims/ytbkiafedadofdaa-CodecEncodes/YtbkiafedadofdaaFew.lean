/- What the laws' own question, whether fields are few and not too long, answers: for every list of fields that can be read. -/
import Derived.Test.YtbkiafedadofdaaOrdw
namespace Go.Proofs.Ytbkiafedadofdaa
open Go.RowKit Go.Shelf Plain Go.IntWalk
set_option linter.unusedVariables false

def fewB (xs : List Fd) : Bool := decide (xs.length ≤ 250) && xs.all fun x => decide (x.zs.length ≤ 5000)

set_option maxRecDepth 100000 in
set_option maxHeartbeats 1000000 in
theorem few_empty (a : Option Addr) (cap : Nat) (w : World) :
    Calls Try.prog 9 #[.slice a 0 cap] w fun e w' => e = .returned (.bool true) ∧ w = w' := by
  go_enter Try.func9, Try.ntmps9
  go_wp2
  refine wp_loop_rounds 1 ?_
  rw [rounds_succ]
  go_wp2
  go_ret
  exact ⟨rfl, rfl⟩

set_option maxRecDepth 100000 in
set_option maxHeartbeats 1000000 in
theorem few_core (b off len cap : Nat) (f : Nat → Fd) (hm : len ≤ 9223372036854775807) (hlm : ∀ j, j < len → (f j).len ≤ 9223372036854775807) (w : World)
    (hc : ∀ j, j < len → w.cell? ⟨b, off + j * 2 + 1, none⟩ = some (.slice (f j).a (f j).len (f j).cap)) :
    Calls Try.prog 9 #[.slice (some ⟨b, off, none⟩) len cap] w fun e w' => ((e = .returned (.bool true) ∧ len ≤ 250 ∧ ∀ j, j < len → (f j).len ≤ 5000) ∨ (e = .returned (.bool false) ∧ (250 < len ∨ ∃ j, j < len ∧ 5000 < (f j).len))) ∧ w = w' := by
  go_enter Try.func9, Try.ntmps9
  go_wp2
  go_loop [3] (fun i => ∃ k : Nat, k ≤ len ∧ i = .int .i64 k ∧ k ≤ 250 ∧ Hid (∀ j, j < k → (f j).len ≤ 5000)) (fun i => len - (intOf i).toNat)
  case atStart => exact ⟨0, Nat.zero_le _, rfl, by omega, fun j hj => by omega⟩
  case round =>
    obtain ⟨k, hk, rfl, hk2, HJ⟩ := hrel
    by_cases hlt : k < len
    · by_cases h250 : k = 250
      · have h1 : ((k : Int) == 250) = true := by simp; omega
        go_wp2
        go_ret
        exact ⟨.inr ⟨rfl, .inl (by omega)⟩, rfl⟩
      · have h1 : ((k : Int) == 250) = false := by simp; omega
        have hck := hc k hlt
        have hmk := hlm k hlt
        by_cases h5 : (f k).len ≤ 5000
        · have h2 : decide ((5000 : Int) < ((f k).len : Int)) = false := by simp; omega
          go_wp2
          go_roundw
          case rel =>
            refine ⟨k + 1, by omega, by go_num, by omega, fun j hj => ?_⟩
            rcases Nat.lt_or_ge j k with h | h
            · exact HJ.out j h
            · obtain rfl : j = k := by omega
              exact h5
          case measure => simp [intOf]; omega
        · have h2 : decide ((5000 : Int) < ((f k).len : Int)) = true := by simp; omega
          go_wp2
          go_ret
          exact ⟨.inr ⟨rfl, .inr ⟨k, hlt, by omega⟩⟩, rfl⟩
    · go_wp2
      go_ret
      obtain rfl : k = len := by omega
      exact ⟨.inl ⟨rfl, hk2, HJ.out⟩, rfl⟩

/-- few, at whatever list of fields. -/
theorem few_any (v : Value) (xs : List Fd) (w : World) (hI : Flds w.heap.size w v xs) :
    Calls Try.prog 9 #[v] w fun e w' => e = .returned (.bool (fewB xs)) ∧ w = w' := by
  obtain ⟨⟨rfl | ⟨ad, cap, rfl⟩, rfl⟩ | ⟨b, off, cap, rfl, hb, hl, hm, hc⟩, hok⟩ := hI
  · exact few_empty none 0 w
  · exact few_empty _ cap w
  · haveI : Inhabited Fd := ⟨⟨0, none, 0, 0, []⟩⟩
    have hx : ∀ j, j < xs.length → xs[j]? = some (xs[j]?.getD default) := fun j hj => by simp [hj]
    refine (few_core b off xs.length cap (fun j => xs[j]?.getD default) (by unfold maxLen at hm; omega) (fun j hj => (hok _ (List.mem_of_getElem? (hx j hj))).len_le) w (fun j hj => (hc j _ (hx j hj)).2)).mono ?_
    rintro e w' ⟨⟨rfl, h1, h2⟩ | ⟨rfl, h⟩, hw⟩
    · refine ⟨?_, hw⟩
      have : fewB xs = true := by
        simp only [fewB, Bool.and_eq_true, decide_eq_true_eq, List.all_eq_true]
        refine ⟨h1, fun x hxm => ?_⟩
        obtain ⟨j, hj, rfl⟩ := List.getElem_of_mem hxm
        have h3 := h2 j hj
        simp only [List.getElem?_eq_getElem hj, Option.getD_some] at h3
        rw [← (hok _ hxm).len]; exact h3
      rw [this]
    · refine ⟨?_, hw⟩
      have : fewB xs = false := by
        rw [Bool.eq_false_iff]
        intro hf
        simp only [fewB, Bool.and_eq_true, decide_eq_true_eq, List.all_eq_true] at hf
        rcases h with h | ⟨j, hj, h⟩
        · omega
        · simp only [List.getElem?_eq_getElem hj, Option.getD_some] at h
          have hmem := List.getElem_mem hj
          have := hf.2 _ hmem
          rw [← (hok _ hmem).len] at this
          omega
      rw [this]
end Go.Proofs.Ytbkiafedadofdaa
