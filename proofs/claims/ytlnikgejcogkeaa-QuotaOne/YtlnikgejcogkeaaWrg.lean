/- Lists of sizes that can be read; is any of them wrong? quota.wrong, quota.entry, the document's size. -/
import Derived.Test.YtlnikgejcogkeaaChg2
namespace Go.Proofs.Ytlnikgejcogkeaa
open Go.RowKit Go.IntWalk
set_option linter.unusedVariables false
def I64 (z : Int) : Prop := -9223372036854775808 ≤ z ∧ z < 9223372036854775808
/-- Ints that can be read. -/
def Ins (n₀ : Nat) (W : World) (v : Value) (zs : List Int) : Prop :=
  (((v = .slice none 0 0 ∨ ∃ ad cap, v = .slice (some ad) 0 cap) ∧ zs = []) ∨ ∃ b off cap, v = .slice (some ⟨b, off, none⟩) zs.length cap ∧ b < n₀ ∧ zs.length ≤ cap ∧ cap ≤ maxLen ∧ ∀ j, j < zs.length → W.cell? ⟨b, off + j, none⟩ = some (.int .i64 (zs[j]?.getD 0))) ∧ ∀ z ∈ zs, -9223372036854775808 ≤ z ∧ z < 9223372036854775808
theorem Ins.shape {n₀ : Nat} {W : World} {v : Value} {zs : List Int} (h : Ins n₀ W v zs) : ∃ a cap, v = .slice a zs.length cap ∧ zs.length ≤ maxLen := by
  obtain ⟨⟨rfl | ⟨ad, cap, rfl⟩, rfl⟩ | ⟨b, off, cap, rfl, _, h1, h2, _⟩, _⟩ := id h
  · exact ⟨_, _, rfl, by simp⟩
  · exact ⟨_, _, rfl, by simp⟩
  · exact ⟨_, _, rfl, by omega⟩
theorem Ins.below {n₀ : Nat} {A B : World} (h : Below n₀ A B) {v : Value} {zs : List Int} (hi : Ins n₀ A v zs) : Ins n₀ B v zs := by
  obtain ⟨e | ⟨b, off, cap, e, hb, hl, hm, hc⟩, hz⟩ := hi
  · exact ⟨.inl e, hz⟩
  · exact ⟨.inr ⟨b, off, cap, e, hb, hl, hm, fun j hj => (h.cell (p := ⟨b, off + j, none⟩) hb).trans (hc j hj)⟩, hz⟩
theorem Ins.mono {n m : Nat} {A : World} {v : Value} {zs : List Int} (hi : Ins n A v zs) (h : n ≤ m) : Ins m A v zs := by
  obtain ⟨e | ⟨b, off, cap, e, hb, hl, hm, hc⟩, hz⟩ := hi
  · exact ⟨.inl e, hz⟩
  · exact ⟨.inr ⟨b, off, cap, e, by omega, hl, hm, hc⟩, hz⟩
theorem Ins.at {n₀ : Nat} {W : World} {a : Option Addr} {cap len : Nat} {zs : List Int} (h : Ins n₀ W (.slice a len cap) zs) {j : Nat} (hj : j < zs.length) :
    ∃ b off, a = some ⟨b, off, none⟩ ∧ b < n₀ ∧ W.cell? ⟨b, off + j, none⟩ = some (.int .i64 (zs[j]?.getD 0)) := by
  obtain ⟨⟨_, rfl⟩ | ⟨b, off, c, e, hb, hl, hm, hc⟩, hz⟩ := h
  · simp at hj
  · simp only [Value.slice.injEq] at e
    exact ⟨b, off, e.1, hb, hc j hj⟩
/-- May a number of bytes not be? -/
def bad (z : Int) : Bool := decide (z < 0) || decide (4000 < z)
def wrg (zs : List Int) : Bool := zs.any bad
theorem bad_false {z : Int} (h0 : 0 ≤ z) (h1 : z ≤ 4000) : bad z = false := by simp [bad]; omega
theorem bad_true {z : Int} (h : ¬ (0 ≤ z ∧ z ≤ 4000)) : bad z = true := by simp [bad]; omega
theorem wrg_take {zs : List Int} {k : Nat} (hk : k < zs.length) (h : wrg (zs.take k) = false) : wrg (zs.take (k + 1)) = bad (zs[k]?.getD 0) := by
  have e : zs[k]? = some zs[k] := List.getElem?_eq_getElem hk
  rw [List.take_add_one, e]
  simp only [wrg] at h ⊢
  rw [List.any_append, h]
  simp
theorem wrg_more {zs : List Int} {k : Nat} (h : wrg (zs.take k) = true) : wrg zs = true := by
  simp only [wrg, List.any_eq_true] at h ⊢
  obtain ⟨x, hx, hb⟩ := h
  exact ⟨x, List.mem_of_mem_take hx, hb⟩
set_option maxRecDepth 100000 in
set_option maxHeartbeats 1000000 in
/-- quota.wrong. -/
theorem wrong_any {n₀ : Nat} {v : Value} {zs : List Int} (w : World) (h : Ins n₀ w v zs) {b : Bool} (hb : Hid (wrg zs = b)) :
    Calls Try.prog 17 #[v] w fun e w' => e = .returned (.bool b) ∧ w = w' := by
  obtain ⟨a, cap, rfl, hlen⟩ := h.shape
  have hml : maxLen = 9223372036854775807 := by decide
  go_enter Try.func17, Try.ntmps17
  go_wp2
  go_loopw [7] (fun i wr => ∃ k : Nat, k ≤ zs.length ∧ i = .int .i64 k ∧ Hid (wrg (zs.take k) = false) ∧ w = wr) (fun i _ => (zs.length - intOf i).toNat)
  case atStart => exact ⟨0, by omega, rfl, ⟨rfl⟩, rfl⟩
  case round =>
    obtain ⟨k, hk, rfl, hp, rfl⟩ := hrel
    by_cases hlt : k < zs.length
    · obtain ⟨bb, off, rfl, hbb, hcell⟩ := h.at hlt
      have hw := wrg_take hlt hp.out
      generalize (zs[k]?.getD 0) = z at *
      by_cases h0 : z < 0
      · have e1 : wrg zs = true := wrg_more (k := k + 1) (by rw [hw]; simp [bad, h0])
        obtain rfl : b = true := by rw [← hb.out, e1]
        replace hw := Hid.mk hw
        clear e1
        go_wp2
        go_ret
        exact ⟨rfl, rfl⟩
      · by_cases h1 : 4000 < z
        · have e1 : wrg zs = true := wrg_more (k := k + 1) (by rw [hw]; simp [bad, h1])
          obtain rfl : b = true := by rw [← hb.out, e1]
          replace hw := Hid.mk hw
          clear e1
          go_wp2
          go_ret
          exact ⟨rfl, rfl⟩
        · have e2 : wrg (zs.take (k + 1)) = false := by rw [hw]; exact bad_false (by omega) (by omega)
          replace hw := Hid.mk hw
          replace e2 := Hid.mk e2
          go_wp2
          go_roundw
          case rel => exact ⟨k + 1, by omega, by go_num, e2, trivial⟩
          case measure => simp [intOf]; omega
    · obtain rfl : b = false := by
        have e : zs.take k = zs := List.take_of_length_le (by omega)
        rw [← hb.out, ← hp.out, e]
      go_wp2
      go_ret
      exact ⟨rfl, rfl⟩
set_option maxRecDepth 100000 in
set_option maxHeartbeats 1000000 in
/-- quota.entry. -/
theorem entry_any (k v : Int) (hk0 : 0 ≤ k) (hk1 : k ≤ 4000) (hv0 : 0 ≤ v) (hv1 : v ≤ 4000) (w : World) :
    Calls Try.prog 18 #[.int .i64 k, .int .i64 v] w fun e w' => e = .returned (uV 1 (k + v) 0) ∧ Below w.heap.size w w' := by
  go_enter Try.func18, Try.ntmps18
  go_wp2
  refine bodyPost_ret (v := uV 1 (k + v) 0) (by rw [results_cell1 rfl]; go_simp) rfl ?_
  refine ⟨rfl, ?_⟩
  repeat' first | exact Below.refl _ _ | refine Below.setCell ?_ (Nat.le_refl _) _ | refine Below.alloc ?_ (Nat.le_refl _) _
set_option maxRecDepth 100000 in
set_option maxHeartbeats 1000000 in
/-- The document's size. -/
theorem size_any (z : Int) (w : World) : Calls Try.prog 16 #[.int .i64 z] w fun e w' => e = .returned (.bool (!bad z)) ∧ w = w' := by
  by_cases h0 : 0 ≤ z
  · by_cases h1 : z ≤ 4000
    · rw [bad_false h0 h1]
      go_enter Try.func16, Try.ntmps16
      go_wp2
      go_ret
      exact ⟨rfl, rfl⟩
    · rw [bad_true (fun h => h1 h.2)]
      go_enter Try.func16, Try.ntmps16
      go_wp2
      go_ret
      exact ⟨rfl, rfl⟩
  · rw [bad_true (fun h => h0 h.1)]
    go_enter Try.func16, Try.ntmps16
    go_wp2
    go_ret
    exact ⟨rfl, rfl⟩
end Go.Proofs.Ytlnikgejcogkeaa
