/- belfrylaw03.alive, whatever lies in memory. -/
import Derived.Test.YtmhpbemfejkdaaaPowe
namespace Go.Proofs.Ytmhpbemfejkdaaa
open Go.RowKit Go.IntWalk Go.Maps Go.Sort
set_option linter.unusedVariables false

theorem lit_cells (W : World) (zs : List Int) (fr : Nat × Nat) (hm : zs.length ≤ maxLen) (hz : ∀ z ∈ zs, 0 ≤ z ∧ z < 256) : Bts (W.alloc (.cells (zs.map (Value.int .u8)).toArray 5 fr)).heap.size (W.alloc (.cells (zs.map (Value.int .u8)).toArray 5 fr)) (.slice (some ⟨W.heap.size, 0, none⟩) zs.length zs.length) zs := by
  refine ⟨.inr ⟨W.heap.size, 0, zs.length, rfl, by rw [World.size_alloc]; omega, Nat.le_refl _, hm, fun j hj => ?_⟩, hz⟩
  have hh := heap_alloc_new W (.cells (zs.map (Value.int .u8)).toArray 5 fr)
  simp only [World.cell?, hh, Nat.zero_add]
  simp [hj]
theorem lit_ints (W : World) (zs : List Int) (hm : zs.length ≤ maxLen) (hz : ∀ z ∈ zs, -9223372036854775808 ≤ z ∧ z < 9223372036854775808) : Ins (W.alloc (.cells (zs.map (Value.int .i64)).toArray 3)).heap.size (W.alloc (.cells (zs.map (Value.int .i64)).toArray 3)) (.slice (some ⟨W.heap.size, 0, none⟩) zs.length zs.length) zs := by
  refine ⟨.inr ⟨W.heap.size, 0, zs.length, rfl, by rw [World.size_alloc]; omega, Nat.le_refl _, hm, fun j hj => ?_⟩, hz⟩
  have hh := heap_alloc_new W (.cells (zs.map (Value.int .i64)).toArray 3)
  simp only [World.cell?, hh, Nat.zero_add]
  simp [hj]
theorem power_nil (w : World) (v : Value) : Calls Try.prog 21 #[.pointer none, v] w fun r w' => r = .returned (.pointer none) ∧ w = w' := by
  go_enter Try.func21, Try.ntmps21
  go_wp2
  go_ret
  exact ⟨rfl, rfl⟩
theorem getS_one (n : Int) (v : Value) (b : List Int) (s : Int) : getS n [⟨n, v, b, s⟩] = some ⟨n, v, b, s⟩ := by simp [getS]
theorem putS_one (n : Int) (v v' : Value) (b b' : List Int) (s s' : Int) : putS ⟨n, v, b, s⟩ [⟨n, v', b', s'⟩] = [⟨n, v, b, s⟩] := by simp [putS]
set_option maxRecDepth 100000 in
set_option maxHeartbeats 4000000 in
theorem alive_any (w : World) : Calls Try.prog 24 #[] w fun e w' => e = .returned (.bool true) ∧ w.grownBy w' none := by
  have kc := fun (w : World) (C : Array Value) (n c : Nat) => Lib.run_convert_bytes_const (P := Try.prog) w 27 5 C n c Try.underlying27 Try.underlying5
  go_enter Try.func24, Try.ntmps24
  go_wp2_with fail
  refine (new_any w).mono ?_
  rintro r w1 ⟨sb, bm, rfl, hsb, hbm, hd1, hg1⟩
  go_wp2_with fail
  have hgA := World.grownBy_alloc w1 (.cells #[.int .u8 97, .int .u8 98] 5 (2, 3)) none
  refine (append_any _ (hd1.grown0 hgA) 4 (by omega) (by omega) _ [97, 98] (lit_cells w1 [97, 98] (2, 3) (by unfold maxLen; simp) (by decide))).mono ?_
  rintro r w2 (⟨hf, rfl, ⟨v2, hd2⟩, hg2⟩ | ⟨hf, _⟩)
  rotate_left
  · exact absurd hf (by decide)
  change Dsk w2 sb bm _ [⟨4, v2, [97, 98], 0⟩] [] at hd2
  have hW2 := grown_new (grown_none hg1 hgA) hg2 hbm
  go_wp2_with fail
  refine (sync_some w2 hd2 (getS_one _ _ _ _)).mono ?_
  rintro r w3 ⟨rfl, hd3, hg3⟩
  rw [putS_one] at hd3
  have hW3 := grown_new hW2 hg3 hbm
  go_wp2_with fail
  have hgB := World.grownBy_alloc w3 (.cells #[.int .u8 99, .int .u8 100] 5 (2, 3)) none
  refine (append_any _ (hd3.grown0 hgB) 4 (by omega) (by omega) _ [99, 100] (lit_cells w3 [99, 100] (2, 3) (by unfold maxLen; simp) (by decide))).mono ?_
  rintro r w4 (⟨hf, rfl, ⟨v4, hd4⟩, hg4⟩ | ⟨hf, _⟩)
  rotate_left
  · exact absurd hf (by simp [fits, orS, getS])
  rw [putS_one] at hd4
  have ho : orS 4 [⟨4, v2, [97, 98], (([97, 98] : List Int).length : Int)⟩] = ⟨4, v2, [97, 98], 2⟩ := by simp [orS, getS]
  rw [ho] at hd4
  change Dsk w4 sb bm _ [⟨4, v4, [97, 98, 99, 100], 2⟩] [] at hd4
  have hW4 := grown_new (grown_none hW3 hgB) hg4 hbm
  go_wp2_with fail
  refine (read_some w4 hd4 (getS_one _ _ _ _)).mono ?_
  rintro r w5 ⟨v5, rfl, hb5, hg5⟩
  have hd5 := hd4.grown0 hg5
  go_wp2_with fail
  have hgC := World.grownBy_alloc w5 (.cells #[.int .i64 1] 3) none
  refine (power_any _ (hd5.grown0 hgC) _ _ [1] (lit_ints w5 [1] (by unfold maxLen; simp) (by decide))).mono ?_
  rintro r w6 ⟨sx, bx, l6, rfl, hsx, hbx, hd6, hl6, hg6⟩
  have hl6' : ∃ v6, l6 = [⟨4, v6, [97, 98, 99], 3⟩] := by
    have e : powS [1] [⟨4, v4, [97, 98, 99, 100], 2⟩] = [(4, [97, 98, 99], 3)] := rfl
    rw [e] at hl6
    match l6, hl6 with
    | [⟨a, b, c, d⟩], hl6 =>
      simp [Sg.abs] at hl6
      obtain ⟨rfl, rfl, rfl⟩ := hl6
      exact ⟨b, rfl⟩
  obtain ⟨v6, rfl⟩ := hl6'
  go_wp2_with fail
  refine (read_some w6 hd6 (getS_one _ _ _ _)).mono ?_
  rintro r w7 ⟨v7, rfl, hb7, hg7⟩
  have k5 := run_conv (((hb5.1.grown0 hgC).grown0 hg6).grown0 hg7)
  have k7 := run_conv hb7.1
  rw [show strOfNums [97, 98, 99, 100] = ⟨#[97, 98, 99, 100]⟩ from rfl] at k5
  dsimp only at k7
  rw [show strOfNums [97, 98, 99] = ⟨#[97, 98, 99]⟩ from rfl] at k7
  go_wp2_with fail
  refine (safe_some w7 (((hd5.grown0 hgC).grown0 hg6).grown0 hg7) (getS_one _ _ _ _)).mono ?_
  rintro r w8 ⟨rfl, hg8⟩
  go_wp2
  go_ret
  exact ⟨rfl, grown_none (grown_none (grown_none (grown_none (grown_none hW4 hg5) hgC) hg6) hg7) hg8⟩
end Go.Proofs.Ytmhpbemfejkdaaa
