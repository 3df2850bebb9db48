/- What the document's answers for check sums (belfryref02.More, Sum) return, whatever they are asked; and the laws' fixed question. -/
import Derived.Test.YtdokhiikglcpcaaMore
namespace Go.Proofs.Ytdokhiikglcpcaa
open Go.RowKit Go.IntWalk Crcm
set_option linter.unusedVariables false

theorem raw_step8 (c : BitVec 32) (z : Int) (zs : List Int) : raw c (bts (zs ++ [z])) = stn 8 (raw c (bts zs) ^^^ (bt z).setWidth 32) := by
  rw [raw_step]; rfl

set_option maxRecDepth 100000 in
set_option maxHeartbeats 1000000 in
theorem refmore_empty (a : Int) (x : BitVec 32) (ha : Hid (a = U x)) (ad : Option Addr) (cap : Nat) (w : World) :
    Calls Try.prog 9 #[.int .u32 a, .slice ad 0 cap] w fun e w' => ∃ d, e = .returned (.int .u32 d) ∧ Hid (d = U x) ∧ w = w' := by
  have hx : Hid (bits .xor .u32 (bits .xor .u32 a 4294967295) 4294967295 = U x) := by
    show bits .xor .u32 (bits .xor .u32 a 4294967295) 4294967295 = U x
    rw [← U_ones, ha.out, U_xor, U_xor, xr]
  go_enter Try.func9, Try.ntmps9
  go_wp2
  refine wp_loop_rounds 1 ?_
  rw [rounds_succ]
  go_wp2
  go_ret
  exact ⟨_, rfl, hx, rfl⟩
set_option maxRecDepth 100000 in
set_option maxHeartbeats 1000000 in
theorem refmore_core (a : Int) (x : BitVec 32) (ha : Hid (a = U x)) (b off len cap : Nat) (g : Nat → Int) (hm : len ≤ 9223372036854775807) (w : World) (hz : ∀ j, j < len → 0 ≤ g j ∧ g j < 256)
    (hc : ∀ j, j < len → w.cell? ⟨b, off + j, none⟩ = some (.int .u8 (g j))) :
    Calls Try.prog 9 #[.int .u32 a, .slice (some ⟨b, off, none⟩) len cap] w fun e w' => ∃ d, e = .returned (.int .u32 d) ∧ Hid (d = U (more x (bts ((List.range len).map g)))) ∧ w = w' := by
  have hx : Hid (bits .xor .u32 a 4294967295 = U (x ^^^ ones)) := by
    show bits .xor .u32 a 4294967295 = U (x ^^^ ones)
    rw [← U_ones, ha.out, U_xor]
  go_enter Try.func9, Try.ntmps9
  go_wp2
  go_loop [5, 6] (fun c i => ∃ (k : Nat) (c' : Int), k ≤ len ∧ i = .int .i64 k ∧ c = .int .u32 c' ∧ Hid (c' = U (raw (x ^^^ ones) (bts ((List.range k).map g))))) (fun _ i => len - (intOf i).toNat)
  case atStart => exact ⟨0, _, Nat.zero_le _, rfl, rfl, hx⟩
  case round =>
    obtain ⟨k, c, hk, rfl, rfl, hcc⟩ := hrel
    by_cases hlt : k < len
    · have hck := hc k hlt
      have hzk := hz k hlt
      have hlk : decide ((k : Int) < (len : Int)) = true := by simp; omega
      obtain ⟨y, ey⟩ : ∃ y, y = raw (x ^^^ ones) (bts ((List.range k).map g)) ^^^ (bt (g k)).setWidth 32 := ⟨_, rfl⟩
      obtain ⟨c1, h1, e1⟩ : ∃ c1, bits .xor .u32 c (g k) = c1 ∧ Hid (c1 = U y) := ⟨_, rfl, by
        show bits .xor .u32 c (g k) = _
        rw [hcc.out]
        conv => lhs; rw [U_bt (g k) hzk.1 hzk.2]
        rw [ey]
        exact U_xor _ _⟩
      have EY : Hid (y = raw (x ^^^ ones) (bts ((List.range k).map g)) ^^^ (bt (g k)).setWidth 32) := ey
      clear ey hc
      go_wp2
      go_loop [5, 7] (fun c i => ∃ (j : Nat) (c' : Int), j ≤ 8 ∧ i = .int .i64 j ∧ c = .int .u32 c' ∧ Hid (c' = U (stn j y))) (fun _ i => 8 - (intOf i).toNat)
      case atStart => exact ⟨0, c1, by omega, rfl, rfl, e1⟩
      case round =>
        obtain ⟨j, d, hj, rfl, rfl, hd⟩ := hrel
        by_cases hlj : j < 8
        · have b1 : 0 ≤ d := by rw [hd.out]; exact U_lo _
          have b1' : d < 4294967296 := by rw [hd.out]; exact U_hi _
          have hlow := U_low (stn j y)
          rw [← hd.out] at hlow
          have hmod : d.tmod 2 = d % 2 := Int.tmod_eq_emod_of_nonneg b1
          have hdiv : d.tdiv 2 = d / 2 := Int.tdiv_eq_ediv_of_nonneg b1
          cases hb : (stn j y).getLsbD 0
          · rw [hb] at hlow
            have h0 : d % 2 = 0 := hlow
            rw [h0] at hmod
            clear hlow
            go_wp2
            refine ⟨⟨j + 1, d / 2, by omega, by go_num, rfl, ?_⟩, by simp [intOf]; omega⟩
            show d / 2 = U (stn (j + 1) y)
            rw [hd.out, U_half, stn, st, hb]
            rfl
          · rw [hb] at hlow
            have h0 : d % 2 = 1 := hlow
            rw [h0] at hmod
            clear hlow
            go_wp2
            refine ⟨⟨j + 1, _, by omega, by go_num, rfl, ?_⟩, by simp [intOf]; omega⟩
            show bits .xor .u32 (d / 2) 3988292384 = U (stn (j + 1) y)
            rw [hd.out, U_half, ← U_poly, U_xor, stn, st, hb]
            rfl
        · have hj8 : decide ((j : Int) < 8) = false := by simp; omega
          have hd8 : Hid (d = U (stn 8 y)) := by rw [show j = 8 from by omega] at hd; exact hd
          clear hd hlj hj
          go_wp2
          refine ⟨⟨k + 1, d, by omega, by go_num, rfl, ?_⟩, by simp [intOf]; omega⟩
          rw [List.range_succ, List.map_append, List.map_cons, List.map_nil, raw_step8, ← EY.out]
          exact hd8
    · go_wp2
      go_ret
      obtain rfl : k = len := by omega
      refine ⟨_, rfl, ?_, rfl⟩
      show bits .xor .u32 c 4294967295 = _
      rw [hcc.out, ← U_ones, U_xor]
      rfl
/-- belfryref02.More. -/
theorem refmore_any (a : Int) (x : BitVec 32) (ha : Hid (a = U x)) (v : Value) (zs : List Int) (w : World) (h : Bts w.heap.size w v zs) :
    Calls Try.prog 9 #[.int .u32 a, v] w fun e w' => ∃ d, e = .returned (.int .u32 d) ∧ Hid (d = U (more x (bts zs))) ∧ w = w' := by
  obtain ⟨⟨rfl | ⟨ad, cap, rfl⟩, rfl⟩ | ⟨b, off, cap, rfl, hb, hl, hm, hc⟩, hz⟩ := h
  · rw [show more x (bts []) = x from more_nil x]; exact refmore_empty a x ha none 0 w
  · rw [show more x (bts []) = x from more_nil x]; exact refmore_empty a x ha _ cap w
  · have := refmore_core a x ha b off zs.length cap (fun j => zs[j]?.getD 0) (by unfold maxLen at hm; omega) w (fun j hj => hz _ (by simp [hj])) hc
    rw [gets_all] at this
    exact this
set_option maxRecDepth 100000 in
set_option maxHeartbeats 1000000 in
/-- belfryref02.Sum. -/
theorem refsum_any (v : Value) (zs : List Int) (w : World) (h : Bts w.heap.size w v zs) :
    Calls Try.prog 11 #[v] w fun e w' => ∃ d, e = .returned (.int .u32 d) ∧ Hid (d = U (sum (bts zs))) ∧ w = w' := by
  go_enter Try.func11, Try.ntmps11
  go_wp2_with fail
  refine (refmore_any 0 0#32 rfl v zs w h).mono ?_
  rintro e w1 ⟨d, rfl, hd, hB⟩
  go_wp2
  go_ret
  exact ⟨d, rfl, hd, hB⟩

theorem alive_sum : U (sum (bts [49, 50, 51, 52, 53, 54, 55, 56, 57])) = 3421780262 := by decide +kernel
theorem lit_cells (W : World) (zs : List Int) (fr : Nat × Nat) (hm : zs.length ≤ maxLen) (hz : ∀ z ∈ zs, 0 ≤ z ∧ z < 256) : Bts (W.alloc (.cells (zs.map (Value.int .u8)).toArray 5 fr)).heap.size (W.alloc (.cells (zs.map (Value.int .u8)).toArray 5 fr)) (.slice (some ⟨W.heap.size, 0, none⟩) zs.length zs.length) zs := by
  refine ⟨.inr ⟨W.heap.size, 0, zs.length, rfl, by rw [World.size_alloc]; omega, Nat.le_refl _, hm, fun j hj => ?_⟩, hz⟩
  have hh := heap_alloc_new W (.cells (zs.map (Value.int .u8)).toArray 5 fr)
  simp only [World.cell?, hh, Nat.zero_add]
  simp [hj]
set_option maxRecDepth 100000 in
set_option maxHeartbeats 1000000 in
/-- The fixed question. -/
theorem alive_any (w : World) : Calls Try.prog 8 #[] w fun e w' => e = .returned (.bool true) ∧ Below w.heap.size w w' := by
  have kc := fun (w : World) (C : Array Value) (n c : Nat) => Lib.run_convert_bytes_const (P := Try.prog) w 22 5 C n c Try.underlying22 Try.underlying5
  go_enter Try.func8, Try.ntmps8
  go_wp2_with fail
  have hb := lit_cells w [49, 50, 51, 52, 53, 54, 55, 56, 57] (9, 10) (by unfold maxLen; simp) (by decide)
  refine (sum_any _ _ _ hb).mono ?_
  rintro e w1 ⟨d, rfl, hd, hB⟩
  have hd0 : d = 3421780262 := hd.out.trans alive_sum
  subst hd0
  go_wp2_with fail
  refine (sum_any (.slice none 0 0) [] _ ⟨.inl ⟨.inl rfl, rfl⟩, fun z hz => by cases hz⟩).mono ?_
  rintro e w2 ⟨d, rfl, hd2, hB2⟩
  have hd0 : d = 0 := hd2.out.trans (by decide +kernel)
  subst hd0
  go_wp2
  go_ret
  exact ⟨rfl, (((Below.refl _ w).alloc (Nat.le_refl _) _).trans (hB.mono (by simp))).trans (hB2.mono (by have := hB.size; simp at this; omega))⟩
/-- 'make([]byte, n)'. -/
theorem made (w : World) (n : Int) (h0 : 0 ≤ n) (h1 : n ≤ 3000) :
    ∃ v w', (Instr.makeSlice 22 (.int .i64 n) (.int .i64 n)).run Try.prog w = .ok v w' ∧ Bts w'.heap.size w' v (List.replicate n.toNat 0) ∧ Below w.heap.size w w' := by
  obtain ⟨i0, hi, hz0, hz1, hz2⟩ := info_parts Try.info5
  obtain ⟨k, rfl⟩ := Int.eq_ofNat_of_zero_le h0
  obtain ⟨w', hrun, hown, hg⟩ := run_make_full (P := Try.prog) w w.heap.size 22 5 i0 (.int .u8 0) 1 Try.underlying22 hi hz0 hz1 .i64 .i64 k (by rw [hz2]; omega) (by unfold maxLen; omega) (Nat.le_refl _)
  refine ⟨_, w', hrun, ?_, (Below.refl _ _).grown hg (Nat.le_refl _) (fun _ e => by cases e)⟩
  rw [madeCells_u8] at hown
  refine Bts.of_own (k := k) (base := w.heap.size) ?_ (by intro z hz; have := List.eq_of_mem_replicate hz; omega)
  rw [List.map_replicate]
  exact hown
theorem bts_noughts (k : Nat) : bts (List.replicate k 0) = List.replicate k 0#8 := by unfold bts; rw [List.map_replicate]; rfl
end Go.Proofs.Ytdokhiikglcpcaa
