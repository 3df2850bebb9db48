/- What codec.first returns, for every slice of bytes. -/
import Derived.Test.YtmahpceokpajgaaDoorCRound
import Derived.BigRegion
namespace Go.Proofs.YtmahpceokpajgaaDoor.C
open Go.RowKit Go.Shelf Plain Go.IntWalk
set_option linter.unusedVariables false

theorem cell_kept_alloc {W : World} {a : Addr} {v : Value} (h : W.cell? a = some v) (o : Obj) : (W.alloc o).cell? a = some v := Lib.cell?_alloc_marked o h

set_option maxRecDepth 100000 in
set_option maxHeartbeats 1000000 in
theorem first_short (a : Option Addr) (len cap : Nat) (h : (len : Int) < 3) (w : World) :
    Calls Tryd.prog 56 #[.slice a len cap] w fun e w' => e = .returned (.tuple #[.agg #[.int .i64 0, .slice none 0 0], .bool false]) ∧ Below w.heap.size w w' := by
  go_enter Tryd.func56, Tryd.ntmps56
  go_wp2
  exact bodyPost_ret (v := .tuple #[.agg #[.int .i64 0, .slice none 0 0], .bool false]) (by simp [results, Tryd.results56, go_sem]) rfl ⟨rfl, (Below.refl _ _).alloc (Nat.le_refl _) _⟩

theorem shl_or64 (v d : Int) (h0 : 0 ≤ v) (h1 : v < 256) (h2 : 0 ≤ d) (h3 : d < 256) : bits .or .i64 (v * 256) d = 256 * v + d := by
  obtain ⟨a, rfl⟩ := Int.eq_ofNat_of_zero_le h0
  obtain ⟨b, rfl⟩ := Int.eq_ofNat_of_zero_le h2
  have e := Nat.shiftLeft_add_eq_or_of_lt (b := b) (i := 8) (by omega) a
  rw [Nat.shiftLeft_eq] at e
  have e1 : BitVec.ofInt 64 ((a : Int) * 256) = BitVec.ofNat 64 (a * 256) := by
    rw [show ((a : Int) * 256) = ((a * 256 : Nat) : Int) from by omega, BitVec.ofInt_natCast]
  have e2 : BitVec.ofInt 64 (b : Int) = BitVec.ofNat 64 b := BitVec.ofInt_natCast ..
  have e3 : ((BitVec.ofNat 64 (a * 256) ||| BitVec.ofNat 64 b).toNat : Nat) = a * 256 + b := by
    rw [BitVec.toNat_or, BitVec.toNat_ofNat, BitVec.toNat_ofNat, Nat.mod_eq_of_lt (by omega), Nat.mod_eq_of_lt (by omega), show a * 256 = a * 2 ^ 8 from rfl, ← e]
  unfold bits
  show IntKind.wrap .i64 ((BitVec.ofInt 64 ((a : Int) * 256) ||| BitVec.ofInt 64 (b : Int)).toNat : Int) = _
  rw [e1, e2, e3, IntKind.wrap_i64]
  omega

/-- The blocks of a call that laid one block for its result, and then read. -/
theorem lat_block {w : World} {o : Obj} (p : Lat (w.alloc o)) : p.W.heap[w.heap.size]? = some o ∧ Below w.heap.size w p.W ∧ w.heap.size < p.W.heap.size := by
  have h1 := p.h.block w.heap.size (by simp)
  have h2 := p.h.size
  rw [World.size_alloc] at h2
  exact ⟨h1.trans (heap_alloc_new w o), ((Below.refl _ w).alloc (Nat.le_refl _) o).trans (p.h.mono (by simp)), by omega⟩

theorem after_right {w W1 W3 : World} {c d c' d' : Value} {o : Obj} (hW : W3 = ((W1.alloc (.cells #[c, d] 55)).drew).alloc o) (bR : W1.heap[w.heap.size]? = some (.cells #[c', d'] 55 (0, 0))) (hB : Below w.heap.size w W1) (hs : w.heap.size < W1.heap.size) :
    W3.heap[w.heap.size]? = some (.cells #[c', d'] 55 (0, 0)) ∧ W3.heap[W1.heap.size]? = some (.cells #[c, d] 55 (0, 0)) ∧ Below w.heap.size w W3 := by
  subst hW
  have e1 : ((W1.alloc (.cells #[c, d] 55)).drew).heap[w.heap.size]? = some (.cells #[c', d'] 55 (0, 0)) := alloc_old bR
  have e2 : ((W1.alloc (.cells #[c, d] 55)).drew).heap[W1.heap.size]? = some (.cells #[c, d] 55 (0, 0)) := heap_alloc_new W1 _
  exact ⟨alloc_old e1, alloc_old e2, ((hB.alloc hB.size _).drew).alloc (by show w.heap.size ≤ (W1.alloc _).heap.size; simp; omega) _⟩

set_option maxRecDepth 100000 in
set_option maxHeartbeats 1000000 in
theorem first_big (b off len cap N : Nat) (z0 z1 z2 : Int) (sa : Option Addr) (sc : Nat) (h : decide ((len : Int) < 3) = false) (hm : len ≤ 9223372036854775807) (h0 : 0 ≤ z0 ∧ z0 < 256) (h1 : 0 ≤ z1 ∧ z1 < 256) (h2 : 0 ≤ z2 ∧ z2 < 256) (w : World)
    (c0 : w.cell? ⟨b, off, none⟩ = some (.int .u8 z0)) (c1 : w.cell? ⟨b, off + 1, none⟩ = some (.int .u8 z1)) (c2 : w.cell? ⟨b, off + 2, none⟩ = some (.int .u8 z2)) (hN : bits BinOp.or IntKind.i64 (z1 * 256) z2 = (N : Int)) (hN2 : N ≤ 65535) (hlc : len ≤ cap) (hcm : cap ≤ 9223372036854775807)
    (hbig : (len : Int) - 3 < (N : Int)) :
    Calls Tryd.prog 56 #[.slice (some ⟨b, off, none⟩) len cap] w fun e w' => ((((N : Int) ≤ (len : Int) - 3 ∧ rightB z0 N = true) ∧ e = .returned (.tuple #[.agg #[.int .i64 z0, .slice sa N sc], .bool true])) ∨ (¬ ((N : Int) ≤ (len : Int) - 3 ∧ rightB z0 N = true) ∧ e = .returned (.tuple #[.agg #[.int .i64 0, .slice none 0 0], .bool false]))) ∧ Below w.heap.size w w' := by
  obtain ⟨h01, h02⟩ := h0
  obtain ⟨h11, h12⟩ := h1
  obtain ⟨h21, h22⟩ := h2
  have g0 : (3 : Int) ≤ (len : Int) := by simp at h; omega
  have g1 : (1 : Int) < (len : Int) := by omega
  have g2 : (2 : Int) < (len : Int) := by omega
  have g3 : 0 < len := by omega
  have g4 : (0 : Int) < (len : Int) := by omega
  go_enter Tryd.func56, Tryd.ntmps56
  go_wp2_with fail
  haveI := lat_nonempty (w.alloc (.cells #[.int .i64 0, .slice none 0 0] 55))
  have k1 := lat_cell (cell_kept_alloc c1 (.cells #[.int .i64 0, .slice none 0 0] 55))
  have k2 := lat_cell (cell_kept_alloc c2 (.cells #[.int .i64 0, .slice none 0 0] 55))
  have k0 := lat_cell (cell_kept_alloc c0 (.cells #[.int .i64 0, .slice none 0 0] 55))
  refine wp_region_lat (by kernel_rfl) (by kernel_rfl) ?_
  repeat (go_big_quiet_step (fail))
  refine wpQuiet_nil ?_
  intro _ hw'
  obtain ⟨p, hw''⟩ := hw'
  subst hw''
  obtain ⟨bR, hB1, hs1⟩ := lat_block p
  have k0' := k0 p
  clear k1 k2 k0
  generalize p.W = W1 at *
  have r0 := cell_two_0 bR
  have r1 := cell_two_1 bR
  have f0 := Joins.unfrozen_of_block bR 0
  have f1 := Joins.unfrozen_of_block bR 1
  go_wp2_with fail
  exact bodyPost_ret (v := .tuple #[.agg #[.int .i64 0, .slice none 0 0], .bool false]) (by simp [results, Tryd.results56, go_sem, r0, r1]) rfl ⟨.inr ⟨by omega, rfl⟩, (hB1.setCell (p := ⟨w.heap.size, 0, none⟩) (Nat.le_refl _) _).setCell (p := ⟨w.heap.size, 1, none⟩) (Nat.le_refl _) _⟩

set_option maxRecDepth 100000 in
set_option maxHeartbeats 1000000 in
theorem first_core (b off len cap N : Nat) (z0 z1 z2 : Int) (h : decide ((len : Int) < 3) = false) (hm : len ≤ 9223372036854775807) (h0 : 0 ≤ z0 ∧ z0 < 256) (h1 : 0 ≤ z1 ∧ z1 < 256) (h2 : 0 ≤ z2 ∧ z2 < 256) (w : World)
    (c0 : w.cell? ⟨b, off, none⟩ = some (.int .u8 z0)) (c1 : w.cell? ⟨b, off + 1, none⟩ = some (.int .u8 z1)) (c2 : w.cell? ⟨b, off + 2, none⟩ = some (.int .u8 z2)) (hN : bits BinOp.or IntKind.i64 (z1 * 256) z2 = (N : Int)) (hN2 : N ≤ 65535) (hlc : len ≤ cap) (hcm : cap ≤ 9223372036854775807)
    (sa : Option Addr) (sc : Nat) (hsl : (N : Int) ≤ (len : Int) - 3 → ∀ W, (Instr.slice 23 (.slice (some ⟨b, off, none⟩) len cap) (some (.int .i64 3)) (some (.int .i64 (3 + (N : Int)))) none).run Tryd.prog W = .ok (.slice sa N sc) W)
    (hcase : ((len : Int) - 3 < (N : Int)) ∨ (decide ((len : Int) - 3 < (N : Int)) = false)) :
    Calls Tryd.prog 56 #[.slice (some ⟨b, off, none⟩) len cap] w fun e w' => ((((N : Int) ≤ (len : Int) - 3 ∧ rightB z0 N = true) ∧ e = .returned (.tuple #[.agg #[.int .i64 z0, .slice sa N sc], .bool true])) ∨ (¬ ((N : Int) ≤ (len : Int) - 3 ∧ rightB z0 N = true) ∧ e = .returned (.tuple #[.agg #[.int .i64 0, .slice none 0 0], .bool false]))) ∧ Below w.heap.size w w' := by
  obtain ⟨h01, h02⟩ := h0
  obtain ⟨h11, h12⟩ := h1
  obtain ⟨h21, h22⟩ := h2
  have g0 : (3 : Int) ≤ (len : Int) := by simp at h; omega
  have g1 : (1 : Int) < (len : Int) := by omega
  have g2 : (2 : Int) < (len : Int) := by omega
  have g3 : 0 < len := by omega
  have g4 : (0 : Int) < (len : Int) := by omega
  rcases hcase with hbig | hsm
  · clear hsl
    exact first_big b off len cap N z0 z1 z2 sa sc h hm ⟨h01, h02⟩ ⟨h11, h12⟩ ⟨h21, h22⟩ w c0 c1 c2 hN hN2 hlc hcm hbig
  have hle : (N : Int) ≤ (len : Int) - 3 := by simp at hsm; omega
  replace hsl := hsl hle
  · go_enter Tryd.func56, Tryd.ntmps56
    go_wp2_with fail
    haveI := lat_nonempty (w.alloc (.cells #[.int .i64 0, .slice none 0 0] 55))
    have k1 := lat_cell (cell_kept_alloc c1 (.cells #[.int .i64 0, .slice none 0 0] 55))
    have k2 := lat_cell (cell_kept_alloc c2 (.cells #[.int .i64 0, .slice none 0 0] 55))
    have k0 := lat_cell (cell_kept_alloc c0 (.cells #[.int .i64 0, .slice none 0 0] 55))
    refine wp_region_lat (by kernel_rfl) (by kernel_rfl) ?_
    repeat (go_big_quiet_step (fail))
    refine wpQuiet_nil ?_
    intro _ hw'
    obtain ⟨p, hw''⟩ := hw'
    subst hw''
    obtain ⟨bR, hB1, hs1⟩ := lat_block p
    have k0' := k0 p
    clear k1 k2 k0
    generalize p.W = W1 at *
    have r0 := cell_two_0 bR
    have r1 := cell_two_1 bR
    have f0 := Joins.unfrozen_of_block bR 0
    have f1 := Joins.unfrozen_of_block bR 1
    have k0'' := cell_kept_alloc k0' (.cells #[.int .i64 0, .slice none 0 0] 55)
    go_wp2_with fail
    go_region
    cases hr : rightB z0 N with
    | false =>
      go_wp2_with (go_at_call 40; go_must (refine (callsIn_wide.1 (right_in Fence.wide 0 trivial rfl z0 sa N sc (by omega) _)).mono ?_); rintro e W3 ⟨rfl, hW3⟩; rw [hr]; obtain ⟨q1, q2, q3⟩ := after_right hW3 bR hB1 hs1; clear hW3; have r30 := cell_two_0 q1; have r31 := cell_two_1 q1; have f30 := Joins.unfrozen_of_block q1 0; have f31 := Joins.unfrozen_of_block q1 1; have r32 := cell_two_0 q2; have r33 := cell_two_1 q2)
      exact bodyPost_ret (v := .tuple #[.agg #[.int .i64 0, .slice none 0 0], .bool false]) (by simp [results, Tryd.results56, go_sem, r30, r31]) rfl ⟨.inr ⟨by rw [hr]; simp, rfl⟩, (q3.setCell (p := ⟨w.heap.size, 0, none⟩) (Nat.le_refl _) _).setCell (p := ⟨w.heap.size, 1, none⟩) (Nat.le_refl _) _⟩
    | true =>
      go_wp2_with (go_at_call 40; go_must (refine (callsIn_wide.1 (right_in Fence.wide 0 trivial rfl z0 sa N sc (by omega) _)).mono ?_); rintro e W3 ⟨rfl, hW3⟩; rw [hr]; obtain ⟨q1, q2, q3⟩ := after_right hW3 bR hB1 hs1; clear hW3; have r30 := cell_two_0 q1; have r31 := cell_two_1 q1; have f30 := Joins.unfrozen_of_block q1 0; have f31 := Joins.unfrozen_of_block q1 1; have r32 := cell_two_0 q2; have r33 := cell_two_1 q2)
      exact bodyPost_ret (v := .tuple #[.agg #[.int .i64 z0, .slice sa N sc], .bool true]) (by simp [results, Tryd.results56, go_sem, r30, r31]) rfl ⟨.inl ⟨⟨hle, hr⟩, rfl⟩, (q3.setCell (p := ⟨w.heap.size, 0, none⟩) (Nat.le_refl _) _).setCell (p := ⟨w.heap.size, 1, none⟩) (Nat.le_refl _) _⟩
end Go.Proofs.YtmahpceokpajgaaDoor.C
