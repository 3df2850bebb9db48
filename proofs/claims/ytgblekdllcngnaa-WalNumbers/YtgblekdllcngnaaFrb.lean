/- What frame.right and wal.frameSize answer. -/
import Derived.Test.YtgblekdllcngnaaFra
namespace Go.Proofs.Ytgblekdllcngnaa
open Go.RowKit Go.IntWalk Crcm Plain
set_option linter.unusedVariables false

theorem shl_or32 (v d : Int) (h0 : 0 ≤ v) (h1 : v < 16777216) (h2 : 0 ≤ d) (h3 : d < 256) : bits .or .u32 (IntKind.u32.wrap (v * 256)) d = 256 * v + d := by
  obtain ⟨a, rfl⟩ := Int.eq_ofNat_of_zero_le h0
  obtain ⟨b, rfl⟩ := Int.eq_ofNat_of_zero_le h2
  have e := Nat.shiftLeft_add_eq_or_of_lt (b := b) (i := 8) (by omega) a
  rw [Nat.shiftLeft_eq] at e
  have hw : IntKind.u32.wrap ((a : Int) * 256) = ((a * 256 : Nat) : Int) := by
    rw [IntKind.wrap_u32]; omega
  have e1 : BitVec.ofInt 32 ((a * 256 : Nat) : Int) = BitVec.ofNat 32 (a * 256) := BitVec.ofInt_natCast ..
  have e2 : BitVec.ofInt 32 (b : Int) = BitVec.ofNat 32 b := BitVec.ofInt_natCast ..
  have e3 : ((BitVec.ofNat 32 (a * 256) ||| BitVec.ofNat 32 b).toNat : Nat) = a * 256 + b := by
    rw [BitVec.toNat_or, BitVec.toNat_ofNat, BitVec.toNat_ofNat, Nat.mod_eq_of_lt (by omega), Nat.mod_eq_of_lt (by omega), show a * 256 = a * 2 ^ 8 from rfl, ← e]
  rw [hw]
  unfold bits
  show IntKind.wrap .u32 ((BitVec.ofInt 32 ((a * 256 : Nat) : Int) ||| BitVec.ofInt 32 (b : Int)).toNat : Int) = _
  rw [e1, e2, e3, IntKind.wrap_u32]
  omega
theorem pow_le3 (k : Nat) (h : k ≤ 3) : (256 : Int) ^ k ≤ 16777216 := by
  have : ∀ j : Fin 4, (256 : Int) ^ j.val ≤ 16777216 := by decide +kernel
  exact this ⟨k, by omega⟩
theorem fwr_eq {f : List Int} (h : 6 ≤ f.length) : valUp (fun j => f[2 + j]?.getD 0) 4 = fwr f := by
  unfold valUp fwr
  congr 1
  apply List.ext_getElem
  · rw [List.length_map, List.length_range, List.length_drop, List.length_take]; omega
  · intro i h1 h2
    have hi : i < 4 := by simpa using h1
    have : 2 + i < f.length := by omega
    simp [this]

set_option maxRecDepth 100000 in
set_option maxHeartbeats 1000000 in
/-- frame.right. -/
theorem right_any (a : Option Addr) (len cap : Nat) (f : List Int) (w : World) (h : Bts w.heap.size w (.slice a len cap) f) (hl : 6 ≤ f.length) :
    Calls Try.prog 43 #[.slice a len cap] w fun e w' => e = .returned (.bool (rgt f)) ∧ Below w.heap.size w w' := by
  have hlen := h.len
  have hcap := bts_cap h
  obtain ⟨b, off, rfl, hc⟩ : ∃ b off, a = some ⟨b, off, none⟩ ∧ ∀ j, j < f.length → w.cell? ⟨b, off + j, none⟩ = some (.int .u8 (f[j]?.getD 0)) := by
    obtain ⟨⟨e | ⟨ad, c, e⟩, hn⟩ | ⟨b', off', c, e, _, h1, h2, h3⟩, _⟩ := id h
    · subst hn; simp at hl
    · subst hn; simp at hl
    · simp only [Value.slice.injEq] at e; exact ⟨b', off', e.1, h3⟩
  have hz : ∀ j, j < 4 → 0 ≤ (f[2 + j]?.getD 0 : Int) ∧ (f[2 + j]?.getD 0 : Int) < 256 := fun j hj => h.2 _ (by simp [show 2 + j < f.length by omega])
  have hc4 : ∀ j, j < 4 → w.cell? ⟨b, off + 2 + j, none⟩ = some (.int .u8 (f[2 + j]?.getD 0)) := fun j hj => by have := hc (2 + j) (by omega); rwa [← Nat.add_assoc] at this
  have hcut : ∀ W, (Instr.slice 58 (.slice (some ⟨b, off, none⟩) len cap) (some (.int .i64 2)) (some (.int .i64 6)) none).run Try.prog W = .ok (.slice (some ⟨b, off + 2, none⟩) 4 (cap - 2)) W := fun W => by
    have := run_lh 58 Try.underlying58 W (some ⟨b, off, none⟩) len cap 2 6 (by omega) (by omega) (by omega)
    rw [this]
    have hne : ¬ cap = 2 := by omega
    simp [cutA, hne, Addr.add]
  have HF : Hid (fwr f = valUp (fun j => f[2 + j]?.getD 0) 4) := (fwr_eq hl).symm
  have HL : Hid (6 ≤ f.length) := hl
  clear hl hc hlen hcap
  generalize hg : (fun j => (f[2 + j]?.getD 0 : Int)) = g at HF
  have hgj : ∀ j, (f[2 + j]?.getD 0 : Int) = g j := fun j => by rw [← hg]
  simp only [hgj] at hz hc4
  clear hg hgj
  go_enter Try.func43, Try.ntmps43
  go_wp2
  go_loop [3, 9] (fun c i => ∃ k : Nat, k ≤ 4 ∧ i = .int .i64 k ∧ c = .int .u32 (valUp g k)) (fun _ i => 4 - (intOf i).toNat)
  case atStart => exact ⟨0, Nat.zero_le _, rfl, rfl⟩
  case round =>
    obtain ⟨k, hk, rfl, rfl⟩ := hrel
    by_cases hlt : k < 4
    · have hck := hc4 k hlt
      have hzk := hz k hlt
      have hk4 : decide ((k : Int) < 4) = true := by simp; omega
      go_wp2
      go_roundw
      case rel =>
        have hb := valUp_bd g k (fun j hj => hz j (by omega))
        have hp : (256 : Int) ^ k ≤ 16777216 := pow_le3 k (by omega)
        refine ⟨k + 1, by omega, by go_num, ?_⟩
        have e := shl_or32 _ _ hb.1 (by omega) hzk.1 hzk.2
        rw [IntKind.wrap_u32] at e
        rw [valUp_succ, e]
      case measure => simp [intOf]; omega
    · have HF' : Hid (fwr f = valUp g k) := by rw [show k = 4 from by omega]; exact HF
      obtain ⟨K, hK⟩ : ∃ K : Int, K = k := ⟨_, rfl⟩
      have hK4 : decide (K < 4) = false := by simp; omega
      generalize valUp g k = v at HF'
      rw [← hK]
      clear HF hK hlt hk
      go_wp2_with fail
      refine (fsum_any _ len cap f w h HL.out).mono ?_
      rintro e w1 ⟨d, rfl, hd, hB⟩
      go_wp2
      go_ret
      refine ⟨?_, hB⟩
      unfold rgt
      rw [HF'.out, ← hd.out]
      rfl
set_option maxRecDepth 100000 in
set_option maxHeartbeats 1000000 in
theorem frameSize_short (a : Option Addr) (len cap : Nat) (h : decide ((len : Int) < 6) = true) (w : World) :
    Calls Try.prog 58 #[.slice a len cap] w fun e w' => e = .returned (.int .i64 0) ∧ w' = w := by
  go_enter Try.func58, Try.ntmps58
  go_wp2
  go_ret
  exact ⟨rfl, rfl⟩
set_option maxRecDepth 100000 in
set_option maxHeartbeats 1000000 in
theorem frameSize_core (b off len cap : Nat) (z0 z1 N : Int) (h : decide ((len : Int) < 6) = false) (hm : len ≤ 9223372036854775807) (h0 : 0 ≤ z0 ∧ z0 < 256) (h1 : 0 ≤ z1 ∧ z1 < 256) (w : World) (c0 : w.cell? ⟨b, off, none⟩ = some (.int .u8 z0)) (c1 : w.cell? ⟨b, off + 1, none⟩ = some (.int .u8 z1))
    (hN : bits BinOp.or IntKind.i64 (z0 * 256) z1 = N) (hN0 : 0 ≤ N) (hN1 : N < 65536) :
    Calls Try.prog 58 #[.slice (some ⟨b, off, none⟩) len cap] w fun e w' => e = .returned (.int .i64 (if N < 1 ∨ N > 1000 ∨ N > (len : Int) - 6 then 0 else 6 + N)) ∧ Below w.heap.size w w' := by
  have g0 : (0 : Int) < (len : Int) := by simp at h; omega
  have g1 : (1 : Int) < (len : Int) := by simp at h; omega
  obtain ⟨h01, h02⟩ := h0
  obtain ⟨h11, h12⟩ := h1
  haveI := lat_nonempty w
  have k0 := lat_cell c0
  have k1 := lat_cell c1
  by_cases hA : N < 1
  · have dA : decide (N < 1) = true := by simpa using hA
    go_enter Try.func58, Try.ntmps58
    go_wp2_with fail
    refine wp_region_lat (by kernel_rfl) (by kernel_rfl) ?_
    repeat (go_big_quiet_step (fail))
    refine wpQuiet_nil ?_
    intro _ hw'
    obtain ⟨p, hw''⟩ := hw'
    subst hw''
    clear k0 k1
    go_wp2
    go_ret
    exact ⟨by first | rfl | (rw [if_pos (.inl hA)]; rfl), p.h⟩
  · have dA : decide (N < 1) = false := by simpa using hA
    by_cases hBB : N > 1000
    · have dB : decide (N > 1000) = true := by simpa using hBB
      go_enter Try.func58, Try.ntmps58
      go_wp2_with fail
      refine wp_region_lat (by kernel_rfl) (by kernel_rfl) ?_
      repeat (go_big_quiet_step (fail))
      refine wpQuiet_nil ?_
      intro _ hw'
      obtain ⟨p, hw''⟩ := hw'
      subst hw''
      clear k0 k1
      go_wp2
      go_ret
      exact ⟨by first | rfl | (rw [if_pos (.inr (.inl hBB))]; rfl), p.h⟩
    · have dB : decide (N > 1000) = false := by simpa using hBB
      by_cases hC : N > (len : Int) - 6
      · have dC : decide (N > (len : Int) - 6) = true := by simpa using hC
        go_enter Try.func58, Try.ntmps58
        go_wp2_with fail
        refine wp_region_lat (by kernel_rfl) (by kernel_rfl) ?_
        repeat (go_big_quiet_step (fail))
        refine wpQuiet_nil ?_
        intro _ hw'
        obtain ⟨p, hw''⟩ := hw'
        subst hw''
        clear k0 k1
        go_wp2
        go_ret
        exact ⟨by first | rfl | (rw [if_pos (.inr (.inr hC))]; rfl), p.h⟩
      · have dC : decide (N > (len : Int) - 6) = false := by simpa using hC
        go_enter Try.func58, Try.ntmps58
        go_wp2_with fail
        refine wp_region_lat (by kernel_rfl) (by kernel_rfl) ?_
        repeat (go_big_quiet_step (fail))
        refine wpQuiet_nil ?_
        intro _ hw'
        obtain ⟨p, hw''⟩ := hw'
        subst hw''
        clear k0 k1
        go_wp2
        go_ret
        exact ⟨by first | rfl | (rw [if_neg (by omega)]; rfl), p.h⟩
/-- wal.frameSize. -/
theorem frameSize_any (n₀ : Nat) (a : Option Addr) (len cap : Nat) (zs : List Int) (w : World) (h : Bts n₀ w (.slice a len cap) zs) :
    Calls Try.prog 58 #[.slice a len cap] w fun e w' => e = .returned (.int .i64 (fsz zs)) ∧ Below w.heap.size w w' := by
  have hlen := h.len
  by_cases h6 : zs.length < 6
  · have : fsz zs = 0 := by unfold fsz; rw [if_pos h6]
    rw [this]
    refine (frameSize_short a len cap (by simp; omega) w).mono ?_
    rintro e w' ⟨rfl, rfl⟩
    exact ⟨rfl, Below.refl _ _⟩
  · have hm : len ≤ 9223372036854775807 := by
      obtain ⟨⟨e | ⟨ad, c, e⟩, hn⟩ | ⟨b', off', c, e, _, h1, h2, h3⟩, _⟩ := id h
      · subst hn; simp at h6
      · subst hn; simp at h6
      · unfold maxLen at h2; omega
    obtain ⟨b, off, rfl, hc⟩ : ∃ b off, a = some ⟨b, off, none⟩ ∧ ∀ j, j < zs.length → w.cell? ⟨b, off + j, none⟩ = some (.int .u8 (zs[j]?.getD 0)) := by
      obtain ⟨⟨e | ⟨ad, c, e⟩, hn⟩ | ⟨b', off', c, e, _, h1, h2, h3⟩, _⟩ := id h
      · subst hn; simp at h6
      · subst hn; simp at h6
      · simp only [Value.slice.injEq] at e; exact ⟨b', off', e.1, h3⟩
    have z0 := h.2 (zs[0]?.getD 0) (by simp [show 0 < zs.length by omega])
    have z1 := h.2 (zs[1]?.getD 0) (by simp [show 1 < zs.length by omega])
    refine (frameSize_core b off len cap _ _ _ (by simp; omega) hm z0 z1 w (hc 0 (by omega)) (hc 1 (by omega)) (shl_or64 _ _ z0.1 z0.2 z1.1 z1.2) (by omega) (by omega)).mono ?_
    rintro e w' ⟨rfl, hB⟩
    refine ⟨?_, hB⟩
    unfold fsz
    rw [if_neg h6]
    show Ending.returned _ = _
    rw [show (256 * (zs[0]?.getD 0 : Int) + (zs[1]?.getD 0 : Int)) = hd2 zs from rfl, hlen]
    split
    · rfl
    · rw [show ((6 + (hd2 zs).toNat : Nat) : Int) = 6 + hd2 zs by omega]
end Go.Proofs.Ytgblekdllcngnaa
