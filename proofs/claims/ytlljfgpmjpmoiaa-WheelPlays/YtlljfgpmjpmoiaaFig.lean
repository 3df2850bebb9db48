/- Which place, which figure, which of two timers comes ahead: unlike, figure, compare. -/
import Derived.Test.YtlljfgpmjpmoiaaBase
import Derived.Test.YtlljfgpmjpmoiaaLvl
import Derived.Test.YtlljfgpmjpmoiaaLay
import Derived.Shelf.SlSortCmp.Xorshift
import Derived.Shelf.Strconv.Itoa0
import Derived.Lib.ItoaNum
namespace Go.Proofs.Ytlljfgpmjpmoiaa
open Go.RowKit Go.IntWalk Go.Maps Go.Shelf
set_option linter.unusedVariables false
theorem bits_any (x : Int) (w : World) (h0 : 0 ≤ x) (h1 : x ≤ 18446744073709551615) : Calls Try.prog 50 #[.int .u64 x] w fun e w' => e = .returned (.int .i64 (Lib.bitLen x.toNat)) ∧ w' = w := by
  have L := SlLaysF0.n15.bits (P := Try.prog) (ρ := Try.sortT_ren) { Try.sortT with }
  exact Any.bits_Len64 (P := Try.prog) { L with } x w h0 h1
set_option maxRecDepth 100000 in
set_option maxHeartbeats 1000000 in
theorem xor_bits {a b : Int} (ha : 0 ≤ a ∧ a < 18446744073709551616) (hb : 0 ≤ b ∧ b < 18446744073709551616) : bits .xor .u64 a b = ((a.toNat ^^^ b.toNat : Nat) : Int) := by
  have h1 : a.toNat ^^^ b.toNat < 2 ^ 64 := Nat.xor_lt_two_pow (by omega) (by omega)
  obtain ⟨x, rfl⟩ := Int.eq_ofNat_of_zero_le ha.1
  obtain ⟨y, rfl⟩ := Int.eq_ofNat_of_zero_le hb.1
  rw [Int.toNat_natCast, Int.toNat_natCast] at *
  unfold bits
  show IntKind.wrap .u64 ((BitVec.ofInt 64 (x : Int) ^^^ BitVec.ofInt 64 (y : Int)).toNat : Int) = _
  rw [BitVec.ofInt_natCast, BitVec.ofInt_natCast, BitVec.toNat_xor, BitVec.toNat_ofNat, BitVec.toNat_ofNat, Nat.mod_eq_of_lt (by omega), Nat.mod_eq_of_lt (by omega)]
  simp [IntKind.wrap, IntKind.bits, IntKind.signed]
  omega
/-- What bits.Len64 of a difference tells. -/
theorem len_lv {a b : Nat} (ha : a < 16 ^ 16) (hb : b < 16 ^ 16) (hne : a ≠ b) : ((Lib.bitLen (a ^^^ b) : Int) - 1) / 4 = lv a b ∧ 1 ≤ Lib.bitLen (a ^^^ b) ∧ Lib.bitLen (a ^^^ b) ≤ 64 := by
  have h0 : a ^^^ b ≠ 0 := fun h => hne (xor_zero'.1 h)
  have h1 : a ^^^ b < 2 ^ 64 := Nat.xor_lt_two_pow (by simpa using ha) (by simpa using hb)
  obtain ⟨h2, h3, h4⟩ := Lib.bitLenAux_bounds 64 (a ^^^ b) h1 h0
  have h5 := Lib.bitLen_le (a ^^^ b) 64 (by omega) h1
  change 1 ≤ Lib.bitLen (a ^^^ b) at h2
  change 2 ^ (Lib.bitLen (a ^^^ b) - 1) ≤ _ at h3
  change _ < 2 ^ Lib.bitLen (a ^^^ b) at h4
  have h6 := lv_eq ha hb (isLv_xor h3 (by rw [Nat.sub_add_cancel h2]; exact h4))
  refine ⟨?_, h2, h5⟩
  rw [h6]
  omega
set_option maxRecDepth 100000 in
set_option maxHeartbeats 1000000 in
/-- wheel.unlike. -/
theorem unlike_any (a b : Int) (w : World) (ha : 0 ≤ a ∧ a < 18446744073709551616) (hb : 0 ≤ b ∧ b < 18446744073709551616) (hne : a ≠ b) : Calls Try.prog 40 #[.int .u64 a, .int .u64 b] w fun e w' => e = .returned (.int .i64 (lv a.toNat b.toNat)) ∧ w' = w := by
  have h1 := xor_bits ha hb
  have hA : a.toNat < 16 ^ 16 := by omega
  have hB : b.toNat < 16 ^ 16 := by omega
  obtain ⟨h2, h3, h4⟩ := len_lv hA hB (by omega)
  have h5 : a.toNat ^^^ b.toNat < 2 ^ 64 := Nat.xor_lt_two_pow (by omega) (by omega)
  have hc := bits_any ((a.toNat ^^^ b.toNat : Nat) : Int) w (by omega) (by omega)
  rw [Int.toNat_natCast] at hc
  rw [← h1] at hc
  rw [← h2]
  clear hA hB h1 h2 hne h5
  generalize Lib.bitLen (a.toNat ^^^ b.toNat) = q at *
  go_enter Try.func40, Try.ntmps40
  go_wp2_with (go_at_call 50; refine hc.mono ?_; rintro e w' ⟨rfl, rfl⟩)
  go_ret
  exact ⟨rfl, rfl⟩
theorem shr_fg {a : Int} (k : Nat) (ha : 0 ≤ a ∧ a < 18446744073709551616) : wrap64 ((a / 2 ^ (4 * k)).tmod 16) = (fg a.toNat k : Int) := by
  obtain ⟨n, rfl⟩ := Int.eq_ofNat_of_zero_le ha.1
  have h1 : ((n : Int) / 2 ^ (4 * k)).tmod 16 = ((n / 2 ^ (4 * k) % 16 : Nat) : Int) := by
    rw [Int.tmod_eq_emod_of_nonneg (Int.ediv_nonneg (by omega) (by exact Int.le_of_lt (Int.pow_pos (by omega))))]
    simp
  have h2 : (16 : Nat) ^ k = 2 ^ (4 * k) := by rw [Nat.pow_mul]
  have h3 := fg_lt n k
  rw [h1, Int.toNat_natCast]
  unfold fg at *
  rw [h2] at *
  unfold wrap64
  omega
set_option maxRecDepth 100000 in
set_option maxHeartbeats 1000000 in
/-- wheel.figure. -/
theorem figure_any (a : Int) (k : Nat) (w : World) (ha : 0 ≤ a ∧ a < 18446744073709551616) (hk : k < 16) : Calls Try.prog 41 #[.int .u64 a, .int .i64 k] w fun e w' => e = .returned (.int .i64 (fg a.toNat k)) ∧ w' = w := by
  have h1 := shr_fg k ha
  rw [← h1]
  clear h1
  go_enter Try.func41, Try.ntmps41
  go_wp2
  go_ret
  exact ⟨rfl, rfl⟩
/-- What cmp.Compare answers. -/
def c3 (p q : Bool) : Int := if p then -1 else if q then 1 else 0
set_option maxRecDepth 100000 in
set_option maxHeartbeats 1000000 in
theorem cmpu_any (a b : Int) (w : World) {p q : Bool} (hp : decide (a < b) = p) (hq : decide (b < a) = q) : Calls Try.prog 46 #[.int .u64 a, .int .u64 b] w fun e w' => e = .returned (.int .i64 (c3 p q)) ∧ w' = w := by
  have hn : ∀ (x : Int) (w : World), Calls Try.prog 60 #[.int .u64 x] w fun e w' => e = .returned (.bool false) ∧ w' = w := by
    intro x w
    go_enter Try.func60, Try.ntmps60
    go_wp2
    go_ret
    exact ⟨rfl, rfl⟩
  cases p with
  | true =>
    go_enter Try.func46, Try.ntmps46
    go_wp2_with (go_at_call 60; refine (hn _ _).mono ?_; rintro e w' ⟨rfl, rfl⟩)
    go_ret
    exact ⟨rfl, rfl⟩
  | false =>
    cases q with
    | true =>
      go_enter Try.func46, Try.ntmps46
      go_wp2_with (go_at_call 60; refine (hn _ _).mono ?_; rintro e w' ⟨rfl, rfl⟩)
      go_ret
      exact ⟨rfl, rfl⟩
    | false =>
      go_enter Try.func46, Try.ntmps46
      go_wp2_with (go_at_call 60; refine (hn _ _).mono ?_; rintro e w' ⟨rfl, rfl⟩)
      go_ret
      exact ⟨rfl, rfl⟩
set_option maxRecDepth 100000 in
set_option maxHeartbeats 1000000 in
theorem cmps_any (a b : ByteArray) (w : World) {p q : Bool} (hp : Op.bytesLess a.toList b.toList = p) (hq : Op.bytesLess b.toList a.toList = q) : Calls Try.prog 47 #[.string a, .string b] w fun e w' => e = .returned (.int .i64 (c3 p q)) ∧ w' = w := by
  have hn : ∀ (x : ByteArray) (w : World), Calls Try.prog 61 #[.string x] w fun e w' => e = .returned (.bool false) ∧ w' = w := by
    intro x w
    go_enter Try.func61, Try.ntmps61
    go_wp2
    go_ret
    exact ⟨rfl, rfl⟩
  cases p with
  | true =>
    go_enter Try.func47, Try.ntmps47
    go_wp2_with (go_at_call 61; refine (hn _ _).mono ?_; rintro e w' ⟨rfl, rfl⟩)
    go_ret
    exact ⟨rfl, rfl⟩
  | false =>
    have he : (a.toList == b.toList) = !q := by
      rw [bytesLess_eq] at hp hq
      rw [← hq]
      have h1 : ¬ a.toList < b.toList := by simpa using hp
      have h2 : b.toList ≤ a.toList := h1
      rw [List.le_iff_lt_or_eq] at h2
      rcases h2 with h2 | h2
      · have h3 : ¬ a.toList = b.toList := fun e => List.lt_irrefl _ (e ▸ h2)
        simp [h2, h3]
      · rw [h2]
        simp
    cases q with
    | true =>
      go_enter Try.func47, Try.ntmps47
      go_wp2_with (go_at_call 61; refine (hn _ _).mono ?_; rintro e w' ⟨rfl, rfl⟩)
      go_ret
      exact ⟨rfl, rfl⟩
    | false =>
      go_enter Try.func47, Try.ntmps47
      go_wp2_with (go_at_call 61; refine (hn _ _).mono ?_; rintro e w' ⟨rfl, rfl⟩)
      go_ret
      exact ⟨rfl, rfl⟩
/-- What compare answers. -/
def cfE (a b : E) : Int := c3 (ltb a b) (ltb b a)
set_option maxRecDepth 100000 in
set_option maxHeartbeats 1000000 in
/-- Timer.compare. -/
theorem compare_any (a b : E) (w : World) : Calls Try.prog 33 #[.agg #[.string a.n, .int .u64 a.at_], .agg #[.string b.n, .int .u64 b.at_]] w fun e w' => e = .returned (.int .i64 (cfE a b)) ∧ w' = (w.alloc (.cells #[.string a.n, .int .u64 a.at_] 52)).alloc (.cells #[.string b.n, .int .u64 b.at_] 52) := by
  obtain ⟨an, aa⟩ := a
  obtain ⟨bn, ba⟩ := b
  dsimp only
  by_cases h1 : aa = ba
  · have hc := fun w => cmps_any an bn w rfl rfl
    have hr : cfE ⟨an, aa⟩ ⟨bn, ba⟩ = c3 (Op.bytesLess an.toList bn.toList) (Op.bytesLess bn.toList an.toList) := by
      unfold cfE ltb
      rw [bytesLess_eq, bytesLess_eq]
      simp [h1]
    rw [hr]
    generalize c3 (Op.bytesLess an.toList bn.toList) (Op.bytesLess bn.toList an.toList) = r at *
    have hb : (aa != ba) = false := by simp [h1]
    clear h1 hr
    go_enter Try.func33, Try.ntmps33
    go_wp2_with (go_at_call 47; refine (hc _).mono ?_; rintro e w' ⟨rfl, rfl⟩)
    go_ret
    exact ⟨rfl, rfl⟩
  · have hc := fun w => cmpu_any aa ba w rfl rfl
    have hr : cfE ⟨an, aa⟩ ⟨bn, ba⟩ = c3 (decide (aa < ba)) (decide (ba < aa)) := by
      unfold cfE ltb
      have h2 : ¬ ba = aa := fun e => h1 e.symm
      simp [h1, h2]
    rw [hr]
    generalize c3 (decide (aa < ba)) (decide (ba < aa)) = r at *
    have hb : (aa != ba) = true := by simp [h1]
    clear h1 hr
    go_enter Try.func33, Try.ntmps33
    go_wp2_with (go_at_call 46; refine (hc _).mono ?_; rintro e w' ⟨rfl, rfl⟩)
    go_ret
    exact ⟨rfl, rfl⟩
end Go.Proofs.Ytlljfgpmjpmoiaa
