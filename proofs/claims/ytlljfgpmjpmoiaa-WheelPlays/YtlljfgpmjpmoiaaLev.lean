/- belfryref07.Level and Figure. -/
import Derived.Test.YtlljfgpmjpmoiaaRput
namespace Go.Proofs.Ytlljfgpmjpmoiaa
open Go.RowKit Go.IntWalk Go.Maps Go.Shelf
set_option linter.unusedVariables false
/-- The greatest of the first n places at which figures are unlike, looked for from below. -/
def lvk (a b : Nat) : Nat → Int
  | 0 => -1
  | n + 1 => if fg a n ≠ fg b n then (n : Int) else lvk a b n
theorem lvk_lvN {a b : Nat} (hne : a ≠ b) : ∀ n, a / 16 ^ n = b / 16 ^ n → lvk a b n = lvN a b n
  | 0, h => by simp at h; exact absurd h hne
  | n + 1, h => by
    have d1 := div_fg a n
    have d2 := div_fg b n
    rw [h] at d1
    unfold lvk lvN
    by_cases hf : fg a n = fg b n
    · have he : a / 16 ^ n = b / 16 ^ n := by omega
      simp only [hf, he, ne_eq, not_true_eq_false, if_false]
      exact lvk_lvN hne n he
    · have he : a / 16 ^ n ≠ b / 16 ^ n := by omega
      simp [hf, he]
theorem lvk_lv {a b : Nat} (ha : a < 16 ^ 16) (hb : b < 16 ^ 16) (hne : a ≠ b) : lvk a b 16 = lv a b := lvk_lvN hne 16 (by rw [Nat.div_eq_of_lt ha, Nat.div_eq_of_lt hb])
theorem div_next (a i : Nat) : a / 16 ^ i / 16 = a / 16 ^ (i + 1) := by rw [Nat.pow_succ, Nat.div_div_eq_div_mul]
set_option maxRecDepth 100000 in
set_option maxHeartbeats 1000000 in
/-- belfryref07.Level. -/
theorem level_any (a b : Int) (w : World) (ha : 0 ≤ a ∧ a < 18446744073709551616) (hb : 0 ≤ b ∧ b < 18446744073709551616) (hne : a ≠ b) : Calls Try.prog 48 #[.int .u64 a, .int .u64 b] w fun e w' => e = .returned (.int .i64 (lv a.toNat b.toNat)) ∧ w' = w := by
  obtain ⟨r, hr⟩ : ∃ r : Int, Hid (lvk a.toNat b.toNat 16 = r) := ⟨_, ⟨rfl⟩⟩
  have hlv := lvk_lv (a := a.toNat) (b := b.toNat) (by omega) (by omega) (by omega)
  rw [← hlv, hr.out]
  go_enter Try.func48, Try.ntmps48
  go_wp2_with fail
  go_loop [0, 1, 5, 6] (fun x y k i => ∃ (n xn yn : Nat) (kk : Int), n ≤ 16 ∧ x = .int .u64 xn ∧ y = .int .u64 yn ∧ k = .int .i64 kk ∧ i = .int .i64 n ∧ Hid (xn = a.toNat / 16 ^ n) ∧ Hid (yn = b.toNat / 16 ^ n) ∧ Hid (kk = lvk a.toNat b.toNat n) ∧ xn < 18446744073709551616 ∧ yn < 18446744073709551616)
    (fun _ _ _ i => 16 - (intOf i).toNat)
  case atStart => exact ⟨0, a.toNat, b.toNat, -1, by omega, by congr 1; omega, by congr 1; omega, rfl, rfl, ⟨by simp⟩, ⟨by simp⟩, ⟨rfl⟩, by omega, by omega⟩
  case round =>
    obtain ⟨n, xn, yn, kk, hn, rfl, rfl, rfl, rfl, hx, hy, hk, bx, b_y⟩ := hrel
    by_cases h16 : n < 16
    · have hd : decide ((n : Int) < 16) = true := by simp; omega
      have hx2 : Hid (xn / 16 = a.toNat / 16 ^ (n + 1)) := ⟨by rw [hx.out, div_next]⟩
      have hy2 : Hid (yn / 16 = b.toNat / 16 ^ (n + 1)) := ⟨by rw [hy.out, div_next]⟩
      have hfx : Hid (fg a.toNat n = xn % 16) := ⟨by rw [hx.out]; rfl⟩
      have hfy : Hid (fg b.toNat n = yn % 16) := ⟨by rw [hy.out]; rfl⟩
      by_cases hf : xn % 16 = yn % 16
      · have hb1 : ((xn : Int) % 16 != (yn : Int) % 16) = false := by simp; omega
        have hk2 : Hid (kk = lvk a.toNat b.toNat (n + 1)) := ⟨by unfold lvk; rw [hfx.out, hfy.out, if_neg (by simpa using hf)]; exact hk.out⟩
        clear hf
        go_wp2_with fail
        go_round
        case rel => exact ⟨n + 1, xn / 16, yn / 16, kk, by omega, by simp, by simp, rfl, by go_num, hx2, hy2, hk2, by omega, by omega⟩
        case measure => simp [intOf]; omega
      · have hb1 : ((xn : Int) % 16 != (yn : Int) % 16) = true := by simp; omega
        have hk2 : Hid ((n : Int) = lvk a.toNat b.toNat (n + 1)) := ⟨by unfold lvk; rw [hfx.out, hfy.out, if_pos (by simpa using hf)]⟩
        clear hf
        go_wp2_with fail
        go_round
        case rel => exact ⟨n + 1, xn / 16, yn / 16, n, by omega, by simp, by simp, rfl, by go_num, hx2, hy2, hk2, by omega, by omega⟩
        case measure => simp [intOf]; omega
    · have hd : decide ((n : Int) < 16) = false := by simp; omega
      have hne : n = 16 := by omega
      subst hne
      have hkr : Hid (kk = r) := ⟨by rw [hk.out, hr.out]⟩
      go_wp2_with fail
      go_ret
      exact ⟨by rw [← hkr.out]; rfl, rfl⟩
set_option maxRecDepth 100000 in
set_option maxHeartbeats 1000000 in
/-- belfryref07.Figure. -/
theorem rfigure_any (a : Int) (k : Nat) (w : World) (ha : 0 ≤ a ∧ a < 18446744073709551616) (hk : k < 16) : Calls Try.prog 49 #[.int .u64 a, .int .i64 k] w fun e w' => e = .returned (.int .i64 (fg a.toNat k)) ∧ w' = w := by
  obtain ⟨r, hr⟩ : ∃ r : Nat, Hid (fg a.toNat k = r) := ⟨_, ⟨rfl⟩⟩
  rw [hr.out]
  go_enter Try.func49, Try.ntmps49
  go_wp2_with fail
  go_loop [0, 5] (fun x i => ∃ (n xn : Nat), n ≤ k ∧ x = .int .u64 xn ∧ i = .int .i64 n ∧ Hid (xn = a.toNat / 16 ^ n) ∧ xn < 18446744073709551616)
    (fun _ i => k - (intOf i).toNat)
  case atStart => exact ⟨0, a.toNat, by omega, by congr 1; omega, rfl, ⟨by simp⟩, by omega⟩
  case round =>
    obtain ⟨n, xn, hn, rfl, rfl, hx, bx⟩ := hrel
    by_cases hnk : n < k
    · have hd : decide ((n : Int) < k) = true := by simp; omega
      have hx2 : Hid (xn / 16 = a.toNat / 16 ^ (n + 1)) := ⟨by rw [hx.out, div_next]⟩
      go_wp2_with fail
      go_round
      case rel => exact ⟨n + 1, xn / 16, by omega, by simp, by go_num, hx2, by omega⟩
      case measure => simp [intOf]; omega
    · have hd : decide ((n : Int) < k) = false := by simp; omega
      have hne : n = k := by omega
      have hxr : Hid (xn % 16 = r) := ⟨by rw [hx.out, hne, ← hr.out]; rfl⟩
      replace hne : Hid _ := ⟨hne⟩
      go_wp2_with fail
      go_ret
      exact ⟨by rw [← hxr.out]; simp, rfl⟩
end Go.Proofs.Ytlljfgpmjpmoiaa
