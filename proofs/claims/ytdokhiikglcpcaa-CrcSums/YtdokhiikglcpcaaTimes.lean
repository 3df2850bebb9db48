/- What crc.timesX, times, shift, Noughts and Join return, whatever they are asked. -/
import Derived.Test.YtdokhiikglcpcaaBase
namespace Go.Proofs.Ytdokhiikglcpcaa
open Go.RowKit Go.IntWalk Crcm
set_option linter.unusedVariables false

set_option maxRecDepth 100000 in
set_option maxHeartbeats 1000000 in
theorem timesX_odd (a c : Int) (w : World) (h : bits .and .u32 a 1 = 1) (h0 : 0 ≤ a) (h1 : a < 4294967296) (hc : bits .xor .u32 (a / 2) 3988292384 = c) :
    Calls Try.prog 18 #[.int .u32 a] w fun e w' => e = .returned (.int .u32 c) ∧ w = w' := by
  go_enter Try.func18, Try.ntmps18
  go_wp2
  go_ret
  exact ⟨rfl, rfl⟩
set_option maxRecDepth 100000 in
set_option maxHeartbeats 1000000 in
theorem timesX_even (a : Int) (w : World) (h : bits .and .u32 a 1 = 0) (h0 : 0 ≤ a) (h1 : a < 4294967296) :
    Calls Try.prog 18 #[.int .u32 a] w fun e w' => e = .returned (.int .u32 (a / 2)) ∧ w = w' := by
  go_enter Try.func18, Try.ntmps18
  go_wp2
  go_ret
  exact ⟨rfl, rfl⟩
theorem U_and1 (x : BitVec 32) : bits .and .u32 (U x) 1 = if x.getLsbD 0 then 1 else 0 := by
  rw [show (1 : Int) = U 1#32 from rfl, U_and]
  have e : U (x &&& 1#32) = U x % 2 := by
    unfold U
    rw [BitVec.toNat_and, show (1#32 : B32).toNat = 2 ^ 1 - 1 from rfl, Nat.and_two_pow_sub_one_eq_mod]
    omega
  rw [e, U_low]
  rfl
theorem U_half (x : BitVec 32) : U x / (2 : Int) = U (x >>> 1) := by have := U_shr x 1; rwa [Int.pow_one] at this
/-- crc.timesX. -/
theorem timesX_any (a : Int) (x : BitVec 32) (ha : a = U x) (w : World) :
    Calls Try.prog 18 #[.int .u32 a] w fun e w' => ∃ d, e = .returned (.int .u32 d) ∧ Hid (d = U (st x)) ∧ w = w' := by
  subst ha
  have h := U_and1 x
  unfold st
  cases hx : x.getLsbD 0
  · rw [hx] at h
    refine (timesX_even (U x) w h (U_lo x) (U_hi x)).mono ?_
    rintro e w' ⟨rfl, rfl⟩
    exact ⟨_, rfl, U_half x, rfl⟩
  · rw [hx] at h
    refine (timesX_odd (U x) _ w h (U_lo x) (U_hi x) rfl).mono ?_
    rintro e w' ⟨rfl, rfl⟩
    refine ⟨_, rfl, ?_, rfl⟩
    show bits .xor .u32 (U x / 2) 3988292384 = _
    rw [U_half, ← U_poly, U_xor]
    rfl
theorem U_bit (x : BitVec 32) (k : Nat) (hk : k < 32) : bits .and .u32 (U x) (2147483648 / 2 ^ k) = if x.getLsbD (31 - k) then 2 ^ (31 - k) else 0 := by
  have e1 : (2147483648 / 2 ^ k : Int) = U (BitVec.twoPow 32 (31 - k)) := by
    have : ∀ j : Fin 32, (2147483648 / 2 ^ j.val : Int) = U (BitVec.twoPow 32 (31 - j.val)) := by decide +kernel
    exact this ⟨k, hk⟩
  rw [e1, U_and, BitVec.and_twoPow]
  split
  · have : ∀ j : Fin 32, U (BitVec.twoPow 32 (31 - j.val)) = 2 ^ (31 - j.val) := by decide +kernel
    exact this ⟨k, hk⟩
  · rfl
set_option maxRecDepth 100000 in
set_option maxHeartbeats 1000000 in
/-- crc.times. -/
theorem times_any (a b : Int) (x y : BitVec 32) (ea : Hid (a = U x)) (eb : Hid (b = U y)) (w : World) :
    Calls Try.prog 16 #[.int .u32 a, .int .u32 b] w fun e w' => ∃ d, e = .returned (.int .u32 d) ∧ Hid (d = U (mul x y)) ∧ w = w' := by
  have h0 : 0 ≤ a := by rw [ea.out]; exact U_lo x
  have h1 : a < 4294967296 := by rw [ea.out]; exact U_hi x
  go_enter Try.func16, Try.ntmps16
  go_wp2
  go_loop [1, 5, 7] (fun b p i => ∃ (k : Nat) (c q : Int), k ≤ 32 ∧ i = .int .i64 k ∧ b = .int .u32 c ∧ Hid (c = U (stn k y)) ∧ p = .int .u32 q ∧ Hid (q = U (mulTo x y k))) (fun _ _ i => 32 - (intOf i).toNat)
  case atStart => exact ⟨0, b, 0, by omega, rfl, rfl, eb, rfl, rfl⟩
  case round =>
    obtain ⟨k, c, q, hk, rfl, rfl, hc, rfl, hq⟩ := hrel
    by_cases hlt : k < 32
    · have hu := U_bit x k hlt
      rw [← ea.out] at hu
      cases hb : x.getLsbD (31 - k)
      · rw [hb] at hu
        have hand : bits .and .u32 a (2147483648 / 2 ^ k) = 0 := hu
        clear hu
        go_wp2_with (go_at_call 18; refine (timesX_any c _ hc.out _).mono ?_; rintro e w1 ⟨d, rfl, hd, rfl⟩)
        go_roundw
        case rel => exact ⟨k + 1, d, q, by omega, by go_num, rfl, hd, rfl, by show q = U (mulTo x y (k + 1)); rw [mulTo, hb, hq.out]; simp⟩
        case measure => simp [intOf]; omega
      · rw [hb] at hu
        have hand : (bits .and .u32 a (2147483648 / 2 ^ k) == 0) = false := by
          rw [hu]
          have : (0 : Int) < 2 ^ (31 - k) := Int.pow_pos (by decide)
          simp; omega
        clear hu
        go_wp2_with (go_at_call 18; refine (timesX_any c _ hc.out _).mono ?_; rintro e w1 ⟨d, rfl, hd, rfl⟩)
        go_roundw
        case rel => exact ⟨k + 1, d, _, by omega, by go_num, rfl, hd, rfl, by show _ = U (mulTo x y (k + 1)); rw [mulTo, hb, hq.out, hc.out, U_xor]; rfl⟩
        case measure => simp [intOf]; omega
    · go_wp2
      go_ret
      obtain rfl : k = 32 := by omega
      exact ⟨_, rfl, hq, rfl⟩
theorem and64_1 (m : Int) (h0 : 0 ≤ m) (h1 : m < 9223372036854775808) : bits .and .i64 m 1 = m % 2 := by
  obtain ⟨a, rfl⟩ := Int.eq_ofNat_of_zero_le h0
  have e1 : BitVec.ofInt 64 (a : Int) = BitVec.ofNat 64 a := BitVec.ofInt_natCast ..
  have e3 : ((BitVec.ofNat 64 a &&& 1#64).toNat : Nat) = a % 2 := by
    rw [BitVec.toNat_and, show (1#64 : BitVec 64).toNat = 2 ^ 1 - 1 from rfl, Nat.and_two_pow_sub_one_eq_mod, BitVec.toNat_ofNat]
    omega
  unfold bits
  show IntKind.wrap .i64 ((BitVec.ofInt 64 (a : Int) &&& 1#64).toNat : Int) = _
  rw [e1, e3, IntKind.wrap_i64]
  omega
set_option maxRecDepth 100000 in
set_option maxHeartbeats 1000000 in
/-- crc.shift. -/
theorem shift_any (n : Int) (hn : n < 9223372036854775808) (w : World) :
    Calls Try.prog 17 #[.int .i64 n] w fun e w' => ∃ d, e = .returned (.int .u32 d) ∧ Hid (d = U (z n.toNat un)) ∧ w = w' := by
  obtain ⟨N, hN⟩ : ∃ N, Hid (n.toNat = N) := ⟨_, rfl⟩
  rw [hN.out]
  go_enter Try.func17, Try.ntmps17
  go_wp2
  go_loop [0, 3, 4] (fun m f p => ∃ (c q m' : Int) (k s : Nat), m = .int .i64 m' ∧ m' < 9223372036854775808 ∧ Hid (k + m'.toNat * s = N) ∧ f = .int .u32 c ∧ Hid (c = U (z k un)) ∧ p = .int .u32 q ∧ Hid (q = U (z s un))) (fun m _ _ => (intOf m).toNat)
  case atStart => exact ⟨_, _, n, 0, 1, rfl, hn, by show 0 + n.toNat * 1 = N; rw [← hN.out]; omega, rfl, rfl, rfl, by rw [pow_one]; rfl⟩
  case round =>
    obtain ⟨c, q, m, k, s, rfl, hm, HK, rfl, hc, rfl, hq⟩ := hrel
    by_cases hlt : 0 < m
    · have ha := and64_1 m (by omega) hm
      have hstep : Hid ((m / 2).toNat * (s + s) = (m.toNat - m.toNat % 2) * s) := by
        show (m / 2).toNat * (s + s) = (m.toNat - m.toNat % 2) * s
        rw [show m.toNat - m.toNat % 2 = (m / 2).toNat * 2 from by omega, Nat.mul_assoc]
        congr 1; omega
      by_cases hp : m % 2 = 0
      · rw [hp] at ha
        go_wp2_with (go_at_call 16; refine (times_any _ _ _ _ hq hq _).mono ?_; rintro e w1 ⟨d, rfl, hd, rfl⟩)
        go_roundw
        case rel =>
          refine ⟨c, d, m / 2, k, s + s, by go_num, by omega, ?_, rfl, hc, rfl, by rw [← pow_mul_pow]; exact hd⟩
          show k + (m / 2).toNat * (s + s) = N
          rw [hstep.out, show m.toNat % 2 = 0 from by omega, Nat.sub_zero]; exact HK.out
        case measure => simp [intOf]; omega
      · have hp1 : m % 2 = 1 := by omega
        rw [hp1] at ha
        clear hp
        go_wp2_with fail
        refine (times_any _ _ _ _ hc hq _).mono ?_
        rintro e w1 ⟨d1, rfl, hd1, rfl⟩
        go_wp2_with fail
        refine (times_any _ _ _ _ hq hq _).mono ?_
        rintro e w1 ⟨d, rfl, hd, rfl⟩
        go_wp2
        go_roundw
        case rel =>
          refine ⟨d1, d, m / 2, k + s, s + s, by go_num, by omega, ?_, rfl, by rw [← pow_mul_pow]; exact hd1, rfl, by rw [← pow_mul_pow]; exact hd⟩
          show k + s + (m / 2).toNat * (s + s) = N
          have h2 := HK.out
          have h3 : m.toNat * s = (m.toNat - m.toNat % 2) * s + s := by
            rw [show m.toNat % 2 = 1 from by omega]
            have : m.toNat = (m.toNat - 1) + 1 := by omega
            conv => lhs; rw [this, Nat.add_mul, Nat.one_mul]
          rw [hstep.out]; omega
        case measure => simp [intOf]; omega
    · go_wp2
      go_ret
      have e : N = k := by have := HK.out; rw [show m.toNat = 0 from by omega] at this; omega
      rw [e]
      exact ⟨_, rfl, hc, rfl⟩

theorem not32 (x : BitVec 32) : x ^^^ ones = ~~~ x := by
  rw [show ones = BitVec.allOnes 32 from rfl, BitVec.xor_allOnes]
set_option maxRecDepth 100000 in
set_option maxHeartbeats 1000000 in
/-- crc.Noughts. -/
theorem noughts_any (a n : Int) (x : BitVec 32) (ha : Hid (a = U x)) (hn : n < 9223372036854775808) (w : World) :
    Calls Try.prog 13 #[.int .u32 a, .int .i64 n] w fun e w' => ∃ d, e = .returned (.int .u32 d) ∧ Hid (d = U (noughts x n.toNat)) ∧ w = w' := by
  have hs : IntKind.u32.signed = false := rfl
  have hm : IntKind.u32.max = 4294967295 := rfl
  have hx : Hid (bits .xor .u32 4294967295 a = U (x ^^^ ones)) := by
    show bits .xor .u32 4294967295 a = U (x ^^^ ones)
    rw [← U_ones, ha.out, U_xor, BitVec.xor_comm]
  go_enter Try.func13, Try.ntmps13
  go_wp2_with fail
  refine (shift_any n hn _).mono ?_
  rintro e w1 ⟨d1, rfl, hd1, rfl⟩
  go_wp2_with fail
  refine (times_any _ _ _ _ hx hd1 _).mono ?_
  rintro e w1 ⟨d, rfl, hd, rfl⟩
  go_wp2
  go_ret
  refine ⟨_, rfl, ?_, rfl⟩
  show bits .xor .u32 4294967295 d = _
  rw [hd.out, ← U_ones, U_xor, mul_pow, BitVec.xor_comm]
  rfl
set_option maxRecDepth 100000 in
set_option maxHeartbeats 1000000 in
/-- crc.Join. -/
theorem join_any (a b n : Int) (x y : BitVec 32) (ha : Hid (a = U x)) (hb : Hid (b = U y)) (hn : n < 9223372036854775808) (w : World) :
    Calls Try.prog 14 #[.int .u32 a, .int .u32 b, .int .i64 n] w fun e w' => ∃ d, e = .returned (.int .u32 d) ∧ Hid (d = U (join x y n.toNat)) ∧ w = w' := by
  go_enter Try.func14, Try.ntmps14
  go_wp2_with fail
  refine (shift_any n hn _).mono ?_
  rintro e w1 ⟨d1, rfl, hd1, rfl⟩
  go_wp2_with fail
  refine (times_any _ _ _ _ ha hd1 _).mono ?_
  rintro e w1 ⟨d, rfl, hd, rfl⟩
  go_wp2
  go_ret
  refine ⟨_, rfl, ?_, rfl⟩
  show bits .xor .u32 d b = _
  rw [hd.out, hb.out, U_xor, mul_pow]
  rfl
end Go.Proofs.Ytdokhiikglcpcaa
