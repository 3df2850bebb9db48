/- Numbers of 32 bits; what crc.timesX and crc.halves return. -/
import Derived.Test.YtgblekdllcngnaaBase
import Derived.Test.YtgblekdllcngnaaCrcm
namespace Go.Proofs.Ytgblekdllcngnaa
open Go.RowKit Go.IntWalk Crcm
set_option linter.unusedVariables false

/-- A number of 32 bits. -/
def U (x : BitVec 32) : Int := x.toNat
theorem U_lo (x : BitVec 32) : 0 ≤ U x := by unfold U; omega
theorem U_hi (x : BitVec 32) : U x < 4294967296 := by have := x.isLt; unfold U; omega
theorem U_inj {x y : BitVec 32} (h : U x = U y) : x = y := BitVec.eq_of_toNat_eq (by unfold U at h; omega)
theorem U_of {n : Int} (h0 : 0 ≤ n) (h1 : n < 4294967296) : ∃ x, n = U x := by
  refine ⟨BitVec.ofNat 32 n.toNat, ?_⟩
  unfold U; rw [BitVec.toNat_ofNat]; omega
theorem U_eq (x y : BitVec 32) : (U x == U y) = decide (x = y) := by
  rw [Bool.eq_iff_iff]; simp only [beq_iff_eq, decide_eq_true_eq]
  exact ⟨U_inj, fun h => by rw [h]⟩
theorem U_wrap (x : BitVec 32) : IntKind.u32.wrap (U x) = U x := by
  have := U_lo x; have := U_hi x; rw [IntKind.wrap_u32]; omega
theorem ofInt_U (x : BitVec 32) : BitVec.ofInt 32 (U x) = x := by unfold U; rw [BitVec.ofInt_natCast, BitVec.ofNat_toNat, BitVec.setWidth_eq]
theorem U_xor (x y : BitVec 32) : bits .xor .u32 (U x) (U y) = U (x ^^^ y) := by
  unfold bits
  show IntKind.wrap .u32 ((BitVec.ofInt 32 (U x) ^^^ BitVec.ofInt 32 (U y)).toNat : Int) = _
  rw [ofInt_U, ofInt_U]; exact U_wrap _
theorem U_and (x y : BitVec 32) : bits .and .u32 (U x) (U y) = U (x &&& y) := by
  unfold bits
  show IntKind.wrap .u32 ((BitVec.ofInt 32 (U x) &&& BitVec.ofInt 32 (U y)).toNat : Int) = _
  rw [ofInt_U, ofInt_U]; exact U_wrap _
theorem U_shr (x : BitVec 32) (k : Nat) : U x / 2 ^ k = U (x >>> k) := by
  unfold U; rw [BitVec.toNat_ushiftRight, Nat.shiftRight_eq_div_pow]; norm_cast
theorem U_ones : U ones = 4294967295 := rfl
theorem U_poly : U poly = 3988292384 := rfl
theorem U_un : U un = 2147483648 := rfl
theorem U_low (x : BitVec 32) : U x % 2 = if x.getLsbD 0 then 1 else 0 := by
  have h : x.getLsbD 0 = x.toNat.testBit 0 := rfl
  unfold U
  rw [h, Nat.testBit_zero]
  by_cases e : x.toNat % 2 = 1 <;> simp [e] <;> omega
set_option maxRecDepth 100000 in
set_option maxHeartbeats 1000000 in
theorem timesX_odd (a c : Int) (w : World) (h : bits .and .u32 a 1 = 1) (h0 : 0 ≤ a) (h1 : a < 4294967296) (hc : bits .xor .u32 (a / 2) 3988292384 = c) :
    Calls Try.prog 89 #[.int .u32 a] w fun e w' => e = .returned (.int .u32 c) ∧ w = w' := by
  go_enter Try.func89, Try.ntmps89
  go_wp2
  go_ret
  exact ⟨rfl, rfl⟩
set_option maxRecDepth 100000 in
set_option maxHeartbeats 1000000 in
theorem timesX_even (a : Int) (w : World) (h : bits .and .u32 a 1 = 0) (h0 : 0 ≤ a) (h1 : a < 4294967296) :
    Calls Try.prog 89 #[.int .u32 a] w fun e w' => e = .returned (.int .u32 (a / 2)) ∧ w = w' := by
  go_enter Try.func89, Try.ntmps89
  go_wp2
  go_ret
  exact ⟨rfl, rfl⟩
theorem U_and1 (x : BitVec 32) : bits .and .u32 (U x) 1 = if x.getLsbD 0 then 1 else 0 := by
  rw [show (1 : Int) = U 1#32 from rfl, U_and]
  have e : U (x &&& 1#32) = U x % 2 := by
    unfold U
    rw [BitVec.toNat_and, show (1#32 : B32).toNat = 2 ^ 1 - 1 from rfl, Nat.and_two_pow_sub_one_eq_mod]
    omega
  rw [e, U_low]
  rfl
theorem U_half (x : BitVec 32) : U x / (2 : Int) = U (x >>> 1) := by have := U_shr x 1; rwa [Int.pow_one] at this
/-- crc.timesX. -/
theorem timesX_any (a : Int) (x : BitVec 32) (ha : a = U x) (w : World) :
    Calls Try.prog 89 #[.int .u32 a] w fun e w' => ∃ d, e = .returned (.int .u32 d) ∧ Hid (d = U (st x)) ∧ w = w' := by
  subst ha
  have h := U_and1 x
  unfold st
  cases hx : x.getLsbD 0
  · rw [hx] at h
    refine (timesX_even (U x) w h (U_lo x) (U_hi x)).mono ?_
    rintro e w' ⟨rfl, rfl⟩
    exact ⟨_, rfl, U_half x, rfl⟩
  · rw [hx] at h
    refine (timesX_odd (U x) _ w h (U_lo x) (U_hi x) rfl).mono ?_
    rintro e w' ⟨rfl, rfl⟩
    refine ⟨_, rfl, ?_, rfl⟩
    show bits .xor .u32 (U x / 2) 3988292384 = _
    rw [U_half, ← U_poly, U_xor]
    rfl
/-- The table, of which k are made. -/
def tabI (k j : Nat) : Int := if j < k then U (tab4 j) else 0
def rowT (k : Nat) : Array Value := #[.int .u32 (tabI k 0), .int .u32 (tabI k 1), .int .u32 (tabI k 2), .int .u32 (tabI k 3), .int .u32 (tabI k 4), .int .u32 (tabI k 5), .int .u32 (tabI k 6), .int .u32 (tabI k 7), .int .u32 (tabI k 8), .int .u32 (tabI k 9), .int .u32 (tabI k 10), .int .u32 (tabI k 11), .int .u32 (tabI k 12), .int .u32 (tabI k 13), .int .u32 (tabI k 14), .int .u32 (tabI k 15)]
theorem rowT_zero : rowT 0 = #[.int .u32 0, .int .u32 0, .int .u32 0, .int .u32 0, .int .u32 0, .int .u32 0, .int .u32 0, .int .u32 0, .int .u32 0, .int .u32 0, .int .u32 0, .int .u32 0, .int .u32 0, .int .u32 0, .int .u32 0, .int .u32 0] := rfl
theorem rowT_get (k j : Nat) (h : j < 16) : (rowT k)[j]? = some (.int .u32 (tabI k j)) := by
  have : ∀ j : Fin 16, (rowT k)[j.val]? = some (.int .u32 (tabI k j.val)) := by
    intro ⟨j, hj⟩
    rcases (show j = 0 ∨ j = 1 ∨ j = 2 ∨ j = 3 ∨ j = 4 ∨ j = 5 ∨ j = 6 ∨ j = 7 ∨ j = 8 ∨ j = 9 ∨ j = 10 ∨ j = 11 ∨ j = 12 ∨ j = 13 ∨ j = 14 ∨ j = 15 from by omega) with h | h | h | h | h | h | h | h | h | h | h | h | h | h | h | h <;> subst h <;> rfl
  exact this ⟨j, h⟩
theorem rowT_size (k : Nat) : (rowT k).size = 16 := rfl
theorem rowT_set (k : Nat) (h : k < 16) : (rowT k).setIfInBounds k (.int .u32 (U (tab4 k))) = rowT (k + 1) := by
  apply Array.ext
  · simp [rowT_size]
  · intro i h1 h2
    rw [rowT_size] at h2
    apply Option.some.inj
    rw [← Array.getElem?_eq_getElem, ← Array.getElem?_eq_getElem, Array.getElem?_setIfInBounds, rowT_get _ _ h2, rowT_get _ _ h2, rowT_size]
    by_cases e : k = i
    · subst e
      simp [h, tabI]
    · rw [if_neg e]
      unfold tabI
      congr 2
      by_cases e2 : i < k
      · rw [if_pos e2, if_pos (by omega)]
      · rw [if_neg e2, if_neg (by omega)]

set_option maxRecDepth 100000 in
set_option maxHeartbeats 1000000 in
theorem halves_any (w : World) :
    Calls Try.prog 81 #[] w fun e w' => e = .returned (.agg (rowT 16)) ∧ Below w.heap.size w w' := by
  go_enter Try.func81, Try.ntmps81
  go_wp2
  go_loopw [4] (fun i wr => ∃ k : Nat, k ≤ 16 ∧ i = .int .i64 k ∧ wr = (w.alloc (.cells #[.int .u32 0, .int .u32 0, .int .u32 0, .int .u32 0, .int .u32 0, .int .u32 0, .int .u32 0, .int .u32 0, .int .u32 0, .int .u32 0, .int .u32 0, .int .u32 0, .int .u32 0, .int .u32 0, .int .u32 0, .int .u32 0] 121)).alloc (.cells (rowT k) 121)) (fun i _ => 16 - (intOf i).toNat)
  case atStart => exact ⟨0, by omega, rfl, rfl⟩
  case round =>
    obtain ⟨k, hk, rfl, rfl⟩ := hrel
    by_cases hlt : k < 16
    · have hcell : ((w.alloc (.cells #[.int .u32 0, .int .u32 0, .int .u32 0, .int .u32 0, .int .u32 0, .int .u32 0, .int .u32 0, .int .u32 0, .int .u32 0, .int .u32 0, .int .u32 0, .int .u32 0, .int .u32 0, .int .u32 0, .int .u32 0, .int .u32 0] 121)).alloc (.cells (rowT k) 121)).cell? ⟨w.heap.size + 1, k, none⟩ = some (.int .u32 (tabI k k)) := by
        have hh := heap_alloc_new (w.alloc (.cells #[.int .u32 0, .int .u32 0, .int .u32 0, .int .u32 0, .int .u32 0, .int .u32 0, .int .u32 0, .int .u32 0, .int .u32 0, .int .u32 0, .int .u32 0, .int .u32 0, .int .u32 0, .int .u32 0, .int .u32 0, .int .u32 0] 121)) (.cells (rowT k) 121)
        rw [World.size_alloc] at hh
        simp only [World.cell?, hh]
        exact rowT_get k k hlt
      have hset : ∀ d : Int, Hid (d = U (stn 4 (BitVec.ofNat 32 k))) → (rowT k).setIfInBounds k (.int .u32 d) = rowT (k + 1) := fun d hd => by rw [hd.out]; exact rowT_set k hlt
      generalize rowT k = R at hcell hset ⊢
      have hk16 : decide ((k : Int) < 16) = true := by simp; omega
      go_wp2
      go_loop [3, 9] (fun c i => ∃ (j : Nat) (c' : Int), j ≤ 4 ∧ i = .int .i64 j ∧ c = .int .u32 c' ∧ Hid (c' = U (stn j (BitVec.ofNat 32 k)))) (fun _ i => 4 - (intOf i).toNat)
      case atStart => exact ⟨0, k, by omega, rfl, rfl, by show (k : Int) = U (BitVec.ofNat 32 k); unfold U; rw [BitVec.toNat_ofNat]; omega⟩
      case round =>
        obtain ⟨j, c, hj, rfl, rfl, hc⟩ := hrel
        by_cases hlj : j < 4
        · go_wp2_with (go_at_call 89; refine (timesX_any c _ hc.out _).mono ?_; rintro e w1 ⟨d, rfl, hd, rfl⟩)
          go_round
          case rel => exact ⟨j + 1, d, by omega, by go_num, rfl, hd⟩
          case measure => simp [intOf]; omega
        · have hj4 : decide ((j : Int) < 4) = false := by simp; omega
          have hc4 : Hid (c = U (stn 4 (BitVec.ofNat 32 k))) := by rw [show j = 4 from by omega] at hc; exact hc
          clear hc hlj hj
          go_wp2
          exact ⟨⟨k + 1, by omega, by go_num, rfl⟩, by simp [intOf]; omega⟩
    · obtain ⟨K, hK⟩ : ∃ K : Int, K = k := ⟨_, rfl⟩
      have hK16 : decide (K < 16) = false := by simp; omega
      have hrow : rowT k = #[.int .u32 (tabI k 0), .int .u32 (tabI k 1), .int .u32 (tabI k 2), .int .u32 (tabI k 3), .int .u32 (tabI k 4), .int .u32 (tabI k 5), .int .u32 (tabI k 6), .int .u32 (tabI k 7), .int .u32 (tabI k 8), .int .u32 (tabI k 9), .int .u32 (tabI k 10), .int .u32 (tabI k 11), .int .u32 (tabI k 12), .int .u32 (tabI k 13), .int .u32 (tabI k 14), .int .u32 (tabI k 15)] := rfl
      have hT : Hid (rowT k = rowT 16) := by show rowT k = rowT 16; rw [show k = 16 from by omega]
      generalize tabI k 0 = t0 at hrow
      generalize tabI k 1 = t1 at hrow
      generalize tabI k 2 = t2 at hrow
      generalize tabI k 3 = t3 at hrow
      generalize tabI k 4 = t4 at hrow
      generalize tabI k 5 = t5 at hrow
      generalize tabI k 6 = t6 at hrow
      generalize tabI k 7 = t7 at hrow
      generalize tabI k 8 = t8 at hrow
      generalize tabI k 9 = t9 at hrow
      generalize tabI k 10 = t10 at hrow
      generalize tabI k 11 = t11 at hrow
      generalize tabI k 12 = t12 at hrow
      generalize tabI k 13 = t13 at hrow
      generalize tabI k 14 = t14 at hrow
      generalize tabI k 15 = t15 at hrow
      rw [hrow] at hT
      rw [hrow, ← hK]
      clear hrow hK hlt hk
      go_wp2
      refine bodyPost_ret (v := .agg #[.int .u32 t0, .int .u32 t1, .int .u32 t2, .int .u32 t3, .int .u32 t4, .int .u32 t5, .int .u32 t6, .int .u32 t7, .int .u32 t8, .int .u32 t9, .int .u32 t10, .int .u32 t11, .int .u32 t12, .int .u32 t13, .int .u32 t14, .int .u32 t15]) (by simp [results, go_sem]) rfl ⟨by rw [hT.out], ?_⟩
      exact ((Below.refl _ _).alloc (Nat.le_refl _) _).alloc (by simp) _
end Go.Proofs.Ytgblekdllcngnaa
