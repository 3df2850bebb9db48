/- reverseRange, xorshift.Next, nextPowerOfTwo, breakPatterns. -/
import Derived.Test.YtpcdmjalfabbmaaPiv
import Derived.Test.YtpcdmjalfabbmaaSrt
import Derived.Lib.ItoaNum
namespace Go.Proofs.Ytpcdmjalfabbmaa
open Go.RowKit Go.Shelf Go.IntWalk Go.Maps
set_option linter.unusedVariables false
theorem Br.swap {w : World} {base g len cap : Nat} {es : List UInt8} (h : Br w base (.slice (some ⟨g, 0, none⟩) len cap) es) {i j : Nat} {x y : UInt8} (hi : es[i]? = some x) (hj : es[j]? = some y) :
    Br (((w.setCell ⟨g, i, none⟩ (u8 y)).setCell ⟨g, j, none⟩ (u8 x)).drew) base (.slice (some ⟨g, 0, none⟩) len cap) (sw es i j x y) ∧ w.grownBy (((w.setCell ⟨g, i, none⟩ (u8 y)).setCell ⟨g, j, none⟩ (u8 x)).drew) (some g) := by
  have h1 := (List.getElem?_eq_some_iff.1 hi).1
  have h2 := (List.getElem?_eq_some_iff.1 hj).1
  exact ⟨(Br.set (Br.set h i y h1) j x (by simpa using h2)).keep0 (grown_drew _), ((grown_setCell _ ⟨g, i, none⟩ _).trans (grown_setCell _ ⟨g, j, none⟩ _)).trans ((grown_drew _).but _)⟩
set_option maxRecDepth 100000 in
set_option maxHeartbeats 4000000 in
theorem reverse_any (w : World) {base : Nat} {v : Value} {es : List UInt8} (h : Br w base v es) (hl : es.length ≤ 256) (a b : Nat) (hab : a ≤ b) (hb : b ≤ es.length) :
    Calls Try.prog 60 #[v, .int .i64 a, .int .i64 b] w fun r w' => r = .returned (.tuple #[]) ∧ ∃ es', Br w' base v es' ∧ Pm a b es es' ∧ w.grownBy w' v.ownBlock := by
  obtain ⟨ad, cap, rfl⟩ := h.shape
  go_enter Try.func60, Try.ntmps60
  go_wp2_with fail
  go_loopw [6, 7] (fun u v wr => ∃ (i : Nat) (j : Int) (fs : List UInt8), u = .int .i64 i ∧ v = .int .i64 j ∧ a ≤ i ∧ i ≤ 600 ∧ -600 ≤ j ∧ j < b ∧ Hid (Br wr base (.slice ad es.length cap) fs ∧ Pm a b es fs ∧ w.grownBy wr (Value.slice ad es.length cap).ownBlock))
    (fun u v _ => (intOf v - intOf u).toNat)
  case atStart => exact ⟨a, (b : Int) - 1, es, by simp, by simp, by omega, by omega, by omega, by omega, ⟨h, Pm.refl _ _ _, (grown_refl w).but _⟩⟩
  case round =>
    obtain ⟨i, j, fs, rfl, rfl, hai, hi6, hj6, hjb, ⟨hB, hP, hG⟩⟩ := hrel
    have hfl := hP.len
    by_cases hlt : (i : Int) < j
    · obtain ⟨m, rfl⟩ : ∃ m : Nat, j = m := ⟨j.toNat, by omega⟩
      have him : i < m := by omega
      have hml : m < es.length := by omega
      obtain ⟨x, hx⟩ := some8 (es := fs) (k := i) (by omega)
      obtain ⟨y, hy⟩ := some8 (es := fs) (k := m) (by omega)
      obtain ⟨g, rfl, hgl1, -, k1, f1⟩ := hB.at hx
      obtain ⟨_, e1, -, -, k2, -⟩ := hB.at hy
      cases e1
      obtain ⟨s1, s2⟩ := hB.swap hx hy
      have s3 := hP.trans (sw_pm hx hy hai (by omega) (by omega) (by omega))
      have hd : decide (i < m) = true := by simp; omega
      have hm6 : m ≤ 256 := by omega
      have hil : i < es.length := by omega
      replace hB : Hid _ := ⟨hB⟩
      replace hP : Hid _ := ⟨hP⟩
      replace hG : Hid _ := ⟨hG⟩
      replace s1 : Hid _ := ⟨s1⟩
      replace s2 : Hid _ := ⟨s2⟩
      replace s3 : Hid _ := ⟨s3⟩
      clear hx hy hfl
      go_wp2_with fail
      go_region
      go_wp2_with fail
      exact ⟨⟨i + 1, (m : Int) - 1, _, by go_num, by go_num, by omega, by omega, by omega, by omega, ⟨s1.out, s3.out, hG.out.trans s2.out⟩⟩, by simp [intOf]; omega⟩
    · have hd : decide ((i : Int) < j) = false := by simpa using hlt
      replace hB : Hid _ := ⟨hB⟩
      replace hP : Hid _ := ⟨hP⟩
      replace hG : Hid _ := ⟨hG⟩
      go_wp2_with fail
      go_end0
      exact ⟨rfl, fs, hB.out, hP.out, hG.out⟩
set_option maxRecDepth 100000 in
set_option maxHeartbeats 4000000 in
theorem next_any (w : World) (s : Nat) (X : Int) (hs : Boxed w s 109 (.int .u64 X)) :
    Calls Try.prog 69 #[ptr s] w fun r w' => ∃ Y : Int, r = .returned (.int .u64 Y) ∧ Boxed w' s 109 (.int .u64 Y) ∧ w.grownBy w' (some s) := by
  have c1 := hs.cell
  have f1 := hs.frozen
  go_enter Try.func69, Try.ntmps69
  go_wp2_with fail
  go_region
  generalize hX1 : bits BinOp.xor IntKind.u64 X _ = X1
  have s1 : Boxed (World.drew (World.setCell w ⟨s, 0, none⟩ (.int .u64 X1))) s 109 (.int .u64 X1) := (hs.set (.int .u64 X1)).kept (grown_drew _) (by simp)
  have g1 : w.grownBy (World.drew (World.setCell w ⟨s, 0, none⟩ (.int .u64 X1))) (some s) := ((grown_refl w).but _).trans ((grown_setCell _ ⟨s, 0, none⟩ _).trans ((grown_drew _).but _))
  generalize (World.drew (World.setCell w ⟨s, 0, none⟩ (.int .u64 X1))) = v1 at *
  have c2 := s1.cell
  have f2 := s1.frozen
  clear hX1 c1 f1
  go_wp2_with fail
  go_region
  generalize hX2 : bits BinOp.xor IntKind.u64 X1 _ = X2
  have s2 : Boxed (World.drew (World.setCell v1 ⟨s, 0, none⟩ (.int .u64 X2))) s 109 (.int .u64 X2) := (s1.set (.int .u64 X2)).kept (grown_drew _) (by simp)
  have g2 : w.grownBy (World.drew (World.setCell v1 ⟨s, 0, none⟩ (.int .u64 X2))) (some s) := g1.trans ((grown_setCell _ ⟨s, 0, none⟩ _).trans ((grown_drew _).but _))
  generalize (World.drew (World.setCell v1 ⟨s, 0, none⟩ (.int .u64 X2))) = v2 at *
  have c3 := s2.cell
  have f3 := s2.frozen
  clear hX2 c2 f2
  go_wp2_with fail
  go_region
  generalize hX3 : bits BinOp.xor IntKind.u64 X2 _ = X3
  have s3 : Boxed (World.drew (World.setCell v2 ⟨s, 0, none⟩ (.int .u64 X3))) s 109 (.int .u64 X3) := (s2.set (.int .u64 X3)).kept (grown_drew _) (by simp)
  have g3 : w.grownBy (World.drew (World.setCell v2 ⟨s, 0, none⟩ (.int .u64 X3))) (some s) := g2.trans ((grown_setCell _ ⟨s, 0, none⟩ _).trans ((grown_drew _).but _))
  generalize (World.drew (World.setCell v2 ⟨s, 0, none⟩ (.int .u64 X3))) = v3 at *
  have c4 := s3.cell
  have f4 := s3.frozen
  clear hX3 c3 f3
  go_wp2
  go_ret
  exact ⟨X3, rfl, s3, g3⟩
theorem and_le (X : Int) (m : Nat) (h1 : 1 ≤ m) (h2 : m ≤ 512) : ∃ k : Nat, bits .and .u64 X ((m : Int) - 1) = k ∧ k ≤ m - 1 := by
  obtain ⟨j, rfl⟩ : ∃ j, m = j + 1 := ⟨m - 1, by omega⟩
  have e : (((j + 1 : Nat) : Int) - 1) = (j : Nat) := by omega
  rw [e]
  refine ⟨(BitVec.ofInt 64 X &&& BitVec.ofNat 64 j).toNat, ?_, ?_⟩
  · have h3 : (BitVec.ofInt 64 X &&& BitVec.ofNat 64 j).toNat ≤ j := by
      rw [BitVec.toNat_and, BitVec.toNat_ofNat, Nat.mod_eq_of_lt (by omega)]
      exact Nat.and_le_right
    unfold bits
    show IntKind.wrap .u64 ((BitVec.ofInt 64 X &&& BitVec.ofInt 64 (j : Int)).toNat : Int) = _
    rw [BitVec.ofInt_natCast]
    simp [IntKind.wrap, IntKind.bits, IntKind.signed]
    simp at h3
    omega
  · rw [BitVec.toNat_and, BitVec.toNat_ofNat, Nat.mod_eq_of_lt (by omega)]
    exact Nat.and_le_right
set_option maxRecDepth 100000 in
set_option maxHeartbeats 4000000 in
theorem nextpow_any (w : World) (n : Nat) (h1 : 1 ≤ n) (h2 : n ≤ 256) :
    Calls Try.prog 68 #[.int .i64 n] w fun r w' => ∃ m : Nat, r = .returned (.int .u64 m) ∧ 1 ≤ m ∧ m ≤ 2 * n ∧ w' = w := by
  have hd := bits_any (n : Int) w (by omega) (by omega)
  rw [Int.toNat_natCast] at hd
  obtain ⟨k1, k2, k3⟩ := Lib.bitLenAux_bounds 64 n (by omega) (by omega)
  have k4 := Lib.bitLen_le n 9 (by omega) (by omega)
  change 1 ≤ Lib.bitLen n at k1
  change 2 ^ (Lib.bitLen n - 1) ≤ n at k2
  generalize Lib.bitLen n = q at *
  have hwr : IntKind.u64.wrap (n : Int) = n := by simp [IntKind.wrap, IntKind.bits, IntKind.signed]; omega
  have hq : q = 1 ∨ q = 2 ∨ q = 3 ∨ q = 4 ∨ q = 5 ∨ q = 6 ∨ q = 7 ∨ q = 8 ∨ q = 9 := by omega
  have hb : Hid (2 ^ q ≤ 2 * n) := ⟨by
    have : 2 ^ q = 2 * 2 ^ (q - 1) := by rw [← Nat.pow_succ', Nat.succ_eq_add_one, Nat.sub_add_cancel k1]
    omega⟩
  clear k3 k2
  rcases hq with rfl | rfl | rfl | rfl | rfl | rfl | rfl | rfl | rfl
  all_goals
    go_enter Try.func68, Try.ntmps68
    go_wp2_with (go_at_call 55; refine hd.mono ?_; rintro e w' ⟨rfl, rfl⟩)
    go_ret
    refine ⟨_, rfl, ?_, ?_, rfl⟩
    · decide
    · exact hb.out
end Go.Proofs.Ytpcdmjalfabbmaa
