/- What the document's answer for numbers (belfryref01.Number, Bytes) returns, for every number and every slice of bytes. -/
import Derived.Test.YtbkiafedadofdaaOrdw
namespace Go.Proofs.Ytbkiafedadofdaa
open Go.RowKit Go.Shelf Plain Go.IntWalk
set_option linter.unusedVariables false

theorem lit_one (W : World) (base : Nat) (d : Int) (hb : base ≤ W.heap.size) : (W.alloc (.cells #[.int .u8 d] 5)).ownsRow base 5 1 (.slice (some ⟨W.heap.size, 0, none⟩) 1 1) 1 (([d] : List Int).map (Value.int .u8)) :=
  World.ownsRow_lit W #[.int .u8 d] 1 hb (by unfold maxLen; omega) rfl

theorem div_step (N j : Nat) : N / 256 ^ (j + 1) = N / 256 ^ j / 256 := by rw [Nat.pow_succ, Nat.div_div_eq_div_mul]

set_option maxRecDepth 100000 in
set_option maxHeartbeats 1000000 in
theorem refbytes_any (n : Int) (w : World) (h0 : 0 ≤ n) (hn : n < 18446744073709551616) :
    Calls Try.prog 20 #[.int .u64 n] w fun e w' => ∃ v, e = .returned v ∧ w'.ownsRow w.heap.size 5 1 v (nb n.toNat) ((enc n.toNat).map (Value.int .u8)) ∧ Below w.heap.size w w' := by
  have HN : Hid (n < 18446744073709551616) := hn
  clear hn
  obtain ⟨N, eN⟩ : ∃ N, N = n.toNat := ⟨_, rfl⟩
  have EN : Hid (n = (N : Int)) := by show n = (N : Int); omega
  rw [← eN]
  clear eN
  go_enter Try.func20, Try.ntmps20
  go_wp2
  go_loopw [0, 3] (fun n v wr => ∃ (j : Nat) (r : Int), n = .int .u64 r ∧ 0 ≤ r ∧ Hid (r = ((N / 256 ^ j : Nat) : Int)) ∧ Hid (j ≠ 0 → 256 ^ (j - 1) ≤ N) ∧ wr.ownsRow w.heap.size 5 1 v j ((be j N).map (Value.int .u8)) ∧ Below w.heap.size w wr) (fun n _ _ => (intOf n).toNat)
  case atStart => exact ⟨0, n, rfl, h0, by show n = ((N / 256 ^ 0 : Nat) : Int); rw [EN.out]; simp, fun h => absurd rfl h, World.ownsRow_nil _ _ _ _, Below.refl _ _⟩
  case round =>
    obtain ⟨j, r, rfl, hr0, Hr, Hj, hrow, hB⟩ := hrel
    by_cases hlt : (0 : Int) < r
    · have hb := (Bts.of_own hrow (be_byte _ _)).below ((Below.refl wr.heap.size wr).alloc (Nat.le_refl _) (.cells #[.int .u8 (r % 256)] 5))
      have hs := hB.size
      have HJ : Hid (256 ^ j ≤ N) := by
        have := Hr.out
        rcases Nat.lt_or_ge N (256 ^ j) with h | h
        · rw [Nat.div_eq_of_lt h] at this; omega
        · exact h
      have hj8 : j < nb N := by
        rcases Nat.lt_or_ge j (nb N) with h | h
        · exact h
        · have h1 : 256 ^ nb N ≤ 256 ^ j := Nat.pow_le_pow_right (by omega) h
          have := lt_nb N
          have := HJ.out
          omega
      have hN8 : nb N ≤ 8 := nb_8 (by have := HN.out; have := EN.out; omega)
      go_wp2_with (at_builtin; go_must (refine wpList_append_bts _ rfl (.tmp 9) (.tmp 10) rfl w.heap.size wr.heap.size _ _ _ [r % 256] _ rfl rfl (lit_one wr _ _ hs) hb (by rw [be_length]; omega) (by simp; omega) ?_); intro v4 w4 hr4 hg4)
      have hw : IntKind.u64.wrap (r.tdiv 256) = r / 256 := by
        have h1 : N / 256 ^ j ≤ N := Nat.div_le_self _ _
        have h2 := Hr.out
        have h3 := HN.out
        have h4 := EN.out
        rw [IntKind.wrap_u64, Int.tdiv_eq_ediv_of_nonneg hr0]
        omega
      rw [hw]
      go_roundw
      case rel =>
        refine ⟨j + 1, r / 256, by go_num, by omega, ?_, fun _ => HJ.out, ?_, ?_⟩
        · show r / 256 = ((N / 256 ^ (j + 1) : Nat) : Int)
          rw [div_step, Hr.out]; omega
        · have e : be (j + 1) N = [r % 256] ++ be j N := by rw [be_cons, Hr.out]; simp
          rw [e]
          rw [be_length, Nat.add_comm] at hr4
          exact hr4
        · exact (hB.alloc hs _).grown hg4 (by simp; omega) (fun k e => by cases e; omega)
      case measure => simp [intOf]; omega
    · go_wp2
      go_ret
      have hr1 : r = 0 := by omega
      have h1 : N < 256 ^ j := by
        have := Hr.out
        rcases Nat.lt_or_ge N (256 ^ j) with h | h
        · exact h
        · have := Nat.div_pos h (Nat.pow_pos (by omega)); omega
      have e : j = nb N := nb_unique h1 (fun hp => by
        rcases Nat.eq_zero_or_pos j with h | h
        · subst h; simp at h1; omega
        · exact Hj.out (by omega)) (fun hz => by
        rcases Nat.eq_zero_or_pos j with h | h
        · exact h
        · have := Hj.out (by omega)
          have h2 : 0 < 256 ^ (j - 1) := Nat.pow_pos (by omega)
          omega)
      subst e
      exact ⟨_, rfl, hrow, hB⟩

set_option maxRecDepth 100000 in
set_option maxHeartbeats 1000000 in
theorem refnumber_empty (a : Option Addr) (cap : Nat) (w : World) :
    Calls Try.prog 18 #[.slice a 0 cap] w fun e w' => e = .returned (.tuple #[.int .u64 0, .bool true]) ∧ w = w' := by
  go_enter Try.func18, Try.ntmps18
  go_wp2
  refine wp_loop_rounds 1 ?_
  rw [rounds_succ]
  go_wp2
  go_ret2
  exact ⟨rfl, rfl⟩
set_option maxRecDepth 100000 in
set_option maxHeartbeats 1000000 in
theorem refnumber_long (a : Option Addr) (len cap : Nat) (h : 8 < len) (hm : len ≤ 9223372036854775807) (w : World) :
    Calls Try.prog 18 #[.slice a len cap] w fun e w' => e = .returned (.tuple #[.int .u64 0, .bool false]) ∧ w = w' := by
  have h' : (8 : Int) < (len : Int) := by omega
  go_enter Try.func18, Try.ntmps18
  go_wp2
  go_ret2
  exact ⟨rfl, rfl⟩
set_option maxRecDepth 100000 in
set_option maxHeartbeats 1000000 in
theorem refnumber_zero (b off len cap : Nat) (h : 0 < len) (h8 : len ≤ 8) (w : World) (hc : w.cell? ⟨b, off, none⟩ = some (.int .u8 0)) :
    Calls Try.prog 18 #[.slice (some ⟨b, off, none⟩) len cap] w fun e w' => e = .returned (.tuple #[.int .u64 0, .bool false]) ∧ w = w' := by
  have h' : (0 : Int) < (len : Int) := by omega
  go_enter Try.func18, Try.ntmps18
  go_wp2
  go_ret2
  exact ⟨rfl, rfl⟩
set_option maxRecDepth 100000 in
set_option maxHeartbeats 1000000 in
theorem refnumber_core (b off len cap : Nat) (g : Nat → Int) (z0 : Int) (h : 0 < len) (h8 : len ≤ 8) (hz : ∀ j, j < len → 0 ≤ g j ∧ g j < 256) (w : World) (hc : ∀ j, j < len → w.cell? ⟨b, off + j, none⟩ = some (.int .u8 (g j))) (hc0 : w.cell? ⟨b, off, none⟩ = some (.int .u8 z0)) (hne : (z0 == 0) = false) :
    Calls Try.prog 18 #[.slice (some ⟨b, off, none⟩) len cap] w fun e w' => e = .returned (.tuple #[.int .u64 (valUp g len), .bool true]) ∧ w = w' := by
  have h' : (0 : Int) < (len : Int) := by omega
  have h8' : decide ((8 : Int) < (len : Int)) = false := by simp; omega
  go_enter Try.func18, Try.ntmps18
  go_wp2
  go_loop [4, 5] (fun n i => ∃ k : Nat, k ≤ len ∧ i = .int .i64 k ∧ n = .int .u64 (valUp g k)) (fun _ i => len - (intOf i).toNat)
  case atStart => exact ⟨0, Nat.zero_le _, rfl, rfl⟩
  case round =>
    obtain ⟨k, hk, rfl, rfl⟩ := hrel
    by_cases hlt : k < len
    · have hck := hc k hlt
      have hzk := hz k hlt
      go_wp2
      go_roundw
      case rel =>
        have hb := valUp_bd g k (fun j hj => hz j (by omega))
        have hp : (256 : Int) ^ k ≤ 256 ^ 7 := pow_le7 k (by omega)
        refine ⟨k + 1, by omega, by go_num, ?_⟩
        rw [valUp_succ, IntKind.wrap_u64, IntKind.wrap_u64, Int.emod_eq_of_lt (a := 256 * valUp g k) (by omega) (by omega), Int.emod_eq_of_lt (by omega) (by omega)]
      case measure => simp [intOf]; omega
    · go_wp2
      go_ret2
      obtain rfl : k = len := by omega
      exact ⟨rfl, rfl⟩

/-- belfryref01.Number, at whatever slice of bytes. -/
theorem refnumber_any (v : Value) (zs : List Int) (w : World) (h : Bts w.heap.size w v zs) :
    Calls Try.prog 18 #[v] w fun e w' => e = .returned (.tuple #[.int .u64 (numV zs), .bool (numB zs)]) ∧ w = w' := by
  obtain ⟨⟨rfl | ⟨ad, cap, rfl⟩, rfl⟩ | ⟨b, off, cap, rfl, hb, hl, hm, hc⟩, hz⟩ := h
  · exact refnumber_empty none 0 w
  · exact refnumber_empty _ cap w
  · by_cases h0 : zs.length = 0
    · have e : zs = [] := List.eq_nil_of_length_eq_zero h0
      subst e
      exact refnumber_empty _ cap w
    · by_cases h8 : 8 < zs.length
      · have e1 : numB zs = false := by simp [numB]; omega
        have e2 : numV zs = 0 := by simp [numV, e1]
        rw [e1, e2]
        exact refnumber_long _ _ cap h8 (by unfold maxLen at hm; omega) w
      · by_cases hz0 : zs[0]?.getD 0 = 0
        · have e1 : numB zs = false := by simp only [numB, hz0, h0]; simp
          have e2 : numV zs = 0 := by simp [numV, e1]
          rw [e1, e2]
          refine refnumber_zero b off _ cap (by omega) (by omega) w ?_
          have := hc 0 (by omega)
          rw [hz0] at this
          exact this
        · have e1 : numB zs = true := by simp only [numB, Bool.and_eq_true, Bool.or_eq_true, decide_eq_true_eq]; exact ⟨by omega, .inr hz0⟩
          have e2 : numV zs = val zs := by simp [numV, e1]
          rw [e1, e2, ← valUp_all]
          refine refnumber_core b off _ cap _ (zs[0]?.getD 0) (by omega) (by omega) (fun j hj => ?_) w hc (hc 0 (by omega)) (by simpa using hz0)
          exact hz _ (by simp [hj])
end Go.Proofs.Ytbkiafedadofdaa
