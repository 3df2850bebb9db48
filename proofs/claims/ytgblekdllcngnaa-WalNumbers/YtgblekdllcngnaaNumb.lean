/- What codec.Bytes and codec.Number return. -/
import Derived.Test.YtgblekdllcngnaaCnum
namespace Go.Proofs.Ytgblekdllcngnaa
open Go.RowKit Plain Go.IntWalk
set_option linter.unusedVariables false

theorem set_step (k j : Nat) (n : Int) (h0 : 0 ≤ n) (hlt : j < k) :
    ((List.replicate (k - j) 0 ++ be j n.toNat).map (Value.int .u8)).set (k - 1 - j) (.int .u8 (n / 2 ^ (8 * j) % 256)) = (List.replicate (k - (j + 1)) 0 ++ be (j + 1) n.toNat).map (Value.int .u8) := by
  obtain ⟨m, rfl⟩ := Int.eq_ofNat_of_zero_le h0
  have e1 : k - j = (k - (j + 1)) + 1 := by omega
  have e2 : k - 1 - j = k - (j + 1) := by omega
  rw [e1, e2, List.replicate_succ', List.append_assoc, be_cons, Int.toNat_natCast, List.map_append, List.set_append_right _ _ (by simp), List.map_append, pow256]
  simp
set_option maxRecDepth 100000 in
set_option maxHeartbeats 1000000 in
theorem bytes_any (n : Int) (w : World) (h0 : 0 ≤ n) (hn : n < 18446744073709551616) :
    Calls Try.prog 55 #[.int .u64 n] w fun e w' => e = .returned (.slice (some ⟨w.heap.size, 0, none⟩) (nb n.toNat) (nb n.toNat)) ∧ w'.ownsRow w.heap.size 5 1 (.slice (some ⟨w.heap.size, 0, none⟩) (nb n.toNat) (nb n.toNat)) (nb n.toNat) ((enc n.toNat).map (Value.int .u8)) ∧ Below w.heap.size w w' := by
  obtain ⟨i0, hi, hz0, hz1, hz2⟩ := info_parts Try.info5
  have HN : Hid (n < 18446744073709551616) := hn
  clear hn
  go_enter Try.func55, Try.ntmps55
  go_wp2_with (first
    | (go_at_call 67; refine (len64_any _ _ (by exact h0) (by exact HN.out)).mono ?_; rintro e w' ⟨⟨L, rfl, hL, hL64⟩, rfl⟩)
    | (at_make; refine wpList_make_full _ rfl _ _ 32 rfl w.heap.size 5 i0 (.int .u8 0) 1 Try.underlying32 hi hz0 hz1 .i64 .i64 _ _ ((L + 7) / 8) rfl rfl (by omega) (by omega) (by rw [hz2]; omega) (by unfold maxLen; omega) (Nat.le_refl _) ?_; intro w1 hown hgrow))
  have hk : (L + 7) / 8 = nb n.toNat := nb_of_fits hL
  have e1 : ((L : Int) + 7) / 8 = ((nb n.toNat : Nat) : Int) := by omega
  have h8 : nb n.toNat ≤ 8 := by omega
  rw [hk] at hown
  simp only [hk, e1]
  generalize hkk : nb n.toNat = k at *
  have HK := Hid.out (p := nb n.toNat = k) hkk
  clear hL e1 hk hkk
  go_loopw [12] (fun i wr => ∃ j : Nat, j ≤ k ∧ i = .int .i64 j ∧ wr.ownsRow w.heap.size 5 1 (.slice (some ⟨w.heap.size, 0, none⟩) k k) k ((List.replicate (k - j) 0 ++ be j n.toNat).map (Value.int .u8)) ∧ Below w.heap.size w wr) (fun i _ => k - (intOf i).toNat)
  case atStart =>
    refine ⟨0, Nat.zero_le _, rfl, ?_, (Below.refl _ _).grown hgrow (Nat.le_refl _) (fun _ e => by cases e)⟩
    have e : (madeCells (Value.int IntKind.u8 0).cells (k * 1)).toList = (List.replicate (k - 0) 0 ++ be 0 n.toNat).map (Value.int .u8) := by
      rw [madeCells_u8]; simp [be]
    rw [← e]; exact hown
  case round =>
    obtain ⟨j, hj, rfl, hrow, hB⟩ := hrel
    by_cases hlt : j < k
    · have hc : wr.cell? ⟨w.heap.size, k - 1 - j, none⟩ = some (.int .u8 0) := by
        rw [hrow.cellAt (k - 1 - j) (by omega), List.getElem?_map, List.getElem?_append_left (by simp; omega), List.getElem?_replicate, if_pos (by omega)]
        rfl
      have hf := hrow.frozenAt (k - 1 - j)
      go_wp2
      go_roundw
      case rel =>
        have hs := hrow.stored (k - 1 - j) (.int .u8 (n / 2 ^ (8 * j) % 256))
        refine ⟨j + 1, by omega, by go_num, ?_, hB.setCell (p := ⟨w.heap.size, k - 1 - j, none⟩) (Nat.le_refl _) _⟩
        have e := hs.1
        rw [set_step k j n h0 hlt] at e
        exact e
      case measure => simp [intOf]; omega
    · go_wp2
      go_ret
      obtain rfl : j = k := by omega
      rw [Nat.sub_self, List.replicate_zero, List.nil_append] at hrow
      unfold enc
      rw [HK]
      exact ⟨rfl, hrow, hB⟩

/-- Are bytes a number's? -/
def numB (zs : List Int) : Bool := decide (zs.length ≤ 8) && (decide (zs.length = 0) || decide (zs[0]?.getD 0 ≠ 0))
/-- Which one? -/
def numV (zs : List Int) : Int := if numB zs = true then val zs else 0


theorem pow_le7 (k : Nat) (h : k ≤ 7) : (256 : Int) ^ k ≤ 256 ^ 7 := by
  have : ∀ j : Fin 8, (256 : Int) ^ j.val ≤ 256 ^ 7 := by decide +kernel
  exact this ⟨k, by omega⟩
theorem shl_or (v d : Int) (h0 : 0 ≤ v) (h1 : v < 256 ^ 7) (h2 : 0 ≤ d) (h3 : d < 256) : bits .or .u64 (IntKind.u64.wrap (v * 256)) d = 256 * v + d := by
  obtain ⟨a, rfl⟩ := Int.eq_ofNat_of_zero_le h0
  obtain ⟨b, rfl⟩ := Int.eq_ofNat_of_zero_le h2
  have ha : a < 72057594037927936 := by omega
  rw [IntKind.wrap_u64, show ((a : Int) * 256) % 18446744073709551616 = ((a * 256 : Nat) : Int) from by omega, bits_or_u64_nat _ _ (by omega) (by omega)]
  have e := Nat.shiftLeft_add_eq_or_of_lt (b := b) (i := 8) (by omega) a
  rw [Nat.shiftLeft_eq] at e
  rw [show a * 256 = a * 2 ^ 8 from rfl, ← e]
  omega
/-- The number of the first k digits. -/
def valUp (g : Nat → Int) (k : Nat) : Int := val ((List.range k).map g)
theorem valUp_succ (g : Nat → Int) (k : Nat) : valUp g (k + 1) = 256 * valUp g k + g k := by
  unfold valUp; rw [List.range_succ, List.map_append, List.map_cons, List.map_nil, val_snoc]
theorem valUp_bd (g : Nat → Int) (k : Nat) (h : ∀ j, j < k → 0 ≤ g j ∧ g j < 256) : 0 ≤ valUp g k ∧ valUp g k < 256 ^ k := by
  have := val_bd ((List.range k).map g) (by intro z hz; simp at hz; obtain ⟨j, hj, rfl⟩ := hz; exact h j hj)
  simpa [valUp] using this
theorem valUp_all (zs : List Int) : valUp (fun j => zs[j]?.getD 0) zs.length = val zs := by
  unfold valUp
  congr 1
  apply List.ext_getElem
  · simp
  · intro i h1 h2; simp [h2]

set_option maxRecDepth 100000 in
set_option maxHeartbeats 1000000 in
/-- no bytes -/
theorem number_empty (a : Option Addr) (cap : Nat) (w : World) :
    Calls Try.prog 62 #[.slice a 0 cap] w fun e w' => e = .returned (.tuple #[.int .u64 0, .bool true]) ∧ w = w' := by
  go_enter Try.func62, Try.ntmps62
  go_wp2
  refine wp_loop_rounds 1 ?_
  rw [rounds_succ]
  go_wp2
  go_ret2
  exact ⟨rfl, rfl⟩
set_option maxRecDepth 100000 in
set_option maxHeartbeats 1000000 in
theorem number_long (a : Option Addr) (len cap : Nat) (h : 8 < len) (hm : len ≤ 9223372036854775807) (w : World) :
    Calls Try.prog 62 #[.slice a len cap] w fun e w' => e = .returned (.tuple #[.int .u64 0, .bool false]) ∧ w = w' := by
  have h' : (8 : Int) < (len : Int) := by omega
  go_enter Try.func62, Try.ntmps62
  go_wp2
  go_ret2
  exact ⟨rfl, rfl⟩
set_option maxRecDepth 100000 in
set_option maxHeartbeats 1000000 in
theorem number_zero (b off len cap : Nat) (h : 0 < len) (h8 : len ≤ 8) (w : World) (hc : w.cell? ⟨b, off, none⟩ = some (.int .u8 0)) :
    Calls Try.prog 62 #[.slice (some ⟨b, off, none⟩) len cap] w fun e w' => e = .returned (.tuple #[.int .u64 0, .bool false]) ∧ w = w' := by
  have h' : (0 : Int) < (len : Int) := by omega
  go_enter Try.func62, Try.ntmps62
  go_wp2
  go_ret2
  exact ⟨rfl, rfl⟩
set_option maxRecDepth 100000 in
set_option maxHeartbeats 1000000 in
theorem number_core (b off len cap : Nat) (g : Nat → Int) (z0 : Int) (h : 0 < len) (h8 : len ≤ 8) (hz : ∀ j, j < len → 0 ≤ g j ∧ g j < 256) (w : World) (hc : ∀ j, j < len → w.cell? ⟨b, off + j, none⟩ = some (.int .u8 (g j))) (hc0 : w.cell? ⟨b, off, none⟩ = some (.int .u8 z0)) (hne : (z0 == 0) = false) :
    Calls Try.prog 62 #[.slice (some ⟨b, off, none⟩) len cap] w fun e w' => e = .returned (.tuple #[.int .u64 (valUp g len), .bool true]) ∧ w = w' := by
  have h' : (0 : Int) < (len : Int) := by omega
  have h8' : decide ((8 : Int) < (len : Int)) = false := by simp; omega
  go_enter Try.func62, Try.ntmps62
  go_wp2
  go_loop [4, 23] (fun n i => ∃ k : Nat, k ≤ len ∧ i = .int .i64 k ∧ n = .int .u64 (valUp g k)) (fun _ i => len - (intOf i).toNat)
  case atStart => exact ⟨0, Nat.zero_le _, rfl, rfl⟩
  case round =>
    obtain ⟨k, hk, rfl, rfl⟩ := hrel
    by_cases hlt : k < len
    · have hck := hc k hlt
      have hzk := hz k hlt
      go_wp2
      go_roundw
      case rel =>
        have hb := valUp_bd g k (fun j hj => hz j (by omega))
        have hp : (256 : Int) ^ k ≤ 256 ^ 7 := pow_le7 k (by omega)
        refine ⟨k + 1, by omega, by go_num, ?_⟩
        rw [valUp_succ, shl_or _ _ hb.1 (by omega) hzk.1 hzk.2]
      case measure => simp [intOf]; omega
    · go_wp2
      go_ret2
      obtain rfl : k = len := by omega
      exact ⟨rfl, rfl⟩

/-- codec.Number, at whatever slice of bytes. -/
theorem number_any (v : Value) (zs : List Int) (w : World) (h : Bts w.heap.size w v zs) :
    Calls Try.prog 62 #[v] w fun e w' => e = .returned (.tuple #[.int .u64 (numV zs), .bool (numB zs)]) ∧ w = w' := by
  obtain ⟨⟨rfl | ⟨ad, cap, rfl⟩, rfl⟩ | ⟨b, off, cap, rfl, hb, hl, hm, hc⟩, hz⟩ := h
  · exact number_empty none 0 w
  · exact number_empty _ cap w
  · by_cases h0 : zs.length = 0
    · have e : zs = [] := List.eq_nil_of_length_eq_zero h0
      subst e
      exact number_empty _ cap w
    · by_cases h8 : 8 < zs.length
      · have e1 : numB zs = false := by simp [numB]; omega
        have e2 : numV zs = 0 := by simp [numV, e1]
        rw [e1, e2]
        exact number_long _ _ cap h8 (by unfold maxLen at hm; omega) w
      · by_cases hz0 : zs[0]?.getD 0 = 0
        · have e1 : numB zs = false := by simp only [numB, hz0, h0]; simp
          have e2 : numV zs = 0 := by simp [numV, e1]
          rw [e1, e2]
          refine number_zero b off _ cap (by omega) (by omega) w ?_
          have := hc 0 (by omega)
          rw [hz0] at this
          exact this
        · have e1 : numB zs = true := by simp only [numB, Bool.and_eq_true, Bool.or_eq_true, decide_eq_true_eq]; exact ⟨by omega, .inr hz0⟩
          have e2 : numV zs = val zs := by simp [numV, e1]
          rw [e1, e2, ← valUp_all]
          refine number_core b off _ cap _ (zs[0]?.getD 0) (by omega) (by omega) (fun j hj => ?_) w hc (hc 0 (by omega)) (by simpa using hz0)
          exact hz _ (by simp [hj])

/-- A number's bytes are the number again. -/
theorem numB_enc (n : Nat) (h : n < 18446744073709551616) : numB (enc n) = true := by
  simp only [numB, Bool.and_eq_true, Bool.or_eq_true, decide_eq_true_eq, enc_length]
  refine ⟨nb_8 h, ?_⟩
  rcases Nat.eq_zero_or_pos n with e | e
  · subst e; exact .inl rfl
  · exact .inr (enc_head e)
theorem numV_enc (n : Nat) (h : n < 18446744073709551616) : numV (enc n) = n := by
  rw [numV, if_pos (numB_enc n h), val_enc]
/-- With a nought ahead they are none. -/
theorem numB_cons (zs : List Int) : numB (0 :: zs) = false := by simp [numB]
end Go.Proofs.Ytgblekdllcngnaa
