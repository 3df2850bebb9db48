/- What codec.Bytes and codec.Number return. -/
import Derived.Test.YtmahpceokpajgaaDoorCCnum
namespace Go.Proofs.YtmahpceokpajgaaDoor.C
open Go.RowKit Plain Go.IntWalk
set_option linter.unusedVariables false

theorem set_step (k j : Nat) (n : Int) (h0 : 0 ≤ n) (hlt : j < k) :
    ((List.replicate (k - j) 0 ++ be j n.toNat).map (Value.int .u8)).set (k - 1 - j) (.int .u8 (n / 2 ^ (8 * j) % 256)) = (List.replicate (k - (j + 1)) 0 ++ be (j + 1) n.toNat).map (Value.int .u8) := by
  obtain ⟨m, rfl⟩ := Int.eq_ofNat_of_zero_le h0
  have e1 : k - j = (k - (j + 1)) + 1 := by omega
  have e2 : k - 1 - j = k - (j + 1) := by omega
  rw [e1, e2, List.replicate_succ', List.append_assoc, be_cons, Int.toNat_natCast, List.map_append, List.set_append_right _ _ (by simp), List.map_append, pow256]
  simp
/-- Are bytes a number's? -/
def numB (zs : List Int) : Bool := decide (zs.length ≤ 8) && (decide (zs.length = 0) || decide (zs[0]?.getD 0 ≠ 0))
/-- Which one? -/
def numV (zs : List Int) : Int := if numB zs = true then val zs else 0


theorem pow_le7 (k : Nat) (h : k ≤ 7) : (256 : Int) ^ k ≤ 256 ^ 7 := by
  have : ∀ j : Fin 8, (256 : Int) ^ j.val ≤ 256 ^ 7 := by decide +kernel
  exact this ⟨k, by omega⟩
theorem shl_or (v d : Int) (h0 : 0 ≤ v) (h1 : v < 256 ^ 7) (h2 : 0 ≤ d) (h3 : d < 256) : bits .or .u64 (IntKind.u64.wrap (v * 256)) d = 256 * v + d := by
  obtain ⟨a, rfl⟩ := Int.eq_ofNat_of_zero_le h0
  obtain ⟨b, rfl⟩ := Int.eq_ofNat_of_zero_le h2
  have ha : a < 72057594037927936 := by omega
  rw [IntKind.wrap_u64, show ((a : Int) * 256) % 18446744073709551616 = ((a * 256 : Nat) : Int) from by omega, bits_or_u64_nat _ _ (by omega) (by omega)]
  have e := Nat.shiftLeft_add_eq_or_of_lt (b := b) (i := 8) (by omega) a
  rw [Nat.shiftLeft_eq] at e
  rw [show a * 256 = a * 2 ^ 8 from rfl, ← e]
  omega
/-- The number of the first k digits. -/
def valUp (g : Nat → Int) (k : Nat) : Int := val ((List.range k).map g)
theorem valUp_succ (g : Nat → Int) (k : Nat) : valUp g (k + 1) = 256 * valUp g k + g k := by
  unfold valUp; rw [List.range_succ, List.map_append, List.map_cons, List.map_nil, val_snoc]
theorem valUp_bd (g : Nat → Int) (k : Nat) (h : ∀ j, j < k → 0 ≤ g j ∧ g j < 256) : 0 ≤ valUp g k ∧ valUp g k < 256 ^ k := by
  have := val_bd ((List.range k).map g) (by intro z hz; simp at hz; obtain ⟨j, hj, rfl⟩ := hz; exact h j hj)
  simpa [valUp] using this
theorem valUp_all (zs : List Int) : valUp (fun j => zs[j]?.getD 0) zs.length = val zs := by
  unfold valUp
  congr 1
  apply List.ext_getElem
  · simp
  · intro i h1 h2; simp [h2]

/-- A number's bytes are the number again. -/
theorem numB_enc (n : Nat) (h : n < 18446744073709551616) : numB (enc n) = true := by
  simp only [numB, Bool.and_eq_true, Bool.or_eq_true, decide_eq_true_eq, enc_length]
  refine ⟨nb_8 h, ?_⟩
  rcases Nat.eq_zero_or_pos n with e | e
  · subst e; exact .inl rfl
  · exact .inr (enc_head e)
theorem numV_enc (n : Nat) (h : n < 18446744073709551616) : numV (enc n) = n := by
  rw [numV, if_pos (numB_enc n h), val_enc]
/-- With a nought ahead they are none. -/
theorem numB_cons (zs : List Int) : numB (0 :: zs) = false := by simp [numB]
end Go.Proofs.YtmahpceokpajgaaDoor.C
