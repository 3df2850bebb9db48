/- What math/bits.Len64 returns. -/
import Derived.WalkKit
import Derived.WalkSpells
import Derived.WalkLawsBesides
import Derived.Outline
import Derived.Laws.BytesArg
import Derived.Test.YtmahpceokpajgaaDoorCBase
import Derived.Test.YtmahpceokpajgaaDoorCPlain
namespace Go.Proofs.YtmahpceokpajgaaDoor.C
open Go.RowKit Plain Go.IntWalk
set_option linter.unusedVariables false

/-- Of each byte: how many bits it has. -/
def tab : ByteArray := ⟨#[
  0, 1, 2, 2, 3, 3, 3, 3, 4, 4, 4, 4, 4, 4, 4, 4, 5, 5, 5, 5, 5, 5, 5, 5, 5, 5, 5, 5, 5, 5, 5, 5,
  6, 6, 6, 6, 6, 6, 6, 6, 6, 6, 6, 6, 6, 6, 6, 6, 6, 6, 6, 6, 6, 6, 6, 6, 6, 6, 6, 6, 6, 6, 6, 6,
  7, 7, 7, 7, 7, 7, 7, 7, 7, 7, 7, 7, 7, 7, 7, 7, 7, 7, 7, 7, 7, 7, 7, 7, 7, 7, 7, 7, 7, 7, 7, 7,
  7, 7, 7, 7, 7, 7, 7, 7, 7, 7, 7, 7, 7, 7, 7, 7, 7, 7, 7, 7, 7, 7, 7, 7, 7, 7, 7, 7, 7, 7, 7, 7,
  8, 8, 8, 8, 8, 8, 8, 8, 8, 8, 8, 8, 8, 8, 8, 8, 8, 8, 8, 8, 8, 8, 8, 8, 8, 8, 8, 8, 8, 8, 8, 8,
  8, 8, 8, 8, 8, 8, 8, 8, 8, 8, 8, 8, 8, 8, 8, 8, 8, 8, 8, 8, 8, 8, 8, 8, 8, 8, 8, 8, 8, 8, 8, 8,
  8, 8, 8, 8, 8, 8, 8, 8, 8, 8, 8, 8, 8, 8, 8, 8, 8, 8, 8, 8, 8, 8, 8, 8, 8, 8, 8, 8, 8, 8, 8, 8,
  8, 8, 8, 8, 8, 8, 8, 8, 8, 8, 8, 8, 8, 8, 8, 8, 8, 8, 8, 8, 8, 8, 8, 8, 8, 8, 8, 8, 8, 8, 8, 8]⟩
def fitsB (n L : Nat) : Bool := decide (n < 2 ^ L) && decide (n = 0 → L = 0) && decide (0 < n → 2 ^ L ≤ 2 * n) && decide (L ≤ 8)
theorem tab_all : (List.range 256).all (fun i => fitsB i (tab.get! i).toNat) = true := by decide +kernel
theorem tab_size : tab.size = 256 := by decide +kernel
theorem tab_ok (i : Nat) (h : i < 256) : Fits i (tab[i]'(by rw [tab_size]; exact h)).toNat ∧ (tab[i]'(by rw [tab_size]; exact h)).toNat ≤ 8 := by
  have h1 := List.all_eq_true.1 tab_all i (List.mem_range.2 h)
  have e : tab.get! i = tab[i]'(by rw [tab_size]; exact h) := by
    have : i < tab.data.size := by rw [show tab.data.size = 256 from tab_size]; exact h
    show tab.data[i]! = tab.data[i]
    rw [getElem!_pos tab.data i this]
  rw [e] at h1
  simp only [fitsB, Bool.and_eq_true, decide_eq_true_eq] at h1
  exact ⟨⟨h1.1.1.1, h1.1.1.2, h1.1.2⟩, h1.2⟩
theorem close0 {n : Nat} (hi : n < 256) :
    ∃ L : Nat, Ending.returned (Value.int .i64 (wrap64 (wrap64 ((tab[n]'(by rw [tab_size]; exact hi)).toNat : Int)))) = .returned (.int .i64 L) ∧ Fits n L ∧ L ≤ 64 := by
  obtain ⟨h1, h2⟩ := tab_ok n hi
  refine ⟨_, ?_, h1, by omega⟩
  rw [wrap64_in ((tab[n]'(by rw [tab_size]; exact hi)).toNat : Int) (by omega), wrap64_in _ (by omega)]
theorem closeK {n i : Nat} (k : Nat) (hi : i < 256) (hk : k ≤ 56) (hf : ∀ L, Fits i L → Fits n (L + k)) :
    ∃ L : Nat, Ending.returned (Value.int .i64 (wrap64 ((k : Int) + wrap64 ((tab[i]'(by rw [tab_size]; exact hi)).toNat : Int)))) = .returned (.int .i64 L) ∧ Fits n L ∧ L ≤ 64 := by
  obtain ⟨h1, h2⟩ := tab_ok i hi
  refine ⟨_, ?_, hf _ h1, by omega⟩
  rw [wrap64_in ((tab[i]'(by rw [tab_size]; exact hi)).toNat : Int) (by omega), wrap64_in _ (by omega), Int.add_comm]
  rfl
set_option maxRecDepth 100000 in
set_option maxHeartbeats 1000000 in
theorem len64_000 (n : Int) (w : World) (h0 : 0 ≤ n) (h1 : n < 4294967296) (h2 : n < 65536) (h3 : n < 256) :
    Calls Tryd.prog 76 #[.int .u64 n] w fun e w' => (∃ L : Nat, e = .returned (.int .i64 L) ∧ Fits n.toNat L ∧ L ≤ 64) ∧ w = w' := by
  go_enter Tryd.func76, Tryd.ntmps76
  go_wp2
  go_ret
  exact ⟨close0 (by omega), rfl⟩
set_option maxRecDepth 100000 in
set_option maxHeartbeats 1000000 in
theorem len64_001 (n : Int) (w : World) (h0 : 0 ≤ n) (h1 : n < 4294967296) (h2 : n < 65536) (h3 : 256 ≤ n) (h4 : n / 256 < 256) :
    Calls Tryd.prog 76 #[.int .u64 n] w fun e w' => (∃ L : Nat, e = .returned (.int .i64 L) ∧ Fits n.toNat L ∧ L ≤ 64) ∧ w = w' := by
  go_enter Tryd.func76, Tryd.ntmps76
  go_wp2
  go_ret
  exact ⟨closeK 8 (by omega) (by omega) (fun L hL => by rw [show (n / 256).toNat = n.toNat / 256 from by omega] at hL; have := (hL).up8 (by omega); simpa only [Nat.add_assoc] using this), rfl⟩
set_option maxRecDepth 100000 in
set_option maxHeartbeats 1000000 in
theorem len64_010 (n : Int) (w : World) (h0 : 0 ≤ n) (h1 : n < 4294967296) (h2 : 65536 ≤ n) (h3 : n / 65536 < 256) :
    Calls Tryd.prog 76 #[.int .u64 n] w fun e w' => (∃ L : Nat, e = .returned (.int .i64 L) ∧ Fits n.toNat L ∧ L ≤ 64) ∧ w = w' := by
  go_enter Tryd.func76, Tryd.ntmps76
  go_wp2
  go_ret
  exact ⟨closeK 16 (by omega) (by omega) (fun L hL => by rw [show (n / 65536).toNat = n.toNat / 65536 from by omega] at hL; have := (hL).up16 (by omega); simpa only [Nat.add_assoc] using this), rfl⟩
set_option maxRecDepth 100000 in
set_option maxHeartbeats 1000000 in
theorem len64_011 (n : Int) (w : World) (h0 : 0 ≤ n) (h1 : n < 4294967296) (h2 : 65536 ≤ n) (h3 : 256 ≤ n / 65536) (h4 : n / 65536 / 256 < 256) :
    Calls Tryd.prog 76 #[.int .u64 n] w fun e w' => (∃ L : Nat, e = .returned (.int .i64 L) ∧ Fits n.toNat L ∧ L ≤ 64) ∧ w = w' := by
  go_enter Tryd.func76, Tryd.ntmps76
  go_wp2
  go_ret
  exact ⟨closeK 24 (by omega) (by omega) (fun L hL => by rw [show (n / 65536 / 256).toNat = n.toNat / 65536 / 256 from by omega] at hL; have := ((hL).up8 (by omega)).up16 (by omega); simpa only [Nat.add_assoc] using this), rfl⟩
set_option maxRecDepth 100000 in
set_option maxHeartbeats 1000000 in
theorem len64_100 (n : Int) (w : World) (h0 : 0 ≤ n) (h1 : 4294967296 ≤ n) (h2 : n / 4294967296 < 65536) (h3 : n / 4294967296 < 256) :
    Calls Tryd.prog 76 #[.int .u64 n] w fun e w' => (∃ L : Nat, e = .returned (.int .i64 L) ∧ Fits n.toNat L ∧ L ≤ 64) ∧ w = w' := by
  go_enter Tryd.func76, Tryd.ntmps76
  go_wp2
  go_ret
  exact ⟨closeK 32 (by omega) (by omega) (fun L hL => by rw [show (n / 4294967296).toNat = n.toNat / 4294967296 from by omega] at hL; have := (hL).up32 (by omega); simpa only [Nat.add_assoc] using this), rfl⟩
set_option maxRecDepth 100000 in
set_option maxHeartbeats 1000000 in
theorem len64_101 (n : Int) (w : World) (h0 : 0 ≤ n) (h1 : 4294967296 ≤ n) (h2 : n / 4294967296 < 65536) (h3 : 256 ≤ n / 4294967296) (h4 : n / 4294967296 / 256 < 256) :
    Calls Tryd.prog 76 #[.int .u64 n] w fun e w' => (∃ L : Nat, e = .returned (.int .i64 L) ∧ Fits n.toNat L ∧ L ≤ 64) ∧ w = w' := by
  go_enter Tryd.func76, Tryd.ntmps76
  go_wp2
  go_ret
  exact ⟨closeK 40 (by omega) (by omega) (fun L hL => by rw [show (n / 4294967296 / 256).toNat = n.toNat / 4294967296 / 256 from by omega] at hL; have := ((hL).up8 (by omega)).up32 (by omega); simpa only [Nat.add_assoc] using this), rfl⟩
set_option maxRecDepth 100000 in
set_option maxHeartbeats 1000000 in
theorem len64_110 (n : Int) (w : World) (h0 : 0 ≤ n) (h1 : 4294967296 ≤ n) (h2 : 65536 ≤ n / 4294967296) (h3 : n / 4294967296 / 65536 < 256) :
    Calls Tryd.prog 76 #[.int .u64 n] w fun e w' => (∃ L : Nat, e = .returned (.int .i64 L) ∧ Fits n.toNat L ∧ L ≤ 64) ∧ w = w' := by
  go_enter Tryd.func76, Tryd.ntmps76
  go_wp2
  go_ret
  exact ⟨closeK 48 (by omega) (by omega) (fun L hL => by rw [show (n / 4294967296 / 65536).toNat = n.toNat / 4294967296 / 65536 from by omega] at hL; have := ((hL).up16 (by omega)).up32 (by omega); simpa only [Nat.add_assoc] using this), rfl⟩
set_option maxRecDepth 100000 in
set_option maxHeartbeats 1000000 in
theorem len64_111 (n : Int) (w : World) (h0 : 0 ≤ n) (h1 : 4294967296 ≤ n) (h2 : 65536 ≤ n / 4294967296) (h3 : 256 ≤ n / 4294967296 / 65536) (h4 : n / 4294967296 / 65536 / 256 < 256) :
    Calls Tryd.prog 76 #[.int .u64 n] w fun e w' => (∃ L : Nat, e = .returned (.int .i64 L) ∧ Fits n.toNat L ∧ L ≤ 64) ∧ w = w' := by
  go_enter Tryd.func76, Tryd.ntmps76
  go_wp2
  go_ret
  exact ⟨closeK 56 (by omega) (by omega) (fun L hL => by rw [show (n / 4294967296 / 65536 / 256).toNat = n.toNat / 4294967296 / 65536 / 256 from by omega] at hL; have := (((hL).up8 (by omega)).up16 (by omega)).up32 (by omega); simpa only [Nat.add_assoc] using this), rfl⟩
theorem len64_any (n : Int) (w : World) (h0 : 0 ≤ n) (hn : n < 18446744073709551616) :
    Calls Tryd.prog 76 #[.int .u64 n] w fun e w' => (∃ L : Nat, e = .returned (.int .i64 L) ∧ Fits n.toNat L ∧ L ≤ 64) ∧ w = w' := by
  by_cases c1 : 4294967296 ≤ n
  · by_cases c2 : 65536 ≤ n / 4294967296
    · by_cases c3 : 256 ≤ n / 4294967296 / 65536
      · exact len64_111 n w h0 (by omega) (by omega) (by omega) (by omega)
      · exact len64_110 n w h0 (by omega) (by omega) (by omega)
    · by_cases c3 : 256 ≤ n / 4294967296
      · exact len64_101 n w h0 (by omega) (by omega) (by omega) (by omega)
      · exact len64_100 n w h0 (by omega) (by omega) (by omega)
  · by_cases c2 : 65536 ≤ n
    · by_cases c3 : 256 ≤ n / 65536
      · exact len64_011 n w h0 (by omega) (by omega) (by omega) (by omega)
      · exact len64_010 n w h0 (by omega) (by omega) (by omega)
    · by_cases c3 : 256 ≤ n
      · exact len64_001 n w h0 (by omega) (by omega) (by omega) (by omega)
      · exact len64_000 n w h0 (by omega) (by omega) (by omega)

end Go.Proofs.YtmahpceokpajgaaDoor.C
