/- What crc.halves, More and Sum return, whatever they are asked. -/
import Derived.Test.YtdokhiikglcpcaaTimes
namespace Go.Proofs.Ytdokhiikglcpcaa
open Go.RowKit Go.IntWalk Crcm
set_option linter.unusedVariables false

/-- The table, of which k are made. -/
def tabI (k j : Nat) : Int := if j < k then U (tab4 j) else 0
def rowT (k : Nat) : Array Value := #[.int .u32 (tabI k 0), .int .u32 (tabI k 1), .int .u32 (tabI k 2), .int .u32 (tabI k 3), .int .u32 (tabI k 4), .int .u32 (tabI k 5), .int .u32 (tabI k 6), .int .u32 (tabI k 7), .int .u32 (tabI k 8), .int .u32 (tabI k 9), .int .u32 (tabI k 10), .int .u32 (tabI k 11), .int .u32 (tabI k 12), .int .u32 (tabI k 13), .int .u32 (tabI k 14), .int .u32 (tabI k 15)]
theorem rowT_zero : rowT 0 = #[.int .u32 0, .int .u32 0, .int .u32 0, .int .u32 0, .int .u32 0, .int .u32 0, .int .u32 0, .int .u32 0, .int .u32 0, .int .u32 0, .int .u32 0, .int .u32 0, .int .u32 0, .int .u32 0, .int .u32 0, .int .u32 0] := rfl
theorem rowT_get (k j : Nat) (h : j < 16) : (rowT k)[j]? = some (.int .u32 (tabI k j)) := by
  have : ∀ j : Fin 16, (rowT k)[j.val]? = some (.int .u32 (tabI k j.val)) := by
    intro ⟨j, hj⟩
    rcases (show j = 0 ∨ j = 1 ∨ j = 2 ∨ j = 3 ∨ j = 4 ∨ j = 5 ∨ j = 6 ∨ j = 7 ∨ j = 8 ∨ j = 9 ∨ j = 10 ∨ j = 11 ∨ j = 12 ∨ j = 13 ∨ j = 14 ∨ j = 15 from by omega) with h | h | h | h | h | h | h | h | h | h | h | h | h | h | h | h <;> subst h <;> rfl
  exact this ⟨j, h⟩
theorem rowT_size (k : Nat) : (rowT k).size = 16 := rfl
theorem rowT_set (k : Nat) (h : k < 16) : (rowT k).setIfInBounds k (.int .u32 (U (tab4 k))) = rowT (k + 1) := by
  apply Array.ext
  · simp [rowT_size]
  · intro i h1 h2
    rw [rowT_size] at h2
    apply Option.some.inj
    rw [← Array.getElem?_eq_getElem, ← Array.getElem?_eq_getElem, Array.getElem?_setIfInBounds, rowT_get _ _ h2, rowT_get _ _ h2, rowT_size]
    by_cases e : k = i
    · subst e
      simp [h, tabI]
    · rw [if_neg e]
      unfold tabI
      congr 2
      by_cases e2 : i < k
      · rw [if_pos e2, if_pos (by omega)]
      · rw [if_neg e2, if_neg (by omega)]

set_option maxRecDepth 100000 in
set_option maxHeartbeats 1000000 in
theorem halves_any (w : World) :
    Calls Try.prog 15 #[] w fun e w' => e = .returned (.agg (rowT 16)) ∧ Below w.heap.size w w' := by
  go_enter Try.func15, Try.ntmps15
  go_wp2
  go_loopw [4] (fun i wr => ∃ k : Nat, k ≤ 16 ∧ i = .int .i64 k ∧ wr = (w.alloc (.cells #[.int .u32 0, .int .u32 0, .int .u32 0, .int .u32 0, .int .u32 0, .int .u32 0, .int .u32 0, .int .u32 0, .int .u32 0, .int .u32 0, .int .u32 0, .int .u32 0, .int .u32 0, .int .u32 0, .int .u32 0, .int .u32 0] 36)).alloc (.cells (rowT k) 36)) (fun i _ => 16 - (intOf i).toNat)
  case atStart => exact ⟨0, by omega, rfl, rfl⟩
  case round =>
    obtain ⟨k, hk, rfl, rfl⟩ := hrel
    by_cases hlt : k < 16
    · have hcell : ((w.alloc (.cells #[.int .u32 0, .int .u32 0, .int .u32 0, .int .u32 0, .int .u32 0, .int .u32 0, .int .u32 0, .int .u32 0, .int .u32 0, .int .u32 0, .int .u32 0, .int .u32 0, .int .u32 0, .int .u32 0, .int .u32 0, .int .u32 0] 36)).alloc (.cells (rowT k) 36)).cell? ⟨w.heap.size + 1, k, none⟩ = some (.int .u32 (tabI k k)) := by
        have hh := heap_alloc_new (w.alloc (.cells #[.int .u32 0, .int .u32 0, .int .u32 0, .int .u32 0, .int .u32 0, .int .u32 0, .int .u32 0, .int .u32 0, .int .u32 0, .int .u32 0, .int .u32 0, .int .u32 0, .int .u32 0, .int .u32 0, .int .u32 0, .int .u32 0] 36)) (.cells (rowT k) 36)
        rw [World.size_alloc] at hh
        simp only [World.cell?, hh]
        exact rowT_get k k hlt
      have hset : ∀ d : Int, Hid (d = U (stn 4 (BitVec.ofNat 32 k))) → (rowT k).setIfInBounds k (.int .u32 d) = rowT (k + 1) := fun d hd => by rw [hd.out]; exact rowT_set k hlt
      generalize rowT k = R at hcell hset ⊢
      have hk16 : decide ((k : Int) < 16) = true := by simp; omega
      go_wp2
      go_loop [3, 9] (fun c i => ∃ (j : Nat) (c' : Int), j ≤ 4 ∧ i = .int .i64 j ∧ c = .int .u32 c' ∧ Hid (c' = U (stn j (BitVec.ofNat 32 k)))) (fun _ i => 4 - (intOf i).toNat)
      case atStart => exact ⟨0, k, by omega, rfl, rfl, by show (k : Int) = U (BitVec.ofNat 32 k); unfold U; rw [BitVec.toNat_ofNat]; omega⟩
      case round =>
        obtain ⟨j, c, hj, rfl, rfl, hc⟩ := hrel
        by_cases hlj : j < 4
        · go_wp2_with (go_at_call 18; refine (timesX_any c _ hc.out _).mono ?_; rintro e w1 ⟨d, rfl, hd, rfl⟩)
          go_round
          case rel => exact ⟨j + 1, d, by omega, by go_num, rfl, hd⟩
          case measure => simp [intOf]; omega
        · have hj4 : decide ((j : Int) < 4) = false := by simp; omega
          have hc4 : Hid (c = U (stn 4 (BitVec.ofNat 32 k))) := by rw [show j = 4 from by omega] at hc; exact hc
          clear hc hlj hj
          go_wp2
          exact ⟨⟨k + 1, by omega, by go_num, rfl⟩, by simp [intOf]; omega⟩
    · obtain ⟨K, hK⟩ : ∃ K : Int, K = k := ⟨_, rfl⟩
      have hK16 : decide (K < 16) = false := by simp; omega
      have hrow : rowT k = #[.int .u32 (tabI k 0), .int .u32 (tabI k 1), .int .u32 (tabI k 2), .int .u32 (tabI k 3), .int .u32 (tabI k 4), .int .u32 (tabI k 5), .int .u32 (tabI k 6), .int .u32 (tabI k 7), .int .u32 (tabI k 8), .int .u32 (tabI k 9), .int .u32 (tabI k 10), .int .u32 (tabI k 11), .int .u32 (tabI k 12), .int .u32 (tabI k 13), .int .u32 (tabI k 14), .int .u32 (tabI k 15)] := rfl
      have hT : Hid (rowT k = rowT 16) := by show rowT k = rowT 16; rw [show k = 16 from by omega]
      generalize tabI k 0 = t0 at hrow
      generalize tabI k 1 = t1 at hrow
      generalize tabI k 2 = t2 at hrow
      generalize tabI k 3 = t3 at hrow
      generalize tabI k 4 = t4 at hrow
      generalize tabI k 5 = t5 at hrow
      generalize tabI k 6 = t6 at hrow
      generalize tabI k 7 = t7 at hrow
      generalize tabI k 8 = t8 at hrow
      generalize tabI k 9 = t9 at hrow
      generalize tabI k 10 = t10 at hrow
      generalize tabI k 11 = t11 at hrow
      generalize tabI k 12 = t12 at hrow
      generalize tabI k 13 = t13 at hrow
      generalize tabI k 14 = t14 at hrow
      generalize tabI k 15 = t15 at hrow
      rw [hrow] at hT
      rw [hrow, ← hK]
      clear hrow hK hlt hk
      go_wp2
      refine bodyPost_ret (v := .agg #[.int .u32 t0, .int .u32 t1, .int .u32 t2, .int .u32 t3, .int .u32 t4, .int .u32 t5, .int .u32 t6, .int .u32 t7, .int .u32 t8, .int .u32 t9, .int .u32 t10, .int .u32 t11, .int .u32 t12, .int .u32 t13, .int .u32 t14, .int .u32 t15]) (by simp [results, Try.results15, go_sem]) rfl ⟨by rw [hT.out], ?_⟩
      exact ((Below.refl _ _).alloc (Nat.le_refl _) _).alloc (by simp) _
end Go.Proofs.Ytdokhiikglcpcaa
