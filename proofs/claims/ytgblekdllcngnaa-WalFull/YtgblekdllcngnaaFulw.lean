/- The walk of WalFull. -/
import Derived.Test.YtgblekdllcngnaaFul
namespace Go.Proofs.Ytgblekdllcngnaa
open Go.RowKit Go.Shelf Plain Go.IntWalk
set_option linter.unusedVariables false

theorem FI.next {M : Nat → Prop} {w : World} {lb sb bm s n : Nat} {F : Int} (h : FI M w lb sb bm s n F) : Calls Try.prog 16 #[.pointer (some ⟨lb, 0, none⟩)] w fun r w' => r = .returned (.int .i64 ((s + n : Nat) : Int)) ∧ w' = w := by
  obtain ⟨sv, l, root, size, hL, hN, hs0, hs1, hs2⟩ := h
  exact next_any w hL
theorem FI.first {M : Nat → Prop} {w : World} {lb sb bm s n : Nat} {F : Int} (h : FI M w lb sb bm s n F) (hn : 0 < n) : Calls Try.prog 14 #[.pointer (some ⟨lb, 0, none⟩)] w fun r w' => r = .returned (.int .i64 (s : Int)) ∧ w' = w := by
  obtain ⟨sv, l, root, size, hL, hN, hs0, hs1, hs2⟩ := h
  have hf : fst (stR s n) ((s + n : Nat) : Int) = s := by
    obtain ⟨k, rfl⟩ : ∃ k, n = k + 1 := ⟨n - 1, by omega⟩
    simp [fst, stR, List.range_succ_eq_map]
  have := lfirst_any w hL
  rwa [hf] at this
theorem FI.segs {M : Nat → Prop} {w : World} {lb sb bm s n : Nat} {F : Int} (h : FI M w lb sb bm s n F) : Calls Try.prog 20 #[.pointer (some ⟨lb, 0, none⟩)] w fun r w' => r = .returned (.int .i64 (n : Int)) ∧ w' = w := by
  obtain ⟨sv, l, root, size, hL, hN, hs0, hs1, hs2⟩ := h
  have := lsegs_any w hL
  rwa [stR_length] at this
theorem FI.disk {M : Nat → Prop} {w : World} {lb sb bm s n : Nat} {F : Int} (h : FI M w lb sb bm s n F) : Calls Try.prog 21 #[.pointer (some ⟨sb, 0, none⟩)] w fun r w' => ∃ g cap, r = .returned (.slice (some ⟨g, 0, none⟩) n cap) ∧ FI M w' lb sb bm s n F ∧ Kpt M w w' := by
  obtain ⟨sv, l, root, size, hL, hN, hs0, hs1, hs2⟩ := h
  refine (segments_any w hL.dsk).mono ?_
  rintro r w' ⟨g, cap, rfl, _, hg⟩
  rw [hN.1]
  exact ⟨g, cap, rfl, ⟨sv, l, root, size, hL.keep hg, hN, hs0, hs1, hs2⟩, hL.kpt0 hg⟩
set_option maxRecDepth 100000 in
set_option maxHeartbeats 4000000 in
theorem full_walk (b1 at_ : Int) (hb0 : 0 ≤ b1) (hb1 : b1 < 256) (ha0 : -9223372036854775808 ≤ at_) (ha1 : at_ < 9223372036854775808) (w : World) :
    Calls Try.prog 6 #[.int .u8 b1, .int .i64 at_] w fun e w' => e = .returned (.bool true) ∧ Below w.heap.size w w' := by
  obtain ⟨i0, hi, hz0, hz1, hz2⟩ := info_parts Try.info5
  go_enter Try.func6, Try.ntmps6
  go_wp2_with fail
  refine (new_any w).mono ?_
  rintro e w1 ⟨sb, bm, rfl, hsb, hbm, hD1, hg1⟩
  have hs1 := hg1.size
  have hD1' : Dsk w1 sb bm (fun k => k ≠ sb ∧ k ≠ bm) [] [] := hD1.mono (fun k hk => hk.elim) (fun e => e.1 rfl) (fun e => e.2 rfl)
  go_wp2_with fail
  refine (open_fresh w1 (fun k => k < w.heap.size) (fun k hk => by omega) (by omega) (by omega) hD1').mono ?_
  rintro e w2 ⟨lb, sv, rfl, hlb, hL2, hK2⟩
  have hK02 : Kpt (fun k => k < w.heap.size) w w2 := (Kpt.of hg1 (fun k hk => hk) (by simp)).trans hK2
  go_wp2_with fail
  refine (alive_any _).mono ?_
  rintro e w3 ⟨rfl, hB3⟩
  have hL3 := hL2.keep (below_grown hB3)
  have hK03 := hK02.trans (hL2.kpt0 (below_grown hB3))
  go_wp2_with (at_make; refine wpList_make_full _ rfl _ _ 32 rfl w3.heap.size 5 i0 (.int .u8 0) 1 Try.underlying32 hi hz0 hz1 .i64 .i64 _ _ 1000 rfl rfl (by omega) (by omega) (by rw [hz2]; omega) (by unfold maxLen; omega) (Nat.le_refl _) ?_; intro w4 hown hgrow; rw [madeCells_u8] at hown; have c0 : w4.cell? ⟨w3.heap.size, 0, none⟩ = some (.int .u8 0) := (by rw [hown.cellAt 0 (by omega), List.getElem?_replicate, if_pos (by omega)]); have f0 := hown.frozenAt 0)
  have hst := hown.stored 0 (.int .u8 b1)
  have hg35 : w3.grownBy (w4.setCell ⟨w3.heap.size, 0, none⟩ (.int .u8 b1)) none := grown_new hgrow hst.2 (Nat.le_refl _)
  have hL5 := hL3.more hg35
  have hK05 := hK03.trans (hL3.kpt0 hg35)
  have hrow5 := hst.1
  have hset : (List.replicate 1000 (Value.int .u8 0)).set 0 (.int .u8 b1) = (b1 :: List.replicate 999 0).map (Value.int .u8) := by
    rw [show (1000 : Nat) = 999 + 1 from rfl, List.replicate_succ, List.set_cons_zero, List.map_cons, List.map_replicate]
  rw [hset] at hrow5
  have hok : okR (b1 :: List.replicate 999 0) := by
    refine ⟨by simp, by simp, fun z hz => ?_⟩
    rcases List.mem_cons.1 hz with rfl | hz
    · exact ⟨hb0, hb1⟩
    · have := (List.mem_replicate.1 hz).2; omega
  have hbt := Bts.of_own hrow5 hok.2.2
  have hlt5 := (hrow5.lt w3.heap.size rfl).2
  have hFI : FI (And_ (fun k => k < w.heap.size) w3 (w4.setCell ⟨w3.heap.size, 0, none⟩ (.int .u8 b1))) (w4.setCell ⟨w3.heap.size, 0, none⟩ (.int .u8 b1)) lb sb bm 0 0 0 := ⟨_, _, _, _, hL5, ⟨rfl, fun k => by simp [getS]⟩, by omega, by omega, .inl rfl⟩
  have hMb : And_ (fun k => k < w.heap.size) w3 (w4.setCell ⟨w3.heap.size, 0, none⟩ (.int .u8 b1)) w3.heap.size := .inr ⟨Nat.le_refl _, hlt5⟩
  have hMw : ∀ k, k < w.heap.size → And_ (fun k => k < w.heap.size) w3 (w4.setCell ⟨w3.heap.size, 0, none⟩ (.int .u8 b1)) k := fun k hk => .inl hk
  have hBw5 : Below w.heap.size w (w4.setCell ⟨w3.heap.size, 0, none⟩ (.int .u8 b1)) := hK05.below fun k hk => hk
  go_wp2_with fail
  generalize w4.setCell ⟨w3.heap.size, 0, none⟩ (.int .u8 b1) = w5 at *
  generalize And_ (fun k => k < w.heap.size) w3 w5 = M at *
  generalize w3.heap.size = B at *
  generalize b1 :: List.replicate 999 0 = r at *
  clear hL5 hL3 hL2 hK02 hK03 hK05 hK2 hD1 hD1' hst hset c0 f0 hown hgrow hg35 hB3 hg1 hrow5 hz0 hz1 hz2 hi
  have HBT : Hid (∀ W, Kpt M w5 W → Bts W.heap.size W (.slice (some ⟨B, 0, none⟩) 1000 1000) r) := fun W hW => hbt.kpt hW (fun b off len cap e => by simp only [Value.slice.injEq, Option.some.injEq, Addr.mk.injEq] at e; rw [← e.1.1]; exact hMb)
  have HK5 := Kpt.refl M w5
  clear hbt hlt5
  go_loopw [9] (fun i wr => ∃ n : Nat, n ≤ 100 ∧ i = .int .i64 n ∧ (∃ F, FI M wr lb sb bm 0 n F) ∧ Kpt M w5 wr) (fun i _ => 100 - (intOf i).toNat)
  case atStart => exact ⟨0, by omega, rfl, ⟨_, hFI⟩, HK5⟩
  case round =>
    obtain ⟨n, hn, rfl, ⟨F, hFn⟩, hKn⟩ := hrel
    by_cases hlt : n < 100
    · have hd : decide ((n : Int) < 100) = true := by simp; omega
      have hAp := full_append hFn hlt (by omega) _ 1000 r (HBT.out wr hKn) hok
      rw [Nat.zero_add] at hAp
      go_wp2_with fail
      refine hAp.mono ?_
      rintro e w6 ⟨rfl, hF6, hK6⟩
      go_wp2
      go_roundw
      case rel => exact ⟨n + 1, by omega, by go_num, ⟨_, hF6⟩, hKn.trans hK6⟩
      case measure => simp [intOf]; omega
    · obtain ⟨K, hK⟩ : ∃ K : Int, K = n := ⟨_, rfl⟩
      have hK4 : decide (K < 100) = false := by simp; omega
      have hn4 : n = 100 := by omega
      rw [hn4] at hFn
      rw [← hK]
      clear hK hlt hn hn4
      go_wp2_with fail
      refine (pick_any at_ 20 ha0 ha1 (by omega) (by omega) _).mono ?_
      rintro e w6 ⟨k, rfl, hk0, hk1, rfl⟩
      have hwk : IntKind.i64.wrap (1 + k) = 1 + k := by rw [IntKind.wrap_i64]; omega
      go_wp2_with fail
      refine (full_full hFn _ 1000 r (HBT.out _ hKn) hok).mono ?_
      rintro e w7 ⟨rfl, hF7, hK7⟩
      go_wp2_with fail
      refine (hF7.next).mono ?_
      rintro e w8 ⟨rfl, rfl⟩
      go_wp2_with fail
      refine (full_force hF7 (by omega) (by omega) (by omega)).mono ?_
      rintro e w9 ⟨rfl, hF9, hK9⟩
      obtain ⟨m, hm⟩ : ∃ m : Nat, 1 + k = (m : Int) := ⟨(1 + k).toNat, by omega⟩
      have hm0 : 0 < m := by omega
      have hm1 : m ≤ 20 := by omega
      rw [hm]
      have HKM : Hid (1 + k = (m : Int)) := hm
      clear hwk hm
      have hKs := (hKn.trans hK7).trans hK9
      go_wp2_with fail
      refine (full_truncate hF9 (by omega) (by omega) m hm0 (by omega) (m : Int) (by show (m : Int) = _; omega)).mono ?_
      rintro e w10 ⟨rfl, hF10, hK10⟩
      rw [Nat.zero_add] at hF10
      have hKt := hKs.trans hK10
      go_wp2_with fail
      refine (hF10.first (by omega)).mono ?_
      rintro e w11 ⟨rfl, rfl⟩
      go_wp2_with fail
      go_loopw [15] (fun i wr => ∃ j : Nat, j ≤ m ∧ i = .int .i64 j ∧ (∃ F, FI M wr lb sb bm m (100 - m + j) F) ∧ Kpt M w5 wr) (fun i _ => m - (intOf i).toNat)
      case atStart => exact ⟨0, by omega, rfl, ⟨_, hF10⟩, hKt⟩
      case round =>
        obtain ⟨j, hj, rfl, ⟨F', hFj⟩, hKj⟩ := hrel
        by_cases hlj : j < m
        · have hdj : decide ((j : Int) < (m : Int)) = true := by simp; omega
          have hAp := full_append hFj (by omega) (by omega) _ 1000 r (HBT.out wr hKj) hok
          rw [show ((m + (100 - m + j) : Nat) : Int) = 100 + (j : Int) by omega] at hAp
          go_wp2_with fail
          refine hAp.mono ?_
          rintro e w12 ⟨rfl, hF12, hK12⟩
          go_wp2
          go_roundw
          case rel => exact ⟨j + 1, by omega, by go_num, ⟨_, hF12⟩, hKj.trans hK12⟩
          case measure => simp [intOf]; omega
        · obtain ⟨J, hJ⟩ : ∃ J : Int, J = j := ⟨_, rfl⟩
          have hJ4 : decide (J < (m : Int)) = false := by simp; omega
          rw [show 100 - m + j = 100 by omega] at hFj
          rw [← hJ]
          clear hJ hlj hj
          have hNx := hFj.next
          go_wp2_with fail
          refine (full_full hFj _ 1000 r (HBT.out _ hKj) hok).mono ?_
          rintro e w13 ⟨rfl, hF13, hK13⟩
          have hNx := hF13.next
          rw [show ((m + 100 : Nat) : Int) = 100 + (m : Int) by omega] at hNx
          go_wp2_with fail
          refine hNx.mono ?_
          rintro e w14 ⟨rfl, rfl⟩
          go_wp2_with fail
          refine (hF13.disk).mono ?_
          rintro e w15 ⟨g, cap, rfl, hF15, hK15⟩
          go_wp2_with fail
          refine (hF15.segs).mono ?_
          rintro e w16 ⟨rfl, rfl⟩
          go_wp2
          go_ret
          exact ⟨rfl, hBw5.trans (((hKj.trans hK13).trans hK15).below hMw)⟩
end Go.Proofs.Ytgblekdllcngnaa
