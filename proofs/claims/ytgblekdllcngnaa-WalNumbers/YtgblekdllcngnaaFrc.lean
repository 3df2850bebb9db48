/- What wal.newFrame answers. -/
import Derived.Test.YtgblekdllcngnaaFrb
import Derived.Laws.CopyOwn
import Derived.Test.YtgblekdllcngnaaIter
namespace Go.Proofs.Ytgblekdllcngnaa
open Go.RowKit Go.IntWalk Crcm Plain
set_option linter.unusedVariables false

theorem own_heap {W : World} {base g k : Nat} {xs : List Value} (h : W.ownsRow base 5 1 (.slice (some ⟨g, 0, none⟩) k k) k xs) : W.heap[g]? = some (.cells xs.toArray 5 (0, 0)) := by
  rcases h.2 with ⟨h', _⟩ | ⟨g', cap', cur, h', hb, hg, hnc, hcm, hcs, htake⟩
  · simp at h'
  · simp only [Value.slice.injEq, Option.some.injEq, Addr.mk.injEq, and_true, true_and] at h'
    obtain ⟨rfl, rfl⟩ := h'
    rw [hg, ← htake, List.take_of_length_le (by rw [Array.length_toList]; omega), Array.toArray_toList]
theorem heap_own {W : World} {base g k : Nat} {xs : List Value} (h : W.heap[g]? = some (.cells xs.toArray 5 (0, 0))) (hk : xs.length = k) (hb : base ≤ g) (hm : k ≤ maxLen) : W.ownsRow base 5 1 (.slice (some ⟨g, 0, none⟩) k k) k xs :=
  ⟨by omega, .inr ⟨g, k, xs.toArray, rfl, hb, h, Nat.le_refl _, hm, by rw [List.size_toArray]; omega, by rw [Nat.mul_one, ← hk]; exact List.take_length⟩⟩
theorem set_mid (p x q : List Value) (i : Nat) (v : Value) (hi : i < x.length) : (p ++ (x ++ q)).set (p.length + i) v = p ++ (x.set i v ++ q) := by
  rw [List.set_append_right _ _ (by omega), Nat.add_sub_cancel_left, List.set_append_left _ _ hi]
theorem be4 (n : Nat) (h : n < 4294967296) : be 4 n = [(n : Int) / 16777216, (n : Int) / 65536 % 256, (n : Int) / 256 % 256, (n : Int) % 256] := by
  rw [be_cons, be_cons, be_cons, be_cons]
  simp only [be, Nat.reducePow, List.cons.injEq, and_true]
  refine ⟨?_, ?_, ?_, ?_⟩ <;> omega

set_option maxRecDepth 100000 in
set_option maxHeartbeats 2000000 in
/-- wal.newFrame. -/
theorem newFrame_any (a : Option Addr) (len cap : Nat) (r : List Int) (w : World) (h : Bts w.heap.size w (.slice a len cap) r) (hr : okR r) :
    Calls Try.prog 28 #[.slice a len cap] w fun e w' => ∃ k : Nat, e = .returned (.slice (some ⟨w.heap.size, 0, none⟩) k k) ∧ Hid (k = 6 + len) ∧ w'.ownsRow w.heap.size 5 1 (.slice (some ⟨w.heap.size, 0, none⟩) k k) k ((frm r).map (Value.int .u8)) ∧ Below w.heap.size w w' := by
  obtain ⟨i0, hi, hz0, hz1, hz2⟩ := info_parts Try.info5
  have hlen := h.len
  obtain ⟨hr1, hr2, hr3⟩ := hr
  have hl1 : 1 ≤ len := by omega
  have hl2 : len ≤ 1000 := by omega
  have HL : Hid (len = r.length) := hlen
  obtain ⟨b, off, rfl, hc⟩ : ∃ b off, a = some ⟨b, off, none⟩ ∧ b < w.heap.size ∧ ∀ j, j < r.length → w.cell? ⟨b, off + j, none⟩ = some (.int .u8 (r[j]?.getD 0)) := by
    obtain ⟨⟨e | ⟨ad, c, e⟩, hn⟩ | ⟨b', off', c, e, hb, h1, h2, h3⟩, _⟩ := id h
    · subst hn; simp at hr1
    · subst hn; simp at hr1
    · simp only [Value.slice.injEq] at e; exact ⟨b', off', e.1, hb, h3⟩
  clear hlen
  obtain ⟨k, hk⟩ : ∃ k, k = 6 + len := ⟨_, rfl⟩
  have HKI : Hid ((6 : Int) + (len : Int) = (k : Int)) := by show (6 : Int) + (len : Int) = (k : Int); omega
  have HK : Hid (k = 6 + len) := hk
  have hkb : k ≤ 1006 := by omega
  have hk6 : (6 : Int) ≤ k := by omega
  clear hk
  go_enter Try.func28, Try.ntmps28
  go_wp2_with (at_make; refine wpList_make_full _ rfl _ _ 58 rfl w.heap.size 5 i0 (.int .u8 0) 1 Try.underlying58 hi hz0 hz1 .i64 .i64 _ _ k rfl rfl (by rw [HKI.out]) (by rw [HKI.out]) (by rw [hz2]; omega) (by unfold maxLen; omega) (Nat.le_refl _) ?_; intro w1 hown hgrow; rw [madeCells_u8] at hown; have hB1 := (Below.refl w.heap.size w).grown hgrow (Nat.le_refl _) (fun _ e => by cases e); have c0 : w1.cell? ⟨w.heap.size, 0, none⟩ = some (.int .u8 0) := (by rw [hown.cellAt 0 (by omega), List.getElem?_replicate, if_pos (by omega)]); have f0 := hown.frozenAt 0; have c1 : w1.cell? ⟨w.heap.size, 1, none⟩ = some (.int .u8 0) := (by rw [hown.cellAt 1 (by omega), List.getElem?_replicate, if_pos (by omega)]); have f1 := hown.frozenAt 1; have hs := (((hown.stored 0 (.int .u8 ((len : Int) / 256))).1).stored 1 (.int .u8 ((len : Int) % 256))).1; have hB2 := (hB1.setCell (p := ⟨w.heap.size, 0, none⟩) (Nat.le_refl _) (.int .u8 ((len : Int) / 256))).setCell (p := ⟨w.heap.size, 1, none⟩) (Nat.le_refl _) (.int .u8 ((len : Int) % 256)))
  obtain ⟨W2, hW2⟩ : ∃ W2, (w1.setCell ⟨w.heap.size, 0, none⟩ (.int .u8 ((len : Int) / 256))).setCell ⟨w.heap.size, 1, none⟩ (.int .u8 ((len : Int) % 256)) = W2 := ⟨_, rfl⟩
  rw [hW2] at hs hB2 ⊢
  clear c0 c1 f0 f1 hown hB1 hgrow hW2 w1
  have hLs : ((List.replicate k (Value.int .u8 0)).set 0 (.int .u8 ((len : Int) / 256))).set 1 (.int .u8 ((len : Int) % 256)) = [.int .u8 ((len : Int) / 256), .int .u8 ((len : Int) % 256)] ++ (List.replicate 4 (.int .u8 0) ++ List.replicate len (.int .u8 0)) := by
    rw [HK.out, show 6 + len = (len + 4) + 2 from by omega, List.replicate_succ, List.replicate_succ, List.replicate_append_replicate, Nat.add_comm 4 len]
    rfl
  rw [hLs] at hs
  clear hLs
  have hH := own_heap hs
  have hcs : W2.heap.size = W2.heap.size := rfl
  refine (record_any (some ⟨w.heap.size, 0, none⟩) k k hk6 (Nat.le_refl _) W2).mono ?_
  rintro e W2' ⟨rfl, hWe⟩
  subst hWe
  have hcA : cutA (some ⟨w.heap.size, 0, none⟩) k 6 = some ⟨w.heap.size, 6, none⟩ := by
    have : ¬ k = 6 := by have := HK.out; omega
    unfold cutA; rw [if_neg this]; simp [Addr.add]
  rw [hcA]
  clear hcA
  have hsrc : ∀ j v, (r.map (Value.int .u8))[j]? = some v → W2.cell? ((⟨b, off, none⟩ : Addr).add j) = some v := by
    intro j v hj
    have hadd : (⟨b, off, none⟩ : Addr).add j = ⟨b, off + j, none⟩ := by unfold Addr.add; split <;> simp_all
    rw [List.getElem?_map] at hj
    rcases Nat.lt_or_ge j r.length with hlt | hge
    · rw [List.getElem?_eq_getElem hlt] at hj
      simp only [Option.map_some, Option.some.injEq] at hj
      rw [hadd, hB2.cell (p := ⟨b, off + j, none⟩) hc.1, hc.2 j hlt, List.getElem?_eq_getElem hlt, ← hj]
      rfl
    · rw [List.getElem?_eq_none hge] at hj; cases hj
  have hrun := run_copy_row (P := Try.prog) W2 32 32 3 5 w.heap.size 6 (k - 6) (k - 6) ⟨b, off, none⟩ len cap _ 5 (r.map (Value.int .u8)) Try.underlying32 (by rw [hi]; simp [hz1]) hH (by rw [List.length_map, ← HL.out]; exact (Nat.min_eq_left (by have := HK.out; omega)).symm) hsrc (by have := HL.out; simp; omega) (by intro v hv; obtain ⟨z, _, rfl⟩ := List.mem_map.1 hv; rfl)
  have hrow : ([Value.int .u8 ((len : Int) / 256), Value.int .u8 ((len : Int) % 256)] ++ (List.replicate 4 (Value.int .u8 0) ++ List.replicate len (Value.int .u8 0))).toArray.toList.take 6 ++ r.map (Value.int .u8) ++ ([Value.int .u8 ((len : Int) / 256), Value.int .u8 ((len : Int) % 256)] ++ (List.replicate 4 (Value.int .u8 0) ++ List.replicate len (Value.int .u8 0))).toArray.toList.drop (6 + (r.map (Value.int .u8)).length) = [Value.int .u8 ((len : Int) / 256), Value.int .u8 ((len : Int) % 256)] ++ (List.replicate 4 (Value.int .u8 0) ++ r.map (Value.int .u8)) := by
    rw [List.toList_toArray, List.length_map, ← HL.out, List.drop_of_length_le (by simp; omega), List.append_nil]
    rfl
  rw [hrow] at hrun
  have hH3 := setRow_heap W2 w.heap.size _ ([Value.int .u8 ((len : Int) / 256), Value.int .u8 ((len : Int) % 256)] ++ (List.replicate 4 (Value.int .u8 0) ++ r.map (Value.int .u8))).toArray 5 _ hH
  have hB3 := below_setRow hB2 (Nat.le_refl _) ([Value.int .u8 ((len : Int) / 256), Value.int .u8 ((len : Int) % 256)] ++ (List.replicate 4 (Value.int .u8 0) ++ r.map (Value.int .u8))).toArray
  clear hrow hsrc hH hs hB2
  obtain ⟨W3, hW3⟩ : ∃ W3, W2.setRow w.heap.size ([Value.int .u8 ((len : Int) / 256), Value.int .u8 ((len : Int) % 256)] ++ (List.replicate 4 (Value.int .u8 0) ++ r.map (Value.int .u8))).toArray = W3 := ⟨_, rfl⟩
  rw [hW3] at hrun hH3 hB3
  clear hW3
  have hr3 := heap_own (base := w.heap.size) hH3 (k := k) (by have := HL.out; have := HK.out; simp; omega) (Nat.le_refl _) (by unfold maxLen; omega)
  clear hH3
  have hm : [Value.int .u8 ((len : Int) / 256), Value.int .u8 ((len : Int) % 256)] ++ (List.replicate 4 (Value.int .u8 0) ++ r.map (Value.int .u8)) = (([(len : Int) / 256, (len : Int) % 256] ++ ([0, 0, 0, 0] ++ r)).map (Value.int .u8)) := by simp [List.replicate]
  rw [hm] at hr3
  have hzz : ∀ z ∈ ([(len : Int) / 256, (len : Int) % 256] ++ ([0, 0, 0, 0] ++ r)), 0 ≤ z ∧ z < 256 := by
    intro z hz
    simp only [List.mem_append, List.mem_cons, List.not_mem_nil, or_false] at hz
    rcases hz with (rfl | rfl) | (rfl | rfl | rfl | rfl) | hz
    · omega
    · omega
    · omega
    · omega
    · omega
    · omega
    · exact (by assumption : ∀ z ∈ r, 0 ≤ z ∧ z < 256) z hz
  have hbt := Bts.of_own hr3 hzz
  go_wp2_with fail
  refine (fsum_any _ k k _ W3 hbt (by simp)).mono ?_
  rintro e w4 ⟨d, rfl, hd, hB4⟩
  have hds : fsum ([(len : Int) / 256, (len : Int) % 256] ++ ([0, 0, 0, 0] ++ r)) = rsum r := by
    unfold rsum; rw [← HL.out]; rfl
  rw [hds] at hd
  have hr4 := hr3.kept (below_grown hB4) (.inr (by simp [Value.ownBlock]))
  rw [← hm] at hr4
  have hB5 := hB3.trans (hB4.mono hB3.size)
  clear hbt hzz hm hr3 hB3 hrun hds hB4
  have hU0 := U_lo (rsum r)
  have hU1 := U_hi (rsum r)
  have hd0 : 0 ≤ d := by rw [hd.out]; exact hU0
  have hd1 : d < 4294967296 := by rw [hd.out]; exact hU1
  go_wp2_with fail
  go_loopw [27] (fun i wr => ∃ j : Nat, j ≤ 4 ∧ i = .int .i64 j ∧ wr.ownsRow w.heap.size 5 1 (.slice (some ⟨w.heap.size, 0, none⟩) k k) k ([Value.int .u8 ((len : Int) / 256), Value.int .u8 ((len : Int) % 256)] ++ ((List.replicate (4 - j) 0 ++ be j d.toNat).map (Value.int .u8) ++ r.map (Value.int .u8))) ∧ Below w.heap.size w wr) (fun i _ => 4 - (intOf i).toNat)
  case atStart => exact ⟨0, by omega, rfl, by simpa [be, List.replicate] using hr4, hB5⟩
  case round =>
    obtain ⟨j, hj, rfl, hrow, hB⟩ := hrel
    by_cases hlt : j < 4
    · have hck : wr.cell? ⟨w.heap.size, 5 - j, none⟩ = some (.int .u8 0) := by
        rw [hrow.cellAt (5 - j) (by have := HK.out; omega), List.getElem?_append_right (by simp; omega), List.getElem?_append_left (by simp [be_length]; omega), List.getElem?_map, List.getElem?_append_left (by simp; omega), List.getElem?_replicate, if_pos (by simp; omega)]
        rfl
      have hf := hrow.frozenAt (5 - j)
      have hj4 : decide ((j : Int) < 4) = true := by simp; omega
      have hjn : (5 : Int) - (j : Int) = ((5 - j : Nat) : Int) := by omega
      have hidx : (5 : Int) - (j : Int) < (k : Int) := by omega
      have HJ : Hid (j < 4) := hlt
      go_wp2
      go_roundw
      case rel =>
        have hs := hrow.stored (5 - j) (.int .u8 (d / 2 ^ (8 * j) % 256))
        have e := set_mid [Value.int .u8 ((len : Int) / 256), Value.int .u8 ((len : Int) % 256)] ((List.replicate (4 - j) 0 ++ be j d.toNat).map (Value.int .u8)) (r.map (Value.int .u8)) (4 - 1 - j) (.int .u8 (d / 2 ^ (8 * j) % 256)) (by simp [be_length]; omega)
        rw [set_step 4 j d hd0 HJ.out] at e
        have hix : 5 - j = [Value.int .u8 ((len : Int) / 256), Value.int .u8 ((len : Int) % 256)].length + (4 - 1 - j) := by simp; omega
        refine ⟨j + 1, by omega, by go_num, ?_, hB.setCell (p := ⟨w.heap.size, 5 - j, none⟩) (Nat.le_refl _) _⟩
        rw [← e, ← hix]
        exact hs.1
      case measure => simp [intOf]; omega
    · obtain ⟨K, hK⟩ : ∃ K : Int, K = j := ⟨_, rfl⟩
      have hK4 : decide (K < 4) = false := by simp; omega
      have hj4 : j = 4 := by omega
      rw [hj4] at hrow
      rw [← hK]
      clear hK hlt hj hj4
      go_wp2
      go_ret
      refine ⟨k, rfl, HK, ?_, hB⟩
      have e : (frm r).map (Value.int .u8) = [Value.int .u8 ((len : Int) / 256), Value.int .u8 ((len : Int) % 256)] ++ ((List.replicate (4 - 4) 0 ++ be 4 d.toNat).map (Value.int .u8) ++ r.map (Value.int .u8)) := by
        rw [be4 d.toNat (by omega), Int.toNat_of_nonneg hd0, hd.out, HL.out]
        simp [frm]
      rw [e]
      exact hrow
end Go.Proofs.Ytgblekdllcngnaa
