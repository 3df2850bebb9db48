/- What crc.More and Sum return, whatever they are asked. -/
import Derived.Test.YtgblekdllcngnaaMem
import Derived.Test.YtgblekdllcngnaaCrct
namespace Go.Proofs.Ytgblekdllcngnaa
open Go.RowKit Go.IntWalk Crcm
set_option linter.unusedVariables false

/-- Bytes, as the plain facts have them. -/
def bt (z : Int) : BitVec 8 := BitVec.ofNat 8 z.toNat
def bts (zs : List Int) : List (BitVec 8) := zs.map bt
theorem tabI16 (j : Nat) (h : j < 16) : tabI 16 j = U (tab4 j) := if_pos h
theorem U_bt (z : Int) (h0 : 0 ≤ z) (h1 : z < 256) : z = U ((bt z).setWidth 32) := by
  unfold U bt
  rw [BitVec.toNat_setWidth, BitVec.toNat_ofNat]
  omega
/-- The table in memory. -/
theorem table_cell {W : World} {B : Nat} (h : W.heap[B]? = some (.cells (rowT 16) 121)) (j : Nat) (hj : j < 16) : W.cell? ⟨B, j, none⟩ = some (.int .u32 (U (tab4 j))) := by
  simp only [World.cell?, h]
  rw [← tabI16 j hj]
  exact rowT_get 16 j hj
theorem raw_step (c : BitVec 32) (z : Int) (zs : List Int) : raw c (bts (zs ++ [z])) = stn 4 (stn 4 (raw c (bts zs) ^^^ (bt z).setWidth 32)) := by
  unfold bts
  rw [List.map_append, List.map_cons, List.map_nil, raw_snoc]
  rfl
/-- Half a step, as the program reckons it. -/
theorem half_U (c r : Int) (x : BitVec 32) (hc : c = U x) (ht : r = c % 16) : bits .xor .u32 (c / 16) (U (tab4 r.toNat)) = U (stn 4 x) := by
  subst hc ht
  have e1 : U x / (16 : Int) = U (x >>> 4) := by have := U_shr x 4; rwa [show ((2 : Int) ^ 4) = 16 from rfl] at this
  have e2 : (U x % 16).toNat = x.toNat % 16 := by unfold U; omega
  rw [e1, e2, U_xor, ← half_step']

set_option maxRecDepth 100000 in
set_option maxHeartbeats 1000000 in
theorem more_core (a : Int) (x : BitVec 32) (ha : Hid (a = U x)) (b off len cap : Nat) (g : Nat → Int) (hm : len ≤ 9223372036854775807) (w : World) (hz : ∀ j, j < len → 0 ≤ g j ∧ g j < 256)
    (hc : ∀ W', Below w.heap.size w W' → ∀ j, j < len → W'.cell? ⟨b, off + j, none⟩ = some (.int .u8 (g j))) :
    Calls Try.prog 63 #[.int .u32 a, .slice (some ⟨b, off, none⟩) len cap] w fun e w' => ∃ d, e = .returned (.int .u32 d) ∧ Hid (d = U (more x (bts ((List.range len).map g)))) ∧ Below w.heap.size w w' := by
  have hs : IntKind.u32.signed = false := rfl
  have hmx : IntKind.u32.max = 4294967295 := rfl
  have hx : Hid (bits .xor .u32 4294967295 a = U (x ^^^ ones)) := by
    show bits .xor .u32 4294967295 a = U (x ^^^ ones)
    rw [← U_ones, ha.out, U_xor, BitVec.xor_comm]
  go_enter Try.func63, Try.ntmps63
  go_wp2_with fail
  refine (halves_any w).mono ?_
  rintro e w1 ⟨rfl, hB1⟩
  have hrow : rowT 16 = #[.int .u32 (tabI 16 0), .int .u32 (tabI 16 1), .int .u32 (tabI 16 2), .int .u32 (tabI 16 3), .int .u32 (tabI 16 4), .int .u32 (tabI 16 5), .int .u32 (tabI 16 6), .int .u32 (tabI 16 7), .int .u32 (tabI 16 8), .int .u32 (tabI 16 9), .int .u32 (tabI 16 10), .int .u32 (tabI 16 11), .int .u32 (tabI 16 12), .int .u32 (tabI 16 13), .int .u32 (tabI 16 14), .int .u32 (tabI 16 15)] := rfl
  generalize tabI 16 0 = t0 at hrow
  generalize tabI 16 1 = t1 at hrow
  generalize tabI 16 2 = t2 at hrow
  generalize tabI 16 3 = t3 at hrow
  generalize tabI 16 4 = t4 at hrow
  generalize tabI 16 5 = t5 at hrow
  generalize tabI 16 6 = t6 at hrow
  generalize tabI 16 7 = t7 at hrow
  generalize tabI 16 8 = t8 at hrow
  generalize tabI 16 9 = t9 at hrow
  generalize tabI 16 10 = t10 at hrow
  generalize tabI 16 11 = t11 at hrow
  generalize tabI 16 12 = t12 at hrow
  generalize tabI 16 13 = t13 at hrow
  generalize tabI 16 14 = t14 at hrow
  generalize tabI 16 15 = t15 at hrow
  obtain ⟨W, hW⟩ : ∃ W, Hid (W = w1.alloc (.cells #[.int .u32 t0, .int .u32 t1, .int .u32 t2, .int .u32 t3, .int .u32 t4, .int .u32 t5, .int .u32 t6, .int .u32 t7, .int .u32 t8, .int .u32 t9, .int .u32 t10, .int .u32 t11, .int .u32 t12, .int .u32 t13, .int .u32 t14, .int .u32 t15] 121)) := ⟨_, rfl⟩
  have hBW : Below w.heap.size w W := by rw [hW.out]; exact hB1.alloc hB1.size _
  have hBk : W.heap[w1.heap.size]? = some (.cells (rowT 16) 121) := by rw [hW.out, hrow]; exact heap_alloc_new _ _
  rw [hrow]
  clear hrow
  go_wp2
  rw [← hW.out]
  clear hW
  have hcW := hc W hBW
  have htab : ∀ j, j < 16 → W.cell? ⟨w1.heap.size, j, none⟩ = some (.int .u32 (U (tab4 j))) := fun j hj => table_cell hBk j hj
  generalize w1.heap.size = B at htab ⊢
  clear hBk
  go_loop [6, 14] (fun c i => ∃ (k : Nat) (c' : Int), k ≤ len ∧ i = .int .i64 k ∧ c = .int .u32 c' ∧ Hid (c' = U (raw (x ^^^ ones) (bts ((List.range k).map g))))) (fun _ i => len - (intOf i).toNat)
  case atStart => exact ⟨0, _, Nat.zero_le _, rfl, rfl, hx⟩
  case round =>
    obtain ⟨k, c, hk, rfl, rfl, hcc⟩ := hrel
    by_cases hlt : k < len
    · have hck := hcW k hlt
      have hzk := hz k hlt
      obtain ⟨c1, h1, e1⟩ : ∃ c1, bits .xor .u32 c (g k) = c1 ∧ Hid (c1 = U (raw (x ^^^ ones) (bts ((List.range k).map g)) ^^^ (bt (g k)).setWidth 32)) := ⟨_, rfl, by
        show bits .xor .u32 c (g k) = _
        rw [hcc.out]
        conv => lhs; rw [U_bt (g k) hzk.1 hzk.2]
        exact U_xor _ _⟩
      have b1 : 0 ≤ c1 := by rw [e1.out]; exact U_lo _
      have b1' : c1 < 4294967296 := by rw [e1.out]; exact U_hi _
      obtain ⟨r1, hr1, er1⟩ : ∃ r1, c1.tmod 16 = r1 ∧ Hid (r1 = c1 % 16) := ⟨_, rfl, Int.tmod_eq_emod_of_nonneg b1⟩
      have p1 : 0 ≤ r1 := by have := er1.out; omega
      have q1 : r1 < 16 := by have := er1.out; omega
      obtain ⟨c2, h2, e2⟩ : ∃ c2, bits .xor .u32 (c1 / 16) (U (tab4 r1.toNat)) = c2 ∧ Hid (c2 = U (stn 4 (raw (x ^^^ ones) (bts ((List.range k).map g)) ^^^ (bt (g k)).setWidth 32))) := ⟨_, rfl, half_U _ _ _ e1.out er1.out⟩
      have b2 : 0 ≤ c2 := by rw [e2.out]; exact U_lo _
      have b2' : c2 < 4294967296 := by rw [e2.out]; exact U_hi _
      obtain ⟨r2, hr2, er2⟩ : ∃ r2, c2.tmod 16 = r2 ∧ Hid (r2 = c2 % 16) := ⟨_, rfl, Int.tmod_eq_emod_of_nonneg b2⟩
      have p2 : 0 ≤ r2 := by have := er2.out; omega
      have q2 : r2 < 16 := by have := er2.out; omega
      obtain ⟨c3, h3, e3⟩ : ∃ c3, bits .xor .u32 (c2 / 16) (U (tab4 r2.toNat)) = c3 ∧ Hid (c3 = U (stn 4 (stn 4 (raw (x ^^^ ones) (bts ((List.range k).map g)) ^^^ (bt (g k)).setWidth 32)))) := ⟨_, rfl, half_U _ _ _ e2.out er2.out⟩
      have t1 := htab r1.toNat (by omega)
      have t2 := htab r2.toNat (by omega)
      clear htab hcW hc
      go_wp2
      go_roundw
      case rel =>
        refine ⟨k + 1, c3, by omega, by go_num, rfl, ?_⟩
        rw [List.range_succ, List.map_append, List.map_cons, List.map_nil, raw_step]
        exact e3
      case measure => simp [intOf]; omega
    · go_wp2
      go_ret
      obtain rfl : k = len := by omega
      refine ⟨_, rfl, ?_, hBW⟩
      show bits .xor .u32 4294967295 c = _
      rw [hcc.out, ← U_ones, U_xor, BitVec.xor_comm]
      rfl
set_option maxRecDepth 100000 in
set_option maxHeartbeats 1000000 in
theorem more_empty (a : Int) (x : BitVec 32) (ha : Hid (a = U x)) (ad : Option Addr) (cap : Nat) (w : World) :
    Calls Try.prog 63 #[.int .u32 a, .slice ad 0 cap] w fun e w' => ∃ d, e = .returned (.int .u32 d) ∧ Hid (d = U x) ∧ Below w.heap.size w w' := by
  have hs : IntKind.u32.signed = false := rfl
  have hmx : IntKind.u32.max = 4294967295 := rfl
  have hx : Hid (bits .xor .u32 4294967295 (bits .xor .u32 4294967295 a) = U x) := by
    show bits .xor .u32 4294967295 (bits .xor .u32 4294967295 a) = U x
    rw [← U_ones, ha.out, U_xor, U_xor, xss]
  go_enter Try.func63, Try.ntmps63
  go_wp2_with fail
  refine (halves_any w).mono ?_
  rintro e w1 ⟨rfl, hB1⟩
  have hrow : rowT 16 = #[.int .u32 (tabI 16 0), .int .u32 (tabI 16 1), .int .u32 (tabI 16 2), .int .u32 (tabI 16 3), .int .u32 (tabI 16 4), .int .u32 (tabI 16 5), .int .u32 (tabI 16 6), .int .u32 (tabI 16 7), .int .u32 (tabI 16 8), .int .u32 (tabI 16 9), .int .u32 (tabI 16 10), .int .u32 (tabI 16 11), .int .u32 (tabI 16 12), .int .u32 (tabI 16 13), .int .u32 (tabI 16 14), .int .u32 (tabI 16 15)] := rfl
  generalize tabI 16 0 = t0 at hrow
  generalize tabI 16 1 = t1 at hrow
  generalize tabI 16 2 = t2 at hrow
  generalize tabI 16 3 = t3 at hrow
  generalize tabI 16 4 = t4 at hrow
  generalize tabI 16 5 = t5 at hrow
  generalize tabI 16 6 = t6 at hrow
  generalize tabI 16 7 = t7 at hrow
  generalize tabI 16 8 = t8 at hrow
  generalize tabI 16 9 = t9 at hrow
  generalize tabI 16 10 = t10 at hrow
  generalize tabI 16 11 = t11 at hrow
  generalize tabI 16 12 = t12 at hrow
  generalize tabI 16 13 = t13 at hrow
  generalize tabI 16 14 = t14 at hrow
  generalize tabI 16 15 = t15 at hrow
  obtain ⟨W, hW⟩ : ∃ W, Hid (W = w1.alloc (.cells #[.int .u32 t0, .int .u32 t1, .int .u32 t2, .int .u32 t3, .int .u32 t4, .int .u32 t5, .int .u32 t6, .int .u32 t7, .int .u32 t8, .int .u32 t9, .int .u32 t10, .int .u32 t11, .int .u32 t12, .int .u32 t13, .int .u32 t14, .int .u32 t15] 121)) := ⟨_, rfl⟩
  have hBW : Below w.heap.size w W := by rw [hW.out]; exact hB1.alloc hB1.size _
  rw [hrow]
  clear hrow
  go_wp2
  refine wp_loop_rounds 1 ?_
  rw [rounds_succ]
  go_wp2
  go_ret
  exact ⟨_, rfl, hx, by rw [← hW.out]; exact hBW⟩
theorem gets_all (zs : List Int) : (List.range zs.length).map (fun j => zs[j]?.getD 0) = zs := by
  apply List.ext_getElem
  · simp
  · intro i h1 h2; simp [h2]
/-- crc.More. -/
theorem more_any (a : Int) (x : BitVec 32) (ha : Hid (a = U x)) (v : Value) (zs : List Int) (w : World) (h : Bts w.heap.size w v zs) :
    Calls Try.prog 63 #[.int .u32 a, v] w fun e w' => ∃ d, e = .returned (.int .u32 d) ∧ Hid (d = U (more x (bts zs))) ∧ Below w.heap.size w w' := by
  obtain ⟨⟨rfl | ⟨ad, cap, rfl⟩, rfl⟩ | ⟨b, off, cap, rfl, hb, hl, hm, hc⟩, hz⟩ := h
  · rw [show more x (bts []) = x from more_nil x]; exact more_empty a x ha none 0 w
  · rw [show more x (bts []) = x from more_nil x]; exact more_empty a x ha _ cap w
  · have := more_core a x ha b off zs.length cap (fun j => zs[j]?.getD 0) (by unfold maxLen at hm; omega) w (fun j hj => hz _ (by simp [hj])) (fun W' hW' j hj => (hW'.cell (p := ⟨b, off + j, none⟩) hb).trans (hc j hj))
    rw [gets_all] at this
    exact this
set_option maxRecDepth 100000 in
set_option maxHeartbeats 1000000 in
/-- crc.Sum. -/
theorem sum_any (v : Value) (zs : List Int) (w : World) (h : Bts w.heap.size w v zs) :
    Calls Try.prog 64 #[v] w fun e w' => ∃ d, e = .returned (.int .u32 d) ∧ Hid (d = U (sum (bts zs))) ∧ Below w.heap.size w w' := by
  go_enter Try.func64, Try.ntmps64
  go_wp2_with fail
  refine (more_any 0 0#32 rfl v zs w h).mono ?_
  rintro e w1 ⟨d, rfl, hd, hB⟩
  go_wp2
  go_ret
  exact ⟨d, rfl, hd, hB⟩
end Go.Proofs.Ytgblekdllcngnaa
