/- The walk of the law CrcLinear: whatever the three lists of bytes, it answers true, and nothing that lay in memory has turned. -/
import Derived.Test.YtdokhiikglcpcaaLater
namespace Go.Proofs.Ytdokhiikglcpcaa
open Go.RowKit Go.IntWalk Crcm
set_option linter.unusedVariables false

theorem ofInt_bt (z : Int) (h0 : 0 ≤ z) : BitVec.ofInt 8 z = bt z := by
  obtain ⟨n, rfl⟩ := Int.eq_ofNat_of_zero_le h0
  unfold bt
  rw [BitVec.ofInt_natCast, Int.toNat_natCast]
/-- Bytes together, bit by bit. -/
theorem xor8 (y z : Int) (hy : 0 ≤ y) (hz : 0 ≤ z) : bt (bits .xor .u8 y z) = bt y ^^^ bt z ∧ 0 ≤ bits .xor .u8 y z ∧ bits .xor .u8 y z < 256 := by
  have e : bits .xor .u8 y z = ((bt y ^^^ bt z).toNat : Int) := by
    unfold bits
    show IntKind.wrap .u8 ((BitVec.ofInt 8 y ^^^ BitVec.ofInt 8 z).toNat : Int) = _
    rw [ofInt_bt y hy, ofInt_bt z hz, IntKind.wrap_u8]
    have := (bt y ^^^ bt z).isLt
    omega
  rw [e]
  have hl := (bt y ^^^ bt z).isLt
  refine ⟨?_, by omega, by omega⟩
  unfold bt
  apply BitVec.eq_of_toNat_eq
  rw [BitVec.toNat_ofNat, Int.toNat_natCast]
  exact Nat.mod_eq_of_lt hl
theorem three_bts (f g h : Nat → Int) (hf : ∀ j, 0 ≤ f j) (hg : ∀ j, 0 ≤ g j) (hh : ∀ j, 0 ≤ h j) : ∀ n,
    bts ((List.range n).map fun j => bits .xor .u8 (bits .xor .u8 (f j) (g j)) (h j)) = List.zipWith (fun p q => p ^^^ q) (List.zipWith (fun p q => p ^^^ q) (bts ((List.range n).map f)) (bts ((List.range n).map g))) (bts ((List.range n).map h)) := by
  intro n
  apply List.ext_getElem
  · simp [bts]
  · intro i h1 h2
    have e1 := xor8 (f i) (g i) (hf i) (hg i)
    have e2 := xor8 (bits .xor .u8 (f i) (g i)) (h i) e1.2.1 (hh i)
    simp [bts, e2.1, e1.1]

set_option maxRecDepth 100000 in
set_option maxHeartbeats 2000000 in
theorem linear_out (a b c : Option Addr) (la lb lc ca cb cc : Nat) (w : World) (M N : Int) (hM : (if lb < la then (lb : Int) else (la : Int)) = M) (hN : (if (lc : Int) < M then (lc : Int) else M) = N) (h : decide (3000 < N) = true) :
    Calls Try.prog 7 #[.slice a la ca, .slice b lb cb, .slice c lc cc] w fun e w' => e = .returned (.bool true) ∧ Below w.heap.size w w' := by
  go_enter Try.func7, Try.ntmps7
  go_wp2_with fail
  refine (alive_any w).mono ?_
  rintro e w1 ⟨rfl, hB1⟩
  go_wp2
  go_ret
  exact ⟨rfl, hB1⟩

set_option maxRecDepth 100000 in
set_option maxHeartbeats 4000000 in
theorem linear_in (ba oa bb ob bc oc la lb lc ca cb cc : Nat) (xs ys zs : List Int) (w : World)
    (hx : Bts w.heap.size w (.slice (some ⟨ba, oa, none⟩) la ca) xs) (hy : Bts w.heap.size w (.slice (some ⟨bb, ob, none⟩) lb cb) ys) (hz : Bts w.heap.size w (.slice (some ⟨bc, oc, none⟩) lc cc) zs)
    (M N : Int) (hM : (if lb < la then (lb : Int) else (la : Int)) = M) (hN : (if (lc : Int) < M then (lc : Int) else M) = N) (h : decide (3000 < N) = false)
    (f g h : Nat → Int) (h0 : 0 < N) (h3 : N ≤ 3000) (n1 : N ≤ la) (n2 : N ≤ lb) (n3 : N ≤ lc)
    (bba : ba < w.heap.size) (bbb : bb < w.heap.size) (bbc : bc < w.heap.size)
    (ka : ∀ j : Nat, (j : Int) < N → w.cell? ⟨ba, oa + j, none⟩ = some (.int .u8 (f j))) (kb : ∀ j : Nat, (j : Int) < N → w.cell? ⟨bb, ob + j, none⟩ = some (.int .u8 (g j))) (kc : ∀ j : Nat, (j : Int) < N → w.cell? ⟨bc, oc + j, none⟩ = some (.int .u8 (h j)))
    (hf : ∀ j, 0 ≤ f j ∧ f j < 256) (hg : ∀ j, 0 ≤ g j ∧ g j < 256) (hh : ∀ j, 0 ≤ h j ∧ h j < 256) 
    (ef : (List.range N.toNat).map f = xs.take N.toNat) (eg : (List.range N.toNat).map g = ys.take N.toNat) (eh : (List.range N.toNat).map h = zs.take N.toNat) :
    Calls Try.prog 7 #[.slice (some ⟨ba, oa, none⟩) la ca, .slice (some ⟨bb, ob, none⟩) lb cb, .slice (some ⟨bc, oc, none⟩) lc cc] w fun e w' => e = .returned (.bool true) ∧ Below w.heap.size w w' := by
  go_enter Try.func7, Try.ntmps7
  go_wp2
  go_loopw [8, 9] (fun v i wr => ∃ k : Nat, (k : Int) ≤ N ∧ i = .int .i64 k ∧ wr.ownsRow w.heap.size 5 1 v k (((List.range k).map fun j => bits .xor .u8 (bits .xor .u8 (f j) (g j)) (h j)).map (Value.int .u8)) ∧ Below w.heap.size w wr) (fun _ i _ => N.toNat - (intOf i).toNat)
  case atStart => exact ⟨0, by omega, rfl, World.ownsRow_nil _ _ _ _, Below.refl _ _⟩
  case round =>
    obtain ⟨k, hk, rfl, hrow, hB⟩ := hrel
    by_cases hlt : (k : Int) < N
    · have ca' := (hB.cell (p := ⟨ba, oa + k, none⟩) bba).trans (ka k hlt)
      have cb' := (hB.cell (p := ⟨bb, ob + k, none⟩) bbb).trans (kb k hlt)
      have cc' := (hB.cell (p := ⟨bc, oc + k, none⟩) bbc).trans (kc k hlt)
      have i1 : (k : Int) < (la : Int) := by omega
      have i2 : (k : Int) < (lb : Int) := by omega
      have i3 : (k : Int) < (lc : Int) := by omega
      have i0 : (0 : Int) ≤ (k : Int) := by omega
      have hs := hB.size
      obtain ⟨X1, eX1, pX1⟩ : ∃ X, bits .xor .u8 (f k) (g k) = X ∧ 0 ≤ X := ⟨_, rfl, (xor8 _ _ (hf k).1 (hg k).1).2.1⟩
      obtain ⟨X, eX, pX⟩ : ∃ X, bits .xor .u8 X1 (h k) = X ∧ (0 ≤ X ∧ X < 256) := ⟨_, rfl, (xor8 _ _ pX1 (hh k).1).2⟩
      have hxl : ((List.range k).map fun j => bits .xor .u8 (bits .xor .u8 (f j) (g j)) (h j)).length = k := by simp
      have hxb : ∀ z ∈ ((List.range k).map fun j => bits .xor .u8 (bits .xor .u8 (f j) (g j)) (h j)), 0 ≤ z ∧ z < 256 := by
        intro z hz
        obtain ⟨j, _, rfl⟩ := List.mem_map.1 hz
        exact (xor8 _ _ (xor8 _ _ (hf j).1 (hg j).1).2.1 (hh j).1).2
      have hxs : ((List.range k).map fun j => bits .xor .u8 (bits .xor .u8 (f j) (g j)) (h j)) ++ [X] = ((List.range (k + 1)).map fun j => bits .xor .u8 (bits .xor .u8 (f j) (g j)) (h j)) := by
        rw [List.range_succ, List.map_append, List.map_cons, List.map_nil, eX1, eX]
      generalize ((List.range k).map fun j => bits .xor .u8 (bits .xor .u8 (f j) (g j)) (h j)) = L at hrow hxl hxs hxb
      go_wp2_with fail
      go_region_held3 (fun w' => w'.cell? ⟨ba, oa + k, none⟩ = some (.int .u8 (f k)) ∧ w'.cell? ⟨bb, ob + k, none⟩ = some (.int .u8 (g k)) ∧ w'.cell? ⟨bc, oc + k, none⟩ = some (.int .u8 (h k)))
        (first
          | go_keep
          | (go_split_ands
             refine ⟨?_, ?_, ?_⟩
             · (rw [hg4.cell_far _ (by simp; omega) (fun e => by have := (hrow.lt _ e.symm).1; simp at this; omega)]; assumption)
             · (rw [hg4.cell_far _ (by simp; omega) (fun e => by have := (hrow.lt _ e.symm).1; simp at this; omega)]; assumption)
             · (rw [hg4.cell_far _ (by simp; omega) (fun e => by have := (hrow.lt _ e.symm).1; simp at this; omega)]; assumption)))
        ((refine step_append_bytes (by rfl) _ _ (by rfl) u8 _ (by rfl) (by rfl) w.heap.size (wr.alloc (.cells #[.int .u8 X] 5)).heap.size k L [X] ((hrow.alloc _).drew) ((lit_bts wr X pX).below ((Below.refl _ _).drew)) (by simp; omega) (by simp; omega) ?_; intro v4 w4 hr4 hg4))
      go_wp2
      go_roundw
      case rel => exact ⟨k + 1, by omega, by go_num, by rw [← hxs]; exact hr4, (((hB.alloc hs _).drew).grown hg4 (by simp; omega) (fun k e => (hrow.lt k e).1))⟩
      case measure => simp [intOf]; omega
    · go_wp2_with fail
      haveI := lat_nonempty wr
      obtain ⟨a1, hs1, bt1⟩ := run_cut ((hx.below hB).mono hB.size) N (by omega) (by rw [← hx.len]; omega)
      obtain ⟨a2, hs2, bt2⟩ := run_cut ((hy.below hB).mono hB.size) N (by omega) (by rw [← hy.len]; omega)
      obtain ⟨a3, hs3, bt3⟩ := run_cut ((hz.below hB).mono hB.size) N (by omega) (by rw [← hz.len]; omega)
      rw [← ef] at bt1
      rw [← eg] at bt2
      rw [← eh] at bt3
      obtain rfl : k = N.toNat := by omega
      have bt4 := Bts.of_own hrow (by
        intro z hz
        obtain ⟨j, _, rfl⟩ := List.mem_map.1 hz
        exact (xor8 _ _ (xor8 _ _ (hf j).1 (hg j).1).2.1 (hh j).1).2)
      obtain ⟨D1, HD1⟩ : ∃ D, Hid (D = U (sum (bts ((List.range N.toNat).map f)))) := ⟨_, rfl⟩
      obtain ⟨D2, HD2⟩ : ∃ D, Hid (D = U (sum (bts ((List.range N.toNat).map g)))) := ⟨_, rfl⟩
      obtain ⟨D3, HD3⟩ : ∃ D, Hid (D = U (sum (bts ((List.range N.toNat).map h)))) := ⟨_, rfl⟩
      obtain ⟨D4, HD4⟩ : ∃ D, Hid (D = U (sum (bts ((List.range N.toNat).map fun j => bits .xor .u8 (bits .xor .u8 (f j) (g j)) (h j))))) := ⟨_, rfl⟩
      have hD : bits .xor .u32 (bits .xor .u32 D1 D2) D3 = D4 := by
        rw [HD1.out, HD2.out, HD3.out, HD4.out, U_xor, U_xor, three_bts f g h (fun j => (hf j).1) (fun j => (hg j).1) (fun j => (hh j).1), sum_three _ _ _ (by simp [bts]) (by simp [bts])]
      have k1 := lat_sum bt1 HD1
      have k2 := lat_sum bt2 HD2
      have k3 := lat_sum bt3 HD3
      have k4 := lat_sum bt4 HD4
      generalize N.toNat = n at *
      refine wp_region_lat (by kernel_rfl) (by kernel_rfl) ?_
      repeat (go_big_quiet_step (first | (go_at_call 8; exact lat_alive _) | (go_at_call 10; first | exact k1 _ | exact k2 _ | exact k3 _ | exact k4 _)))
      refine wpQuiet_nil ?_
      intro _ hw'
      obtain ⟨p, hw''⟩ := hw'
      subst hw''
      go_wp2
      go_ret
      exact ⟨rfl, hB.trans (p.h.mono hB.size)⟩
set_option maxRecDepth 100000 in
set_option maxHeartbeats 4000000 in
theorem linear_none (a b c : Option Addr) (la lb lc ca cb cc : Nat) (xs ys zs : List Int) (w : World)
    (hx : Bts w.heap.size w (.slice a la ca) xs) (hy : Bts w.heap.size w (.slice b lb cb) ys) (hz : Bts w.heap.size w (.slice c lc cc) zs)
    (M : Int) (hM : (if lb < la then (lb : Int) else (la : Int)) = M) (hN : (if (lc : Int) < M then (lc : Int) else M) = 0) :
    Calls Try.prog 7 #[.slice a la ca, .slice b lb cb, .slice c lc cc] w fun e w' => e = .returned (.bool true) ∧ Below w.heap.size w w' := by
  go_enter Try.func7, Try.ntmps7
  go_wp2
  refine wp_loop_rounds 1 ?_
  rw [rounds_succ]
  go_wp2_with fail
  haveI := lat_nonempty w
  obtain ⟨a1, hs1, bt1⟩ := run_cut hx 0 (by omega) (by omega)
  obtain ⟨a2, hs2, bt2⟩ := run_cut hy 0 (by omega) (by omega)
  obtain ⟨a3, hs3, bt3⟩ := run_cut hz 0 (by omega) (by omega)
  have bt4 : Bts w.heap.size w (.slice none 0 0) [] := ⟨.inl ⟨.inl rfl, rfl⟩, fun z hz => by cases hz⟩
  have hD : bits .xor .u32 (bits .xor .u32 0 0) 0 = 0 := by decide +kernel
  have hD' : bits .xor .u32 0 0 = 0 := by decide +kernel
  have k1 := lat_sum (D := 0) bt1 (by show (0 : Int) = U (sum (bts [])); decide +kernel)
  have k2 := lat_sum (D := 0) bt2 (by show (0 : Int) = U (sum (bts [])); decide +kernel)
  have k3 := lat_sum (D := 0) bt3 (by show (0 : Int) = U (sum (bts [])); decide +kernel)
  have k4 := lat_sum (D := 0) bt4 (by show (0 : Int) = U (sum (bts [])); decide +kernel)
  refine wp_region_lat (by kernel_rfl) (by kernel_rfl) ?_
  repeat (go_big_quiet_step (first | (go_at_call 8; exact lat_alive _) | (go_at_call 10; first | exact k1 _ | exact k2 _ | exact k3 _ | exact k4 _)))
  refine wpQuiet_nil ?_
  intro _ hw'
  obtain ⟨p, hw''⟩ := hw'
  subst hw''
  go_wp2
  go_ret
  exact ⟨rfl, p.h⟩
/-- Bytes of which there is one at least: where they lie. -/
theorem bts_block {n₀ : Nat} {W : World} {a : Option Addr} {len cap : Nat} {zs : List Int} (h : Bts n₀ W (.slice a len cap) zs) (h0 : 0 < len) :
    ∃ b off, a = some ⟨b, off, none⟩ ∧ b < n₀ ∧ ∀ j, j < len → W.cell? ⟨b, off + j, none⟩ = some (.int .u8 (zs[j]?.getD 0)) := by
  have hl := h.len
  obtain ⟨⟨e | ⟨ad, c, e⟩, rfl⟩ | ⟨b, off, c, e, hb, hl', hm, hc⟩, hz⟩ := h
  · simp at hl; omega
  · simp at hl; omega
  · simp only [Value.slice.injEq] at e
    obtain ⟨rfl, rfl, rfl⟩ := e
    exact ⟨b, off, rfl, hb, hc⟩
theorem bts_get {n₀ : Nat} {W : World} {v : Value} {zs : List Int} (h : Bts n₀ W v zs) (j : Nat) : 0 ≤ zs[j]?.getD 0 ∧ zs[j]?.getD 0 < 256 := by
  rcases Nat.lt_or_ge j zs.length with h1 | h1
  · exact h.2 _ (by simp [h1])
  · simp [List.getElem?_eq_none h1]
theorem gets_take (zs : List Int) (n : Nat) (h : n ≤ zs.length) : (List.range n).map (fun j => zs[j]?.getD 0) = zs.take n := by
  apply List.ext_getElem
  · simp; omega
  · intro i h1 h2; simp at h1; simp [show i < zs.length from by omega]
theorem linear_walk (a b c : Option Addr) (la lb lc ca cb cc : Nat) (xs ys zs : List Int) (w : World)
    (hx : Bts w.heap.size w (.slice a la ca) xs) (hy : Bts w.heap.size w (.slice b lb cb) ys) (hz : Bts w.heap.size w (.slice c lc cc) zs) :
    Calls Try.prog 7 #[.slice a la ca, .slice b lb cb, .slice c lc cc] w fun e w' => e = .returned (.bool true) ∧ Below w.heap.size w w' := by
  obtain ⟨M, hM⟩ : ∃ M, (if lb < la then (lb : Int) else (la : Int)) = M := ⟨_, rfl⟩
  obtain ⟨N, hN⟩ : ∃ N, (if (lc : Int) < M then (lc : Int) else M) = N := ⟨_, rfl⟩
  have hm : M ≤ la ∧ M ≤ lb ∧ 0 ≤ M := by rw [← hM]; split <;> omega
  have hn : N ≤ la ∧ N ≤ lb ∧ N ≤ lc ∧ 0 ≤ N := by rw [← hN]; split <;> omega
  by_cases c1 : 3000 < N
  · exact linear_out a b c la lb lc ca cb cc w M N hM hN (by simpa using c1)
  · by_cases c2 : N = 0
    · subst c2
      exact linear_none a b c la lb lc ca cb cc xs ys zs w hx hy hz M hM hN
    · obtain ⟨ba, oa, rfl, l1, k1⟩ := bts_block hx (by omega)
      obtain ⟨bb, ob, rfl, l2, k2⟩ := bts_block hy (by omega)
      obtain ⟨bc, oc, rfl, l3, k3⟩ := bts_block hz (by omega)
      have e1 := hx.len
      have e2 := hy.len
      have e3 := hz.len
      exact linear_in ba oa bb ob bc oc la lb lc ca cb cc xs ys zs w hx hy hz M N hM hN (by simpa using c1) (fun j => xs[j]?.getD 0) (fun j => ys[j]?.getD 0) (fun j => zs[j]?.getD 0)
        (by omega) (by omega) hn.1 hn.2.1 hn.2.2.1 l1 l2 l3 (fun j hj => k1 j (by omega)) (fun j hj => k2 j (by omega)) (fun j hj => k3 j (by omega)) (bts_get hx) (bts_get hy) (bts_get hz)
        (gets_take xs _ (by omega)) (gets_take ys _ (by omega)) (gets_take zs _ (by omega))
end Go.Proofs.Ytdokhiikglcpcaa
