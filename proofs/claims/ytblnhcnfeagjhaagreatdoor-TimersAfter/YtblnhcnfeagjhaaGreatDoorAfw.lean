/- The walk of TimersAfter. -/
import Derived.Test.YtblnhcnfeagjhaaGreatDoorAfp
namespace Go.Proofs.YtblnhcnfeagjhaaGreatDoor
open Go.RowKit Go.IntWalk Go.Maps Go.Shelf
set_option linter.unusedVariables false
set_option linter.unusedSimpArgs false
/-- The law's loop: a timer in box B, another one in box B8. -/
structure AfS (W wr : World) (B B8 : Nat) (nm : ByteArray) (vr ev : Int) (xs : List Sp) : Prop where
  ex : ∃ a va vc, wr.heap[B]? = some (bT nm vr a ev (.slice va xs.length vc)) ∧ Sps wr.heap.size wr (.slice va xs.length vc) xs ∧ V.U a ∧ ∀ k, (Value.slice va xs.length vc).ownBlock = some k → k < wr.heap.size ∧ k ≠ B ∧ k ≠ B8
  b8 : ∃ cs : Array Value, cs.size = 5 ∧ wr.heap[B8]? = some (.cells cs 32 (0, 0))
  le : W.heap.size ≤ B ∧ B < B8
  bl : Below W.heap.size W wr
theorem below_row {W w w' : World} {k : Nat} (h : Below W.heap.size W w) (hg : w.grownBy w' (some k)) (hk : W.heap.size ≤ k) : Below W.heap.size W w' :=
  h.trans ⟨hg.os, hg.tape, hg.output, hg.size, fun j hj => hg.block j (by have := h.size; omega) (by simp; omega)⟩
set_option maxRecDepth 100000 in
set_option maxHeartbeats 8000000 in
theorem af_nf (nm : ByteArray) (vr at_ ev : Int) (v : Value) (xs : List Sp) (now n : Int) (W : World) (hD : Dr W) (hx : Sps W.heap.size W v xs) (hxb0 : ∀ k, v.ownBlock = some k → k < W.heap.size) (ha : V.U at_) (he : V.U ev) (hn : V.U now)
    (hfit : (fewB xs && decide (nm.size ≤ 100)) = false) :
    Calls Tryz.prog 5 #[(⟨nm, vr, at_, ev, v, xs⟩ : Tmr).val, .int .u64 now, .int .i64 n] W fun e W' => e = .returned (.bool true) ∧ Below W.heap.size W W' := by
  obtain ⟨va, vc, rfl, _⟩ := hx.shape
  simp only [Tmr.val]
  have hga := World.grownBy_alloc W (bT nm vr at_ ev (.slice va xs.length vc)) none
  have hfi := fits_any (W.alloc (bT nm vr at_ ev (.slice va xs.length vc))) ⟨nm, vr, at_, ev, .slice va xs.length vc, xs⟩ ((hx.keep hga (Nat.le_refl _)).up hga.size)
  rw [hfit] at hfi
  simp only [Tmr.val] at hfi
  replace hfi : Hid _ := ⟨hfi⟩
  have hB := World.alloc_heap_new W (bT nm vr at_ ev (.slice va xs.length vc))
  obtain ⟨c0, c1, c2, c3, c4, _⟩ := own_five hB
  replace hx : Hid _ := ⟨hx⟩
  replace hD : Hid _ := ⟨hD⟩
  go_enter Tryz.func5, Tryz.ntmps5
  go_wp2_with fail
  refine hfi.out.mono ?_
  rintro r w1 ⟨rfl, hg1⟩
  have hB1 := (hg1.block W.heap.size (by simp) (by simp)).trans hB
  have hg01 := grown_none hga hg1
  clear hfi c0 c1 c2 c3 c4 hB hg1 hga
  have hal := alive_any w1 (hD.out.keep hg01)
  replace hal : Hid _ := ⟨hal⟩
  replace hg01 : Hid _ := ⟨hg01⟩
  clear hB1 hx
  go_wp2_with fail
  refine hal.out.mono ?_
  rintro r w2 ⟨rfl, hg2⟩
  have hfin : Hid _ := ⟨below_of' (grown_none hg01.out hg2)⟩
  clear hal hg2 hg01
  go_wp2
  go_ret
  exact ⟨rfl, hfin.out⟩
set_option maxRecDepth 100000 in
set_option maxHeartbeats 8000000 in
theorem af_n0 (nm : ByteArray) (vr at_ ev : Int) (v : Value) (xs : List Sp) (now n : Int) (W : World) (hD : Dr W) (hx : Sps W.heap.size W v xs) (hxb0 : ∀ k, v.ownBlock = some k → k < W.heap.size) (ha : V.U at_) (he : V.U ev) (hn : V.U now)
    (hfit : (fewB xs && decide (nm.size ≤ 100)) = true) (hn0 : n < 0) :
    Calls Tryz.prog 5 #[(⟨nm, vr, at_, ev, v, xs⟩ : Tmr).val, .int .u64 now, .int .i64 n] W fun e W' => e = .returned (.bool true) ∧ Below W.heap.size W W' := by
  obtain ⟨va, vc, rfl, _⟩ := hx.shape
  have n1 : decide (n < 0) = true := by simp; omega
  simp only [Tmr.val]
  have hga := World.grownBy_alloc W (bT nm vr at_ ev (.slice va xs.length vc)) none
  have hfi := fits_any (W.alloc (bT nm vr at_ ev (.slice va xs.length vc))) ⟨nm, vr, at_, ev, .slice va xs.length vc, xs⟩ ((hx.keep hga (Nat.le_refl _)).up hga.size)
  rw [hfit] at hfi
  simp only [Tmr.val] at hfi
  replace hfi : Hid _ := ⟨hfi⟩
  have hB := World.alloc_heap_new W (bT nm vr at_ ev (.slice va xs.length vc))
  obtain ⟨c0, c1, c2, c3, c4, _⟩ := own_five hB
  replace hx : Hid _ := ⟨hx⟩
  replace hD : Hid _ := ⟨hD⟩
  go_enter Tryz.func5, Tryz.ntmps5
  go_wp2_with fail
  refine hfi.out.mono ?_
  rintro r w1 ⟨rfl, hg1⟩
  have hB1 := (hg1.block W.heap.size (by simp) (by simp)).trans hB
  have hg01 := grown_none hga hg1
  clear hfi c0 c1 c2 c3 c4 hB hg1 hga
  have hal := alive_any w1 (hD.out.keep hg01)
  replace hal : Hid _ := ⟨hal⟩
  replace hg01 : Hid _ := ⟨hg01⟩
  clear hB1 hx
  go_wp2_with fail
  refine hal.out.mono ?_
  rintro r w2 ⟨rfl, hg2⟩
  have hfin : Hid _ := ⟨below_of' (grown_none hg01.out hg2)⟩
  clear hal hg2 hg01
  go_wp2
  go_ret
  exact ⟨rfl, hfin.out⟩
set_option maxRecDepth 100000 in
set_option maxHeartbeats 8000000 in
theorem af_n2 (nm : ByteArray) (vr at_ ev : Int) (v : Value) (xs : List Sp) (now n : Int) (W : World) (hD : Dr W) (hx : Sps W.heap.size W v xs) (hxb0 : ∀ k, v.ownBlock = some k → k < W.heap.size) (ha : V.U at_) (he : V.U ev) (hn : V.U now)
    (hfit : (fewB xs && decide (nm.size ≤ 100)) = true) (hn0 : 20 < n) :
    Calls Tryz.prog 5 #[(⟨nm, vr, at_, ev, v, xs⟩ : Tmr).val, .int .u64 now, .int .i64 n] W fun e W' => e = .returned (.bool true) ∧ Below W.heap.size W W' := by
  obtain ⟨va, vc, rfl, _⟩ := hx.shape
  have n1 : decide (n < 0) = false := by simp; omega
  have n2 : decide (n > 20) = true := by simp; omega
  have n3 : decide (20 < n) = true := by simp; omega
  simp only [Tmr.val]
  have hga := World.grownBy_alloc W (bT nm vr at_ ev (.slice va xs.length vc)) none
  have hfi := fits_any (W.alloc (bT nm vr at_ ev (.slice va xs.length vc))) ⟨nm, vr, at_, ev, .slice va xs.length vc, xs⟩ ((hx.keep hga (Nat.le_refl _)).up hga.size)
  rw [hfit] at hfi
  simp only [Tmr.val] at hfi
  replace hfi : Hid _ := ⟨hfi⟩
  have hB := World.alloc_heap_new W (bT nm vr at_ ev (.slice va xs.length vc))
  obtain ⟨c0, c1, c2, c3, c4, _⟩ := own_five hB
  replace hx : Hid _ := ⟨hx⟩
  replace hD : Hid _ := ⟨hD⟩
  go_enter Tryz.func5, Tryz.ntmps5
  go_wp2_with fail
  refine hfi.out.mono ?_
  rintro r w1 ⟨rfl, hg1⟩
  have hB1 := (hg1.block W.heap.size (by simp) (by simp)).trans hB
  have hg01 := grown_none hga hg1
  clear hfi c0 c1 c2 c3 c4 hB hg1 hga
  have hal := alive_any w1 (hD.out.keep hg01)
  replace hal : Hid _ := ⟨hal⟩
  replace hg01 : Hid _ := ⟨hg01⟩
  clear hB1 hx
  go_wp2_with fail
  refine hal.out.mono ?_
  rintro r w2 ⟨rfl, hg2⟩
  have hfin : Hid _ := ⟨below_of' (grown_none hg01.out hg2)⟩
  clear hal hg2 hg01
  go_wp2
  go_ret
  exact ⟨rfl, hfin.out⟩
set_option maxRecDepth 100000 in
set_option maxHeartbeats 8000000 in
theorem af_t (nm : ByteArray) (vr at_ ev : Int) (v : Value) (xs : List Sp) (now n : Int) (W : World) (hD : Dr W) (hx : Sps W.heap.size W v xs) (hxb0 : ∀ k, v.ownBlock = some k → k < W.heap.size) (ha : V.U at_) (he : V.U ev) (hn : V.U now)
    (hfit : (fewB xs && decide (nm.size ≤ 100)) = true) (hn20 : 0 ≤ n ∧ n ≤ 20) (haf : aft ⟨nm, vr, at_, ev, v, xs⟩ now = true) :
    Calls Tryz.prog 5 #[(⟨nm, vr, at_, ev, v, xs⟩ : Tmr).val, .int .u64 now, .int .i64 n] W fun e W' => e = .returned (.bool true) ∧ Below W.heap.size W W' := by
  obtain ⟨va, vc, rfl, _⟩ := hx.shape
  have n1 : decide (n < 0) = false := by simp; omega
  have n2 : decide (n > 20) = false := by simp; omega
  have n3 : decide (20 < n) = false := by simp; omega
  have hxl : xs.length ≤ 100000 := by
    simp only [Bool.and_eq_true, decide_eq_true_eq, fewB] at hfit
    omega
  simp only [Tmr.val]
  have hga := World.grownBy_alloc W (bT nm vr at_ ev (.slice va xs.length vc)) none
  have hfi := fits_any (W.alloc (bT nm vr at_ ev (.slice va xs.length vc))) ⟨nm, vr, at_, ev, .slice va xs.length vc, xs⟩ ((hx.keep hga (Nat.le_refl _)).up hga.size)
  rw [hfit] at hfi
  simp only [Tmr.val] at hfi
  replace hfi : Hid _ := ⟨hfi⟩
  have hB := World.alloc_heap_new W (bT nm vr at_ ev (.slice va xs.length vc))
  obtain ⟨c0, c1, c2, c3, c4, _⟩ := own_five hB
  replace hx : Hid _ := ⟨hx⟩
  replace hD : Hid _ := ⟨hD⟩
  go_enter Tryz.func5, Tryz.ntmps5
  go_wp2_with fail
  refine hfi.out.mono ?_
  rintro r w1 ⟨rfl, hg1⟩
  have hB1 := (hg1.block W.heap.size (by simp) (by simp)).trans hB
  have hg01 := grown_none hga hg1
  clear hfi c0 c1 c2 c3 c4 hB hg1 hga
  obtain ⟨c0, c1, c2, c3, c4, _⟩ := own_five hB1
  have haft := after_any w1 ⟨nm, vr, at_, ev, .slice va xs.length vc, xs⟩ ((hx.out.keep hg01 (Nat.le_refl _)).up hg01.size) hxl ha he hn
  simp only [Tmr.val] at haft
  replace haft : Hid _ := ⟨haft⟩
  go_wp2_with fail
  refine haft.out.mono ?_
  rintro r w2 ⟨hg12, hno, hyes⟩
  have hg02 := grown_none hg01 hg12
  have hB2 := (hg12.block _ (Array.getElem?_eq_some_iff.1 hB1).1 (by simp)).trans hB1
  clear c0 c1 c2 c3 c4 haft hB1
  obtain ⟨v2, rfl, hs2, hv2⟩ := hyes haf
  obtain ⟨a2, c2, rfl, _⟩ := hs2.shape
  have hocc := aft_occ ha he hn (by have := haf; simp only [aft, Bool.and_eq_true] at this; exact this.1)
  have hqm : V.nxt at_ ev now ≤ 4611686018427387904 := by have := haf; simp only [aft, Bool.and_eq_true, decide_eq_true_eq] at this; exact this.2
  obtain ⟨q, hq⟩ : ∃ q, V.nxt at_ ev now = q := ⟨_, rfl⟩
  rw [hq] at hocc hqm ⊢
  have hga3 := World.grownBy_alloc w2 (bT nm vr q ev (.slice a2 xs.length c2)) none
  have hg03 := grown_none hg02 hga3
  have hB3 := (hga3.block _ (Array.getElem?_eq_some_iff.1 hB2).1 (by simp)).trans hB2
  have hB8 := World.alloc_heap_new w2 (bT nm vr q ev (.slice a2 xs.length c2))
  have hix := V.index_any at_ ev q ha he hocc.2.2 (w2.alloc (bT nm vr q ev (.slice a2 xs.length c2)))
  rw [hocc.1] at hix
  replace hix : Hid _ := ⟨hix⟩
  obtain ⟨c0, c1, c2', c3, c4, _⟩ := own_five hB3
  go_wp2_with fail
  refine hix.out.mono ?_
  rintro r w4 ⟨rfl, hb4⟩
  have hg34 := grown_of hb4
  have hg04 := grown_none hg03 hg34
  have hB4 := (hg34.block _ (Array.getElem?_eq_some_iff.1 hB3).1 (by simp)).trans hB3
  have hB84 := (hg34.block w2.heap.size (by simp) (by simp)).trans hB8
  have hs4 := (hs2.keep (grown_none hga3 hg34) (Nat.le_refl _)).up (grown_none hga3 hg34).size
  clear c0 c1 c2' c3 c4 hix hB8 hB3
  obtain ⟨c0, c1, c2', c3, c4, f4⟩ := own_five hB4
  obtain ⟨d0, d1, d2, d3, d4, f8⟩ := own_five hB84
  have hga5 := World.grownBy_alloc w4 (bT nm vr q ev (.slice a2 xs.length c2)) none
  obtain ⟨g0, g1, g2, g3, g4, _⟩ := own_five ((hga5.block _ (Array.getElem?_eq_some_iff.1 hB4).1 (by simp)).trans hB4)
  have hga6 := World.grownBy_alloc w4 (bT nm vr at_ ev (.slice a2 xs.length c2)) none
  obtain ⟨m0, m1, m2, m3, m4, _⟩ := own_five ((hga6.block _ (Array.getElem?_eq_some_iff.1 hB4).1 (by simp)).trans hB4)
  have hg06 := grown_none hg04 hga6
  have hsm := tsame_any (w4.alloc (bT nm vr at_ ev (.slice a2 xs.length c2))) ⟨nm, vr, at_, ev, .slice va xs.length vc, xs⟩ ((hs4.keep hga6 (Nat.le_refl _)).up hga6.size) ((hx.out.keep hg06 (Nat.le_refl _)).up hg06.size)
  simp only [Tmr.val] at hsm
  replace hsm : Hid _ := ⟨hsm⟩
  go_wp2_with fail
  refine hsm.out.mono ?_
  rintro r w7 ⟨rfl, hg67⟩
  have hg47 := grown_none hga6 hg67
  have hg07 := grown_none hg04 hg47
  have hB7 := (hg47.block _ (Array.getElem?_eq_some_iff.1 hB4).1 (by simp)).trans hB4
  have hB87 := (hg47.block _ (Array.getElem?_eq_some_iff.1 hB84).1 (by simp)).trans hB84
  clear hsm c0 c1 c2' c3 c4 f4 d0 d1 d2 d3 d4 f8 g0 g1 g2 g3 g4 m0 m1 m2 m3 m4
  obtain ⟨c0, c1, c2', c3, c4, f4⟩ := own_five hB7
  obtain ⟨d0, d1, d2, d3, d4, f8⟩ := own_five hB87
  have r1 : decide (q ≤ now) = false := by simp; omega
  have r2 : decide (q > 4611686018427387904) = false := by simp; omega
  have r3 : decide (4611686018427387904 < q) = false := by simp; omega
  have hst : Hid (AfS W w7 W.heap.size w2.heap.size nm vr ev xs) := ⟨⟨at_, va, vc, hB7, (hx.out.keep hg07 (Nat.le_refl _)).up hg07.size, ha, fun k hk => by
    have h1 := hxb0 k hk
    have h2 := hg07.size
    have h3 := hg02.size
    have h4 := (Array.getElem?_eq_some_iff.1 hB2).1
    exact ⟨by omega, by omega, by omega⟩⟩, ⟨_, rfl, hB87⟩, ⟨Nat.le_refl _, (Array.getElem?_eq_some_iff.1 hB2).1⟩, below_of' hg07⟩
  clear hB7 hB87 hB4 hB84 hB2 hg07 hg47 hg67 hg06 hg04 hg34 hg03 hga3 hga5 hga6 hb4 hs4 hs2 hv2 hno hyes hg12 hg02 hg01 hx
  go_wp2_with fail
  go_loopw [14] (fun iv wr => ∃ i : Nat, iv = .int .i64 i ∧ (i : Int) ≤ n ∧ Hid (AfS W wr W.heap.size w2.heap.size nm vr ev xs)) (fun iv _ => n.toNat - (intOf iv).toNat)
  case atStart => exact ⟨0, rfl, by omega, hst⟩
  case round =>
    clear hst
    obtain ⟨i, rfl, hi, hR⟩ := hrel
    by_cases hlt : (i : Int) < n
    · have hdi : decide ((i : Int) < n) = true := by simpa using hlt
      obtain ⟨⟨a, va, vc, hB, hs, hu, hvb⟩, ⟨cs, hcs, hB8⟩, hle, hbl⟩ := hR.out
      obtain ⟨c0, c1, c2, c3, c4, _⟩ := own_five hB
      have haft := after_any wr ⟨nm, vr, a, ev, .slice va xs.length vc, xs⟩ hs hxl hu he (now := a) hu
      obtain ⟨hse, hsq⟩ := aft_self (x := ⟨nm, vr, a, ev, .slice va xs.length vc, xs⟩) hu he
      simp only [Tmr.val] at haft
      simp only at hse hsq
      replace haft : Hid _ := ⟨haft⟩
      have hul := hu.1
      have hel := he.1
      go_wp2_with fail
      refine haft.out.mono ?_
      rintro r w8 ⟨hg8, hno, hyes⟩
      have hs8g := hg8.size
      have hBl := (Array.getElem?_eq_some_iff.1 hB).1
      have hB8l := (Array.getElem?_eq_some_iff.1 hB8).1
      have hB := (hg8.block _ hBl (by simp)).trans hB
      have hB8 := (hg8.block _ hB8l (by simp)).trans hB8
      have hbl := hbl.trans ((below_of' hg8).mono hbl.size)
      clear c0 c1 c2 c3 c4 haft hR
      obtain ⟨c0, c1, c2, c3, c4, _⟩ := own_five hB
      by_cases haf2 : aft ⟨nm, vr, a, ev, .slice va xs.length vc, xs⟩ a = true
      · obtain ⟨k1, k2, k3⟩ := hse.1 haf2
        have hq := hsq haf2
        obtain ⟨v8, rfl, hs8, hv8⟩ := hyes haf2
        obtain ⟨a8, c8, rfl, _⟩ := hs8.shape
        rw [hq]
        have e1 : decide (ev > 0) = true := by simp; omega
        have e1b : decide (0 < ev) = true := by simp; omega
        have e2 : decide (a ≤ 4611686018427387904) = true := by simpa using k2
        have hw1 : IntKind.u64.wrap (4611686018427387904 - a) = 4611686018427387904 - a := by rw [IntKind.wrap_u64]; omega
        have hw2 : IntKind.u64.wrap (a + ev - a) = ev := by rw [IntKind.wrap_u64]; omega
        have e3 : decide (ev ≤ 4611686018427387904 - a) = true := by simpa using k3
        have e4 : (ev != ev) = false := by simp
        have hw3 : a + ev - a = ev := by omega
        have hnw : V.U (a + ev) := by constructor <;> omega
        clear hno hyes hse hsq hu hs hvb haf2 hq
        go_wp2_with (first
          | (refine wpList_store5 rfl _ _ rfl rfl w2.heap.size #[.string nm, .int .i64 vr, .int .u64 (a + ev), .int .u64 ev, .slice a8 xs.length c8] rfl rfl hB8 hcs rfl rfl ?_
             intro w9 hb9 hg9
             clear c0 c1 c2 c3 c4
             obtain ⟨d0, d1, d2, d3, d4, _⟩ := own_five hb9
             have hBn := (hg9.block W.heap.size (by omega) (by simp; omega)).trans hB
             obtain ⟨c0, c1, c2, c3, c4, _⟩ := own_five hBn
             clear hB8)
          | (refine wpList_store5 rfl _ _ rfl rfl W.heap.size #[.string nm, .int .i64 vr, .int .u64 (a + ev), .int .u64 ev, .slice a8 xs.length c8] rfl rfl hBn rfl rfl rfl ?_
             intro w10 hb10 hg10
             clear hBn))
        have hnext : Hid (AfS W w10 W.heap.size w2.heap.size nm vr ev xs) := ⟨⟨a + ev, a8, c8, hb10, (hs8.kept fun k hk hl => (hg10.block k (by have := hg9.size; omega) (by have := hv8 k hk; simp; omega)).trans (hg9.block k hl (by have := hv8 k hk; simp; omega))).up (by have := hg9.size; have := hg10.size; omega), hnw, fun k hk => by
          have h1 := hv8 k hk
          have h2 := hg9.size
          have h3 := hg10.size
          exact ⟨by omega, by omega, by omega⟩⟩, ⟨_, rfl, (hg10.block w2.heap.size (by have := hg9.size; omega) (by simp; omega)).trans hb9⟩, hle, below_row (below_row hbl hg9 (by omega)) hg10 (Nat.le_refl _)⟩
        exact ⟨⟨i + 1, by go_num, by omega, hnext⟩, by simp [intOf] <;> omega⟩
      · have haf3 : aft ⟨nm, vr, a, ev, .slice va xs.length vc, xs⟩ a = false := by simpa using haf2
        obtain rfl := hno haf3
        have hcase : ev = 0 ∨ (0 < ev ∧ 4611686018427387904 < a) ∨ (0 < ev ∧ a ≤ 4611686018427387904 ∧ 4611686018427387904 - a < ev) := by
          have := mt hse.2 haf2
          omega
        simp only [zTv]
        clear hno hyes hse hsq hs hvb haf2 haf3
        have hw1 : a ≤ 4611686018427387904 → IntKind.u64.wrap (4611686018427387904 - a) = 4611686018427387904 - a := fun h => by rw [IntKind.wrap_u64]; omega
        rcases hcase with hc | ⟨hc1, hc2⟩ | ⟨hc1, hc2, hc3⟩
        · have e1 : decide (ev > 0) = false := by simp; omega
          have e1b : decide (0 < ev) = false := by simp; omega
          go_wp2_with (refine wpList_store5 rfl _ _ rfl rfl w2.heap.size #[.string ⟨#[]⟩, .int .i64 0, .int .u64 0, .int .u64 0, .slice none 0 0] rfl rfl hB8 hcs rfl rfl ?_; intro w9 hb9 hg9; clear c0 c1 c2 c3 c4; obtain ⟨c0, c1, c2, c3, c4, _⟩ := own_five ((hg9.block W.heap.size (by omega) (by simp; omega)).trans hB); clear hB8)
          have hbl9 := below_row hbl hg9 (by omega)
          have hal := alive_any w9 (hD.out.below hbl9 (Nat.le_refl _))
          refine hal.mono ?_
          rintro r w10 ⟨rfl, hg10⟩
          have hfin : Hid _ := ⟨hbl9.trans ((below_of' hg10).mono hbl9.size)⟩
          clear hal hg10 hbl9
          go_wp2
          go_ret
          exact ⟨rfl, hfin.out⟩
        · have e1 : decide (ev > 0) = true := by simp; omega
          have e1b : decide (0 < ev) = true := by simp; omega
          have e2 : decide (a ≤ 4611686018427387904) = false := by simp; omega
          go_wp2_with (refine wpList_store5 rfl _ _ rfl rfl w2.heap.size #[.string ⟨#[]⟩, .int .i64 0, .int .u64 0, .int .u64 0, .slice none 0 0] rfl rfl hB8 hcs rfl rfl ?_; intro w9 hb9 hg9; clear c0 c1 c2 c3 c4; obtain ⟨c0, c1, c2, c3, c4, _⟩ := own_five ((hg9.block W.heap.size (by omega) (by simp; omega)).trans hB); clear hB8)
          have hbl9 := below_row hbl hg9 (by omega)
          have hal := alive_any w9 (hD.out.below hbl9 (Nat.le_refl _))
          refine hal.mono ?_
          rintro r w10 ⟨rfl, hg10⟩
          have hfin : Hid _ := ⟨hbl9.trans ((below_of' hg10).mono hbl9.size)⟩
          clear hal hg10 hbl9
          go_wp2
          go_ret
          exact ⟨rfl, hfin.out⟩
        · have e1 : decide (ev > 0) = true := by simp; omega
          have e1b : decide (0 < ev) = true := by simp; omega
          have e2 : decide (a ≤ 4611686018427387904) = true := by simpa using hc2
          have e3 : decide (ev ≤ 4611686018427387904 - a) = false := by simp; omega
          have hw2 := hw1 hc2
          go_wp2_with (refine wpList_store5 rfl _ _ rfl rfl w2.heap.size #[.string ⟨#[]⟩, .int .i64 0, .int .u64 0, .int .u64 0, .slice none 0 0] rfl rfl hB8 hcs rfl rfl ?_; intro w9 hb9 hg9; clear c0 c1 c2 c3 c4; obtain ⟨c0, c1, c2, c3, c4, _⟩ := own_five ((hg9.block W.heap.size (by omega) (by simp; omega)).trans hB); clear hB8)
          have hbl9 := below_row hbl hg9 (by omega)
          have hal := alive_any w9 (hD.out.below hbl9 (Nat.le_refl _))
          refine hal.mono ?_
          rintro r w10 ⟨rfl, hg10⟩
          have hfin : Hid _ := ⟨hbl9.trans ((below_of' hg10).mono hbl9.size)⟩
          clear hal hg10 hbl9
          go_wp2
          go_ret
          exact ⟨rfl, hfin.out⟩
    · have hdi : decide ((i : Int) < n) = false := by simp; omega
      have hal := alive_any wr (hD.out.below hR.out.bl (Nat.le_refl _))
      replace hal : Hid _ := ⟨hal⟩
      go_wp2_with fail
      refine hal.out.mono ?_
      rintro r w9 ⟨rfl, hg9⟩
      have hfin : Hid _ := ⟨hR.out.bl.trans ((below_of' hg9).mono hR.out.bl.size)⟩
      clear hal hR hg9
      go_wp2
      go_ret
      exact ⟨rfl, hfin.out⟩
set_option maxRecDepth 100000 in
set_option maxHeartbeats 8000000 in
theorem af_fl (nm : ByteArray) (vr at_ ev : Int) (v : Value) (xs : List Sp) (now n : Int) (W : World) (hD : Dr W) (hx : Sps W.heap.size W v xs) (hxb0 : ∀ k, v.ownBlock = some k → k < W.heap.size) (ha : V.U at_) (he : V.U ev) (hn : V.U now)
    (hfit : (fewB xs && decide (nm.size ≤ 100)) = true) (hn20 : 0 ≤ n ∧ n ≤ 20) (haf : aft ⟨nm, vr, at_, ev, v, xs⟩ now = false) (hlow : at_ ≤ now) :
    Calls Tryz.prog 5 #[(⟨nm, vr, at_, ev, v, xs⟩ : Tmr).val, .int .u64 now, .int .i64 n] W fun e W' => e = .returned (.bool true) ∧ Below W.heap.size W W' := by
  obtain ⟨va, vc, rfl, _⟩ := hx.shape
  have n1 : decide (n < 0) = false := by simp; omega
  have n2 : decide (n > 20) = false := by simp; omega
  have n3 : decide (20 < n) = false := by simp; omega
  have hxl : xs.length ≤ 100000 := by
    simp only [Bool.and_eq_true, decide_eq_true_eq, fewB] at hfit
    omega
  simp only [Tmr.val]
  have hga := World.grownBy_alloc W (bT nm vr at_ ev (.slice va xs.length vc)) none
  have hfi := fits_any (W.alloc (bT nm vr at_ ev (.slice va xs.length vc))) ⟨nm, vr, at_, ev, .slice va xs.length vc, xs⟩ ((hx.keep hga (Nat.le_refl _)).up hga.size)
  rw [hfit] at hfi
  simp only [Tmr.val] at hfi
  replace hfi : Hid _ := ⟨hfi⟩
  have hB := World.alloc_heap_new W (bT nm vr at_ ev (.slice va xs.length vc))
  obtain ⟨c0, c1, c2, c3, c4, _⟩ := own_five hB
  replace hx : Hid _ := ⟨hx⟩
  replace hD : Hid _ := ⟨hD⟩
  go_enter Tryz.func5, Tryz.ntmps5
  go_wp2_with fail
  refine hfi.out.mono ?_
  rintro r w1 ⟨rfl, hg1⟩
  have hB1 := (hg1.block W.heap.size (by simp) (by simp)).trans hB
  have hg01 := grown_none hga hg1
  clear hfi c0 c1 c2 c3 c4 hB hg1 hga
  obtain ⟨c0, c1, c2, c3, c4, _⟩ := own_five hB1
  have haft := after_any w1 ⟨nm, vr, at_, ev, .slice va xs.length vc, xs⟩ ((hx.out.keep hg01 (Nat.le_refl _)).up hg01.size) hxl ha he hn
  simp only [Tmr.val] at haft
  replace haft : Hid _ := ⟨haft⟩
  go_wp2_with fail
  refine haft.out.mono ?_
  rintro r w2 ⟨hg12, hno, hyes⟩
  have hg02 := grown_none hg01 hg12
  have hB2 := (hg12.block _ (Array.getElem?_eq_some_iff.1 hB1).1 (by simp)).trans hB1
  clear c0 c1 c2 c3 c4 haft hB1
  obtain rfl := hno haf
  have hnn := aft_no haf
  simp only at hnn
  have hga3 := World.grownBy_alloc w2 zT none
  have hg03 := grown_none hg02 hga3
  have hB3 := (hga3.block _ (Array.getElem?_eq_some_iff.1 hB2).1 (by simp)).trans hB2
  have hB8 := World.alloc_heap_new w2 zT
  simp only [zTv]
  obtain ⟨c0, c1, c2', c3, c4, f4⟩ := own_five hB3
  have hst : Hid (AfS W (w2.alloc zT) W.heap.size w2.heap.size nm vr ev xs) := ⟨⟨at_, va, vc, hB3, (hx.out.keep hg03 (Nat.le_refl _)).up hg03.size, ha, fun k hk => by
    have h1 := hxb0 k hk
    have h2 := hg03.size
    have h4 := (Array.getElem?_eq_some_iff.1 hB2).1
    have h5 := hg02.size
    exact ⟨by omega, by omega, by omega⟩⟩, ⟨_, rfl, hB8⟩, ⟨Nat.le_refl _, (Array.getElem?_eq_some_iff.1 hB2).1⟩, below_of' hg03⟩
  have r1 : decide (at_ > now) = false := by simp; omega
  have r1b : decide (now < at_) = false := by simp; omega
  clear hB2 hg03 hga3 hno hyes hg12 hg02 hg01 hx hB3 hB8
  go_wp2_with fail
  go_loopw [14] (fun iv wr => ∃ i : Nat, iv = .int .i64 i ∧ (i : Int) ≤ n ∧ Hid (AfS W wr W.heap.size w2.heap.size nm vr ev xs)) (fun iv _ => n.toNat - (intOf iv).toNat)
  case atStart => exact ⟨0, rfl, by omega, hst⟩
  case round =>
    clear hst
    obtain ⟨i, rfl, hi, hR⟩ := hrel
    by_cases hlt : (i : Int) < n
    · have hdi : decide ((i : Int) < n) = true := by simpa using hlt
      obtain ⟨⟨a, va, vc, hB, hs, hu, hvb⟩, ⟨cs, hcs, hB8⟩, hle, hbl⟩ := hR.out
      obtain ⟨c0, c1, c2, c3, c4, _⟩ := own_five hB
      have haft := after_any wr ⟨nm, vr, a, ev, .slice va xs.length vc, xs⟩ hs hxl hu he (now := a) hu
      obtain ⟨hse, hsq⟩ := aft_self (x := ⟨nm, vr, a, ev, .slice va xs.length vc, xs⟩) hu he
      simp only [Tmr.val] at haft
      simp only at hse hsq
      replace haft : Hid _ := ⟨haft⟩
      have hul := hu.1
      have hel := he.1
      go_wp2_with fail
      refine haft.out.mono ?_
      rintro r w8 ⟨hg8, hno, hyes⟩
      have hs8g := hg8.size
      have hBl := (Array.getElem?_eq_some_iff.1 hB).1
      have hB8l := (Array.getElem?_eq_some_iff.1 hB8).1
      have hB := (hg8.block _ hBl (by simp)).trans hB
      have hB8 := (hg8.block _ hB8l (by simp)).trans hB8
      have hbl := hbl.trans ((below_of' hg8).mono hbl.size)
      clear c0 c1 c2 c3 c4 haft hR
      obtain ⟨c0, c1, c2, c3, c4, _⟩ := own_five hB
      by_cases haf2 : aft ⟨nm, vr, a, ev, .slice va xs.length vc, xs⟩ a = true
      · obtain ⟨k1, k2, k3⟩ := hse.1 haf2
        have hq := hsq haf2
        obtain ⟨v8, rfl, hs8, hv8⟩ := hyes haf2
        obtain ⟨a8, c8, rfl, _⟩ := hs8.shape
        rw [hq]
        have e1 : decide (ev > 0) = true := by simp; omega
        have e1b : decide (0 < ev) = true := by simp; omega
        have e2 : decide (a ≤ 4611686018427387904) = true := by simpa using k2
        have hw1 : IntKind.u64.wrap (4611686018427387904 - a) = 4611686018427387904 - a := by rw [IntKind.wrap_u64]; omega
        have hw2 : IntKind.u64.wrap (a + ev - a) = ev := by rw [IntKind.wrap_u64]; omega
        have e3 : decide (ev ≤ 4611686018427387904 - a) = true := by simpa using k3
        have e4 : (ev != ev) = false := by simp
        have hw3 : a + ev - a = ev := by omega
        have hnw : V.U (a + ev) := by constructor <;> omega
        clear hno hyes hse hsq hu hs hvb haf2 hq
        go_wp2_with (first
          | (refine wpList_store5 rfl _ _ rfl rfl w2.heap.size #[.string nm, .int .i64 vr, .int .u64 (a + ev), .int .u64 ev, .slice a8 xs.length c8] rfl rfl hB8 hcs rfl rfl ?_
             intro w9 hb9 hg9
             clear c0 c1 c2 c3 c4
             obtain ⟨d0, d1, d2, d3, d4, _⟩ := own_five hb9
             have hBn := (hg9.block W.heap.size (by omega) (by simp; omega)).trans hB
             obtain ⟨c0, c1, c2, c3, c4, _⟩ := own_five hBn
             clear hB8)
          | (refine wpList_store5 rfl _ _ rfl rfl W.heap.size #[.string nm, .int .i64 vr, .int .u64 (a + ev), .int .u64 ev, .slice a8 xs.length c8] rfl rfl hBn rfl rfl rfl ?_
             intro w10 hb10 hg10
             clear hBn))
        have hnext : Hid (AfS W w10 W.heap.size w2.heap.size nm vr ev xs) := ⟨⟨a + ev, a8, c8, hb10, (hs8.kept fun k hk hl => (hg10.block k (by have := hg9.size; omega) (by have := hv8 k hk; simp; omega)).trans (hg9.block k hl (by have := hv8 k hk; simp; omega))).up (by have := hg9.size; have := hg10.size; omega), hnw, fun k hk => by
          have h1 := hv8 k hk
          have h2 := hg9.size
          have h3 := hg10.size
          exact ⟨by omega, by omega, by omega⟩⟩, ⟨_, rfl, (hg10.block w2.heap.size (by have := hg9.size; omega) (by simp; omega)).trans hb9⟩, hle, below_row (below_row hbl hg9 (by omega)) hg10 (Nat.le_refl _)⟩
        exact ⟨⟨i + 1, by go_num, by omega, hnext⟩, by simp [intOf] <;> omega⟩
      · have haf3 : aft ⟨nm, vr, a, ev, .slice va xs.length vc, xs⟩ a = false := by simpa using haf2
        obtain rfl := hno haf3
        have hcase : ev = 0 ∨ (0 < ev ∧ 4611686018427387904 < a) ∨ (0 < ev ∧ a ≤ 4611686018427387904 ∧ 4611686018427387904 - a < ev) := by
          have := mt hse.2 haf2
          omega
        simp only [zTv]
        clear hno hyes hse hsq hs hvb haf2 haf3
        have hw1 : a ≤ 4611686018427387904 → IntKind.u64.wrap (4611686018427387904 - a) = 4611686018427387904 - a := fun h => by rw [IntKind.wrap_u64]; omega
        rcases hcase with hc | ⟨hc1, hc2⟩ | ⟨hc1, hc2, hc3⟩
        · have e1 : decide (ev > 0) = false := by simp; omega
          have e1b : decide (0 < ev) = false := by simp; omega
          go_wp2_with (refine wpList_store5 rfl _ _ rfl rfl w2.heap.size #[.string ⟨#[]⟩, .int .i64 0, .int .u64 0, .int .u64 0, .slice none 0 0] rfl rfl hB8 hcs rfl rfl ?_; intro w9 hb9 hg9; clear c0 c1 c2 c3 c4; obtain ⟨c0, c1, c2, c3, c4, _⟩ := own_five ((hg9.block W.heap.size (by omega) (by simp; omega)).trans hB); clear hB8)
          have hbl9 := below_row hbl hg9 (by omega)
          have hal := alive_any w9 (hD.out.below hbl9 (Nat.le_refl _))
          refine hal.mono ?_
          rintro r w10 ⟨rfl, hg10⟩
          have hfin : Hid _ := ⟨hbl9.trans ((below_of' hg10).mono hbl9.size)⟩
          clear hal hg10 hbl9
          go_wp2
          go_ret
          exact ⟨rfl, hfin.out⟩
        · have e1 : decide (ev > 0) = true := by simp; omega
          have e1b : decide (0 < ev) = true := by simp; omega
          have e2 : decide (a ≤ 4611686018427387904) = false := by simp; omega
          go_wp2_with (refine wpList_store5 rfl _ _ rfl rfl w2.heap.size #[.string ⟨#[]⟩, .int .i64 0, .int .u64 0, .int .u64 0, .slice none 0 0] rfl rfl hB8 hcs rfl rfl ?_; intro w9 hb9 hg9; clear c0 c1 c2 c3 c4; obtain ⟨c0, c1, c2, c3, c4, _⟩ := own_five ((hg9.block W.heap.size (by omega) (by simp; omega)).trans hB); clear hB8)
          have hbl9 := below_row hbl hg9 (by omega)
          have hal := alive_any w9 (hD.out.below hbl9 (Nat.le_refl _))
          refine hal.mono ?_
          rintro r w10 ⟨rfl, hg10⟩
          have hfin : Hid _ := ⟨hbl9.trans ((below_of' hg10).mono hbl9.size)⟩
          clear hal hg10 hbl9
          go_wp2
          go_ret
          exact ⟨rfl, hfin.out⟩
        · have e1 : decide (ev > 0) = true := by simp; omega
          have e1b : decide (0 < ev) = true := by simp; omega
          have e2 : decide (a ≤ 4611686018427387904) = true := by simpa using hc2
          have e3 : decide (ev ≤ 4611686018427387904 - a) = false := by simp; omega
          have hw2 := hw1 hc2
          go_wp2_with (refine wpList_store5 rfl _ _ rfl rfl w2.heap.size #[.string ⟨#[]⟩, .int .i64 0, .int .u64 0, .int .u64 0, .slice none 0 0] rfl rfl hB8 hcs rfl rfl ?_; intro w9 hb9 hg9; clear c0 c1 c2 c3 c4; obtain ⟨c0, c1, c2, c3, c4, _⟩ := own_five ((hg9.block W.heap.size (by omega) (by simp; omega)).trans hB); clear hB8)
          have hbl9 := below_row hbl hg9 (by omega)
          have hal := alive_any w9 (hD.out.below hbl9 (Nat.le_refl _))
          refine hal.mono ?_
          rintro r w10 ⟨rfl, hg10⟩
          have hfin : Hid _ := ⟨hbl9.trans ((below_of' hg10).mono hbl9.size)⟩
          clear hal hg10 hbl9
          go_wp2
          go_ret
          exact ⟨rfl, hfin.out⟩
    · have hdi : decide ((i : Int) < n) = false := by simp; omega
      have hal := alive_any wr (hD.out.below hR.out.bl (Nat.le_refl _))
      replace hal : Hid _ := ⟨hal⟩
      go_wp2_with fail
      refine hal.out.mono ?_
      rintro r w9 ⟨rfl, hg9⟩
      have hfin : Hid _ := ⟨hR.out.bl.trans ((below_of' hg9).mono hR.out.bl.size)⟩
      clear hal hR hg9
      go_wp2
      go_ret
      exact ⟨rfl, hfin.out⟩
set_option maxRecDepth 100000 in
set_option maxHeartbeats 8000000 in
theorem af_fh (nm : ByteArray) (vr at_ ev : Int) (v : Value) (xs : List Sp) (now n : Int) (W : World) (hD : Dr W) (hx : Sps W.heap.size W v xs) (hxb0 : ∀ k, v.ownBlock = some k → k < W.heap.size) (ha : V.U at_) (he : V.U ev) (hn : V.U now)
    (hfit : (fewB xs && decide (nm.size ≤ 100)) = true) (hn20 : 0 ≤ n ∧ n ≤ 20) (haf : aft ⟨nm, vr, at_, ev, v, xs⟩ now = false) (hlow : now < at_) :
    Calls Tryz.prog 5 #[(⟨nm, vr, at_, ev, v, xs⟩ : Tmr).val, .int .u64 now, .int .i64 n] W fun e W' => e = .returned (.bool true) ∧ Below W.heap.size W W' := by
  obtain ⟨va, vc, rfl, _⟩ := hx.shape
  have n1 : decide (n < 0) = false := by simp; omega
  have n2 : decide (n > 20) = false := by simp; omega
  have n3 : decide (20 < n) = false := by simp; omega
  have hxl : xs.length ≤ 100000 := by
    simp only [Bool.and_eq_true, decide_eq_true_eq, fewB] at hfit
    omega
  simp only [Tmr.val]
  have hga := World.grownBy_alloc W (bT nm vr at_ ev (.slice va xs.length vc)) none
  have hfi := fits_any (W.alloc (bT nm vr at_ ev (.slice va xs.length vc))) ⟨nm, vr, at_, ev, .slice va xs.length vc, xs⟩ ((hx.keep hga (Nat.le_refl _)).up hga.size)
  rw [hfit] at hfi
  simp only [Tmr.val] at hfi
  replace hfi : Hid _ := ⟨hfi⟩
  have hB := World.alloc_heap_new W (bT nm vr at_ ev (.slice va xs.length vc))
  obtain ⟨c0, c1, c2, c3, c4, _⟩ := own_five hB
  replace hx : Hid _ := ⟨hx⟩
  replace hD : Hid _ := ⟨hD⟩
  go_enter Tryz.func5, Tryz.ntmps5
  go_wp2_with fail
  refine hfi.out.mono ?_
  rintro r w1 ⟨rfl, hg1⟩
  have hB1 := (hg1.block W.heap.size (by simp) (by simp)).trans hB
  have hg01 := grown_none hga hg1
  clear hfi c0 c1 c2 c3 c4 hB hg1 hga
  obtain ⟨c0, c1, c2, c3, c4, _⟩ := own_five hB1
  have haft := after_any w1 ⟨nm, vr, at_, ev, .slice va xs.length vc, xs⟩ ((hx.out.keep hg01 (Nat.le_refl _)).up hg01.size) hxl ha he hn
  simp only [Tmr.val] at haft
  replace haft : Hid _ := ⟨haft⟩
  go_wp2_with fail
  refine haft.out.mono ?_
  rintro r w2 ⟨hg12, hno, hyes⟩
  have hg02 := grown_none hg01 hg12
  have hB2 := (hg12.block _ (Array.getElem?_eq_some_iff.1 hB1).1 (by simp)).trans hB1
  clear c0 c1 c2 c3 c4 haft hB1
  obtain rfl := hno haf
  have hnn := aft_no haf
  simp only at hnn
  have hga3 := World.grownBy_alloc w2 zT none
  have hg03 := grown_none hg02 hga3
  have hB3 := (hga3.block _ (Array.getElem?_eq_some_iff.1 hB2).1 (by simp)).trans hB2
  have hB8 := World.alloc_heap_new w2 zT
  simp only [zTv]
  obtain ⟨c0, c1, c2', c3, c4, f4⟩ := own_five hB3
  have hst : Hid (AfS W (w2.alloc zT) W.heap.size w2.heap.size nm vr ev xs) := ⟨⟨at_, va, vc, hB3, (hx.out.keep hg03 (Nat.le_refl _)).up hg03.size, ha, fun k hk => by
    have h1 := hxb0 k hk
    have h2 := hg03.size
    have h4 := (Array.getElem?_eq_some_iff.1 hB2).1
    have h5 := hg02.size
    exact ⟨by omega, by omega, by omega⟩⟩, ⟨_, rfl, hB8⟩, ⟨Nat.le_refl _, (Array.getElem?_eq_some_iff.1 hB2).1⟩, below_of' hg03⟩
  have r1 : decide (at_ > now) = true := by simp; omega
  have r1b : decide (now < at_) = true := by simp; omega
  have r2 : decide (at_ ≤ 4611686018427387904) = false := by simp; omega
  clear hB2 hg03 hga3 hno hyes hg12 hg02 hg01 hx hB3 hB8
  go_wp2_with fail
  go_loopw [14] (fun iv wr => ∃ i : Nat, iv = .int .i64 i ∧ (i : Int) ≤ n ∧ Hid (AfS W wr W.heap.size w2.heap.size nm vr ev xs)) (fun iv _ => n.toNat - (intOf iv).toNat)
  case atStart => exact ⟨0, rfl, by omega, hst⟩
  case round =>
    clear hst
    obtain ⟨i, rfl, hi, hR⟩ := hrel
    by_cases hlt : (i : Int) < n
    · have hdi : decide ((i : Int) < n) = true := by simpa using hlt
      obtain ⟨⟨a, va, vc, hB, hs, hu, hvb⟩, ⟨cs, hcs, hB8⟩, hle, hbl⟩ := hR.out
      obtain ⟨c0, c1, c2, c3, c4, _⟩ := own_five hB
      have haft := after_any wr ⟨nm, vr, a, ev, .slice va xs.length vc, xs⟩ hs hxl hu he (now := a) hu
      obtain ⟨hse, hsq⟩ := aft_self (x := ⟨nm, vr, a, ev, .slice va xs.length vc, xs⟩) hu he
      simp only [Tmr.val] at haft
      simp only at hse hsq
      replace haft : Hid _ := ⟨haft⟩
      have hul := hu.1
      have hel := he.1
      go_wp2_with fail
      refine haft.out.mono ?_
      rintro r w8 ⟨hg8, hno, hyes⟩
      have hs8g := hg8.size
      have hBl := (Array.getElem?_eq_some_iff.1 hB).1
      have hB8l := (Array.getElem?_eq_some_iff.1 hB8).1
      have hB := (hg8.block _ hBl (by simp)).trans hB
      have hB8 := (hg8.block _ hB8l (by simp)).trans hB8
      have hbl := hbl.trans ((below_of' hg8).mono hbl.size)
      clear c0 c1 c2 c3 c4 haft hR
      obtain ⟨c0, c1, c2, c3, c4, _⟩ := own_five hB
      by_cases haf2 : aft ⟨nm, vr, a, ev, .slice va xs.length vc, xs⟩ a = true
      · obtain ⟨k1, k2, k3⟩ := hse.1 haf2
        have hq := hsq haf2
        obtain ⟨v8, rfl, hs8, hv8⟩ := hyes haf2
        obtain ⟨a8, c8, rfl, _⟩ := hs8.shape
        rw [hq]
        have e1 : decide (ev > 0) = true := by simp; omega
        have e1b : decide (0 < ev) = true := by simp; omega
        have e2 : decide (a ≤ 4611686018427387904) = true := by simpa using k2
        have hw1 : IntKind.u64.wrap (4611686018427387904 - a) = 4611686018427387904 - a := by rw [IntKind.wrap_u64]; omega
        have hw2 : IntKind.u64.wrap (a + ev - a) = ev := by rw [IntKind.wrap_u64]; omega
        have e3 : decide (ev ≤ 4611686018427387904 - a) = true := by simpa using k3
        have e4 : (ev != ev) = false := by simp
        have hw3 : a + ev - a = ev := by omega
        have hnw : V.U (a + ev) := by constructor <;> omega
        clear hno hyes hse hsq hu hs hvb haf2 hq
        go_wp2_with (first
          | (refine wpList_store5 rfl _ _ rfl rfl w2.heap.size #[.string nm, .int .i64 vr, .int .u64 (a + ev), .int .u64 ev, .slice a8 xs.length c8] rfl rfl hB8 hcs rfl rfl ?_
             intro w9 hb9 hg9
             clear c0 c1 c2 c3 c4
             obtain ⟨d0, d1, d2, d3, d4, _⟩ := own_five hb9
             have hBn := (hg9.block W.heap.size (by omega) (by simp; omega)).trans hB
             obtain ⟨c0, c1, c2, c3, c4, _⟩ := own_five hBn
             clear hB8)
          | (refine wpList_store5 rfl _ _ rfl rfl W.heap.size #[.string nm, .int .i64 vr, .int .u64 (a + ev), .int .u64 ev, .slice a8 xs.length c8] rfl rfl hBn rfl rfl rfl ?_
             intro w10 hb10 hg10
             clear hBn))
        have hnext : Hid (AfS W w10 W.heap.size w2.heap.size nm vr ev xs) := ⟨⟨a + ev, a8, c8, hb10, (hs8.kept fun k hk hl => (hg10.block k (by have := hg9.size; omega) (by have := hv8 k hk; simp; omega)).trans (hg9.block k hl (by have := hv8 k hk; simp; omega))).up (by have := hg9.size; have := hg10.size; omega), hnw, fun k hk => by
          have h1 := hv8 k hk
          have h2 := hg9.size
          have h3 := hg10.size
          exact ⟨by omega, by omega, by omega⟩⟩, ⟨_, rfl, (hg10.block w2.heap.size (by have := hg9.size; omega) (by simp; omega)).trans hb9⟩, hle, below_row (below_row hbl hg9 (by omega)) hg10 (Nat.le_refl _)⟩
        exact ⟨⟨i + 1, by go_num, by omega, hnext⟩, by simp [intOf] <;> omega⟩
      · have haf3 : aft ⟨nm, vr, a, ev, .slice va xs.length vc, xs⟩ a = false := by simpa using haf2
        obtain rfl := hno haf3
        have hcase : ev = 0 ∨ (0 < ev ∧ 4611686018427387904 < a) ∨ (0 < ev ∧ a ≤ 4611686018427387904 ∧ 4611686018427387904 - a < ev) := by
          have := mt hse.2 haf2
          omega
        simp only [zTv]
        clear hno hyes hse hsq hs hvb haf2 haf3
        have hw1 : a ≤ 4611686018427387904 → IntKind.u64.wrap (4611686018427387904 - a) = 4611686018427387904 - a := fun h => by rw [IntKind.wrap_u64]; omega
        rcases hcase with hc | ⟨hc1, hc2⟩ | ⟨hc1, hc2, hc3⟩
        · have e1 : decide (ev > 0) = false := by simp; omega
          have e1b : decide (0 < ev) = false := by simp; omega
          go_wp2_with (refine wpList_store5 rfl _ _ rfl rfl w2.heap.size #[.string ⟨#[]⟩, .int .i64 0, .int .u64 0, .int .u64 0, .slice none 0 0] rfl rfl hB8 hcs rfl rfl ?_; intro w9 hb9 hg9; clear c0 c1 c2 c3 c4; obtain ⟨c0, c1, c2, c3, c4, _⟩ := own_five ((hg9.block W.heap.size (by omega) (by simp; omega)).trans hB); clear hB8)
          have hbl9 := below_row hbl hg9 (by omega)
          have hal := alive_any w9 (hD.out.below hbl9 (Nat.le_refl _))
          refine hal.mono ?_
          rintro r w10 ⟨rfl, hg10⟩
          have hfin : Hid _ := ⟨hbl9.trans ((below_of' hg10).mono hbl9.size)⟩
          clear hal hg10 hbl9
          go_wp2
          go_ret
          exact ⟨rfl, hfin.out⟩
        · have e1 : decide (ev > 0) = true := by simp; omega
          have e1b : decide (0 < ev) = true := by simp; omega
          have e2 : decide (a ≤ 4611686018427387904) = false := by simp; omega
          go_wp2_with (refine wpList_store5 rfl _ _ rfl rfl w2.heap.size #[.string ⟨#[]⟩, .int .i64 0, .int .u64 0, .int .u64 0, .slice none 0 0] rfl rfl hB8 hcs rfl rfl ?_; intro w9 hb9 hg9; clear c0 c1 c2 c3 c4; obtain ⟨c0, c1, c2, c3, c4, _⟩ := own_five ((hg9.block W.heap.size (by omega) (by simp; omega)).trans hB); clear hB8)
          have hbl9 := below_row hbl hg9 (by omega)
          have hal := alive_any w9 (hD.out.below hbl9 (Nat.le_refl _))
          refine hal.mono ?_
          rintro r w10 ⟨rfl, hg10⟩
          have hfin : Hid _ := ⟨hbl9.trans ((below_of' hg10).mono hbl9.size)⟩
          clear hal hg10 hbl9
          go_wp2
          go_ret
          exact ⟨rfl, hfin.out⟩
        · have e1 : decide (ev > 0) = true := by simp; omega
          have e1b : decide (0 < ev) = true := by simp; omega
          have e2 : decide (a ≤ 4611686018427387904) = true := by simpa using hc2
          have e3 : decide (ev ≤ 4611686018427387904 - a) = false := by simp; omega
          have hw2 := hw1 hc2
          go_wp2_with (refine wpList_store5 rfl _ _ rfl rfl w2.heap.size #[.string ⟨#[]⟩, .int .i64 0, .int .u64 0, .int .u64 0, .slice none 0 0] rfl rfl hB8 hcs rfl rfl ?_; intro w9 hb9 hg9; clear c0 c1 c2 c3 c4; obtain ⟨c0, c1, c2, c3, c4, _⟩ := own_five ((hg9.block W.heap.size (by omega) (by simp; omega)).trans hB); clear hB8)
          have hbl9 := below_row hbl hg9 (by omega)
          have hal := alive_any w9 (hD.out.below hbl9 (Nat.le_refl _))
          refine hal.mono ?_
          rintro r w10 ⟨rfl, hg10⟩
          have hfin : Hid _ := ⟨hbl9.trans ((below_of' hg10).mono hbl9.size)⟩
          clear hal hg10 hbl9
          go_wp2
          go_ret
          exact ⟨rfl, hfin.out⟩
    · have hdi : decide ((i : Int) < n) = false := by simp; omega
      have hal := alive_any wr (hD.out.below hR.out.bl (Nat.le_refl _))
      replace hal : Hid _ := ⟨hal⟩
      go_wp2_with fail
      refine hal.out.mono ?_
      rintro r w9 ⟨rfl, hg9⟩
      have hfin : Hid _ := ⟨hR.out.bl.trans ((below_of' hg9).mono hR.out.bl.size)⟩
      clear hal hR hg9
      go_wp2
      go_ret
      exact ⟨rfl, hfin.out⟩
theorem after_walk (x : Tmr) (now n : Int) (W : World) (hD : Dr W) (hx : Sps W.heap.size W x.v x.xs) (hxb : ∀ k, x.v.ownBlock = some k → k < W.heap.size) (ha : V.U x.at_) (he : V.U x.ev) (hn : V.U now) :
    Calls Tryz.prog 5 #[x.val, .int .u64 now, .int .i64 n] W fun e W' => e = .returned (.bool true) ∧ Below W.heap.size W W' := by
  obtain ⟨nm, vr, at_, ev, v, xs⟩ := x
  cases hfit : (fewB xs && decide (nm.size ≤ 100)) with
  | false => exact af_nf nm vr at_ ev v xs now n W hD hx hxb ha he hn hfit
  | true =>
    by_cases h1 : n < 0
    · exact af_n0 nm vr at_ ev v xs now n W hD hx hxb ha he hn hfit h1
    · by_cases h2 : 20 < n
      · exact af_n2 nm vr at_ ev v xs now n W hD hx hxb ha he hn hfit h2
      · cases haf : aft ⟨nm, vr, at_, ev, v, xs⟩ now with
        | true => exact af_t nm vr at_ ev v xs now n W hD hx hxb ha he hn hfit ⟨by omega, by omega⟩ haf
        | false =>
          by_cases h3 : at_ ≤ now
          · exact af_fl nm vr at_ ev v xs now n W hD hx hxb ha he hn hfit ⟨by omega, by omega⟩ haf h3
          · exact af_fh nm vr at_ ev v xs now n W hD hx hxb ha he hn hfit ⟨by omega, by omega⟩ haf (by omega)
end Go.Proofs.YtblnhcnfeagjhaaGreatDoor
