/- The walk of TimersRight. -/
import Derived.Test.YtblnhcnfeagjhaaGreatDoorRsr
namespace Go.Proofs.YtblnhcnfeagjhaaGreatDoor
open Go.RowKit Go.IntWalk Go.Maps Go.Shelf
set_option linter.unusedVariables false
set_option linter.unusedSimpArgs false
/-- What the law has in its two boxes. -/
theorem rt_box (W : World) (nm : ByteArray) (vr at_ ev : Int) (v : Value) (kd : Int) (ky vl : ByteArray) (n : Int) : ∀ w', ((W.alloc (bT nm vr at_ ev v)).alloc (.cells #[.int .i64 kd, .string ky, .string vl, .int .i64 n] 47)).grownBy w' none →
    (w'.cell? ⟨W.heap.size, 0, none⟩ = some (.string nm) ∧ w'.cell? ⟨W.heap.size, 1, none⟩ = some (.int .i64 vr) ∧ w'.cell? ⟨W.heap.size, 2, none⟩ = some (.int .u64 at_) ∧ w'.cell? ⟨W.heap.size, 3, none⟩ = some (.int .u64 ev) ∧ w'.cell? ⟨W.heap.size, 4, none⟩ = some v) ∧
    w'.cell? ⟨W.heap.size + 1, 0, none⟩ = some (.int .i64 kd) ∧ w'.cell? ⟨W.heap.size + 1, 1, none⟩ = some (.string ky) ∧ w'.cell? ⟨W.heap.size + 1, 2, none⟩ = some (.string vl) ∧ w'.cell? ⟨W.heap.size + 1, 3, none⟩ = some (.int .i64 n) := fun w' hg => by
  have hb1 : ((W.alloc (bT nm vr at_ ev v)).alloc (.cells #[.int .i64 kd, .string ky, .string vl, .int .i64 n] 47)).heap[W.heap.size]? = some (bT nm vr at_ ev v) := by
    rw [(World.grownBy_alloc (W.alloc (bT nm vr at_ ev v)) (.cells #[.int .i64 kd, .string ky, .string vl, .int .i64 n] 47) none).block W.heap.size (by simp) (by simp)]
    exact World.alloc_heap_new W _
  have hb2 : ((W.alloc (bT nm vr at_ ev v)).alloc (.cells #[.int .i64 kd, .string ky, .string vl, .int .i64 n] 47)).heap[W.heap.size + 1]? = some (.cells #[.int .i64 kd, .string ky, .string vl, .int .i64 n] 47) := by simpa using World.alloc_heap_new (W.alloc (bT nm vr at_ ev v)) (.cells #[.int .i64 kd, .string ky, .string vl, .int .i64 n] 47)
  have h1 := (hg.block W.heap.size (by simp; omega) (by simp)).trans hb1
  have h2 := (hg.block (W.heap.size + 1) (by simp) (by simp)).trans hb2
  obtain ⟨c0, c1, c2, c3, c4, _⟩ := own_five h1
  exact ⟨⟨c0, c1, c2, c3, c4⟩, by simp [World.cell?, h2], by simp [World.cell?, h2], by simp [World.cell?, h2], by simp [World.cell?, h2]⟩
def suf : ByteArray := ⟨#[48, 49, 50, 51, 52, 53, 54, 55, 56, 57, 97, 98, 99, 100, 101, 102]⟩
/-- Five new blocks. -/
theorem allocs5 (w : World) (c1 c2 c3 c4 c5 : Array Value) (t1 t2 t3 t4 t5 : TypeId) (w8 : World) (h : w8 = ((((w.alloc (.cells c1 t1)).alloc (.cells c2 t2)).alloc (.cells c3 t3)).alloc (.cells c4 t4)).alloc (.cells c5 t5)) :
    w.grownBy w8 none ∧ w8.heap.size = w.heap.size + 1 + 1 + 1 + 1 + 1 ∧ w8.heap[w.heap.size + 1]? = some (.cells c2 t2) ∧ w8.heap[w.heap.size + 1 + 1]? = some (.cells c3 t3) ∧ w8.heap[w.heap.size + 1 + 1 + 1]? = some (.cells c4 t4) ∧ w8.heap[w.heap.size + 1 + 1 + 1 + 1]? = some (.cells c5 t5) := by
  subst h
  have g1 := World.grownBy_alloc w (.cells c1 t1) none
  have g2 := World.grownBy_alloc (w.alloc (.cells c1 t1)) (.cells c2 t2) none
  have g3 := World.grownBy_alloc ((w.alloc (.cells c1 t1)).alloc (.cells c2 t2)) (.cells c3 t3) none
  have g4 := World.grownBy_alloc (((w.alloc (.cells c1 t1)).alloc (.cells c2 t2)).alloc (.cells c3 t3)) (.cells c4 t4) none
  have g5 := World.grownBy_alloc ((((w.alloc (.cells c1 t1)).alloc (.cells c2 t2)).alloc (.cells c3 t3)).alloc (.cells c4 t4)) (.cells c5 t5) none
  have n2 := World.alloc_heap_new (w.alloc (.cells c1 t1)) (.cells c2 t2)
  have n3 := World.alloc_heap_new ((w.alloc (.cells c1 t1)).alloc (.cells c2 t2)) (.cells c3 t3)
  have n4 := World.alloc_heap_new (((w.alloc (.cells c1 t1)).alloc (.cells c2 t2)).alloc (.cells c3 t3)) (.cells c4 t4)
  have n5 := World.alloc_heap_new ((((w.alloc (.cells c1 t1)).alloc (.cells c2 t2)).alloc (.cells c3 t3)).alloc (.cells c4 t4)) (.cells c5 t5)
  simp only [World.size_alloc] at n2 n3 n4 n5
  refine ⟨grown_none (grown_none (grown_none (grown_none g1 g2) g3) g4) g5, by simp, ?_, ?_, ?_, n5⟩
  · exact ((grown_none (grown_none g3 g4) g5).block _ (by simp) (by simp)).trans n2
  · exact ((grown_none g4 g5).block _ (by simp) (by simp)).trans n3
  · exact (g5.block _ (by simp) (by simp)).trans n4
theorem tR_big {nm : ByteArray} {vr a e : Int} {v : Value} {xs : List Sp} (h : 16 < nm.size) : tR ⟨nm, vr, a, e, v, xs⟩ = false := by
  cases hh : tR ⟨nm, vr, a, e, v, xs⟩ with
  | false => rfl
  | true => have := (tR_iff _).1 hh; simp only at this; omega
theorem tR_at {nm : ByteArray} {vr e : Int} {v : Value} {xs : List Sp} : tR ⟨nm, vr, 4611686018427387905, e, v, xs⟩ = false := by
  cases hh : tR ⟨nm, vr, 4611686018427387905, e, v, xs⟩ with
  | false => rfl
  | true => have := (tR_iff _).1 hh; simp only at this; omega
theorem tR_vr {nm : ByteArray} {a e : Int} {v : Value} {xs : List Sp} : tR ⟨nm, 0, a, e, v, xs⟩ = false := by
  cases hh : tR ⟨nm, 0, a, e, v, xs⟩ with
  | false => rfl
  | true => have := (tR_iff _).1 hh; simp only at this; omega
theorem tR_do {nm : ByteArray} {vr a e : Int} {v u : Value} {xs : List Sp} (s : Sp) (h : tR ⟨nm, vr, a, e, v, xs⟩ = true) : tR ⟨nm, vr, a, e, u, [s]⟩ = rgt s := by
  have hh := (tR_iff _).1 h
  simp only at hh
  cases hs : rgt s with
  | true =>
    refine (tR_iff _).2 ⟨hh.1, hh.2.1, hh.2.2.1, hh.2.2.2.1, ?_⟩
    simp [wrE, hs]
  | false =>
    cases h2 : tR ⟨nm, vr, a, e, u, [s]⟩ with
    | false => rfl
    | true =>
      have := ((tR_iff _).1 h2).2.2.2.2
      simp [wrE, hs] at this
set_option maxRecDepth 100000 in
set_option maxHeartbeats 8000000 in
theorem rt_nf (nm : ByteArray) (vr at_ ev : Int) (v : Value) (xs : List Sp) (kd : Int) (ky vl : K) (n : Int) (W : World) (hD : Dr W) (hx : Sps W.heap.size W v xs) (hs : (⟨kd, ky, vl, n⟩ : Sp).ok) (h0 : 0 ≤ at_ ∧ 0 ≤ ev)
    (hfit : (fewB xs && decide (nm.size ≤ 100)) = false) :
    Calls Tryz.prog 6 #[(⟨nm, vr, at_, ev, v, xs⟩ : Tmr).val, (⟨kd, ky, vl, n⟩ : Sp).val] W fun e W' => e = .returned (.bool true) ∧ Below W.heap.size W W' := by
  obtain ⟨va, vc, rfl, _⟩ := hx.shape
  simp only [Tmr.val, Sp.val]
  have z1 := bt_size ky
  have z2 := bt_size vl
  have hga := grown_none (World.grownBy_alloc W (bT nm vr at_ ev (.slice va xs.length vc)) none) (World.grownBy_alloc (W.alloc (bT nm vr at_ ev (.slice va xs.length vc))) (.cells #[.int .i64 kd, .string (bt ky), .string (bt vl), .int .i64 n] 47) none)
  have hkeep : Hid (∀ w', ((W.alloc (bT nm vr at_ ev (.slice va xs.length vc))).alloc (.cells #[.int .i64 kd, .string (bt ky), .string (bt vl), .int .i64 n] 47)).grownBy w' none → Sps w'.heap.size w' (.slice va xs.length vc) xs ∧ Dr w') := ⟨fun w' hg => by
    have hg2 := grown_none hga hg
    exact ⟨(hx.keep hg2 (Nat.le_refl _)).up hg2.size, hD.keep hg2⟩⟩
  have hbox : Hid _ := ⟨rt_box W nm vr at_ ev (.slice va xs.length vc) kd (bt ky) (bt vl) n⟩
  have hfi := fits_any ((W.alloc (bT nm vr at_ ev (.slice va xs.length vc))).alloc (.cells #[.int .i64 kd, .string (bt ky), .string (bt vl), .int .i64 n] 47)) ⟨nm, vr, at_, ev, .slice va xs.length vc, xs⟩ (hkeep.out _ (grown_refl _)).1
  rw [hfit] at hfi
  simp only [Tmr.val] at hfi
  replace hfi : Hid _ := ⟨hfi⟩
  obtain ⟨⟨c0, c1, c2, c3, c4⟩, d0, d1, d2, d3⟩ := hbox.out _ (grown_refl _)
  replace hga : Hid _ := ⟨hga⟩
  replace hx : Hid _ := ⟨hx⟩
  go_enter Tryz.func6, Tryz.ntmps6
  go_wp2_with fail
  refine hfi.out.mono ?_
  rintro r w1 ⟨rfl, hg1⟩
  have hnw := new_t w1 0 (by omega)
  clear c0 c1 c2 c3 c4 d0 d1 d2 d3 hfi
  replace hnw : Hid _ := ⟨hnw⟩
  go_wp2_with fail
  refine hnw.out.mono ?_
  rintro r w2 ⟨tb, rfl, hT2, hg12⟩
  have hg2 := grown_none hg1 hg12
  have hl1 := hg1.size
  obtain ⟨⟨c0, c1, c2, c3, c4⟩, d0, d1, d2, d3⟩ := hbox.out _ hg2
  clear hnw
  have hfin : Hid _ := ⟨below_of' (grown_none hga.out hg2)⟩
  clear hT2 hg12 hg2 hg1 hbox hkeep hga hx
  go_wp2
  go_ret
  exact ⟨rfl, hfin.out⟩
set_option maxRecDepth 100000 in
set_option maxHeartbeats 8000000 in
theorem rt_sk (nm : ByteArray) (vr at_ ev : Int) (v : Value) (xs : List Sp) (kd : Int) (ky vl : K) (n : Int) (W : World) (hD : Dr W) (hx : Sps W.heap.size W v xs) (hs : (⟨kd, ky, vl, n⟩ : Sp).ok) (h0 : 0 ≤ at_ ∧ 0 ≤ ev)
    (hfit : (fewB xs && decide (nm.size ≤ 100)) = true) (hkl : 100 < ky.length) :
    Calls Tryz.prog 6 #[(⟨nm, vr, at_, ev, v, xs⟩ : Tmr).val, (⟨kd, ky, vl, n⟩ : Sp).val] W fun e W' => e = .returned (.bool true) ∧ Below W.heap.size W W' := by
  obtain ⟨va, vc, rfl, _⟩ := hx.shape
  have p1 : decide ((ky.length : Int) > 100) = true := by simp; omega
  have p1' : 100 < (ky.length : Int) := by omega
  simp only [Tmr.val, Sp.val]
  have z1 := bt_size ky
  have z2 := bt_size vl
  have hga := grown_none (World.grownBy_alloc W (bT nm vr at_ ev (.slice va xs.length vc)) none) (World.grownBy_alloc (W.alloc (bT nm vr at_ ev (.slice va xs.length vc))) (.cells #[.int .i64 kd, .string (bt ky), .string (bt vl), .int .i64 n] 47) none)
  have hkeep : Hid (∀ w', ((W.alloc (bT nm vr at_ ev (.slice va xs.length vc))).alloc (.cells #[.int .i64 kd, .string (bt ky), .string (bt vl), .int .i64 n] 47)).grownBy w' none → Sps w'.heap.size w' (.slice va xs.length vc) xs ∧ Dr w') := ⟨fun w' hg => by
    have hg2 := grown_none hga hg
    exact ⟨(hx.keep hg2 (Nat.le_refl _)).up hg2.size, hD.keep hg2⟩⟩
  have hbox : Hid _ := ⟨rt_box W nm vr at_ ev (.slice va xs.length vc) kd (bt ky) (bt vl) n⟩
  have hfi := fits_any ((W.alloc (bT nm vr at_ ev (.slice va xs.length vc))).alloc (.cells #[.int .i64 kd, .string (bt ky), .string (bt vl), .int .i64 n] 47)) ⟨nm, vr, at_, ev, .slice va xs.length vc, xs⟩ (hkeep.out _ (grown_refl _)).1
  rw [hfit] at hfi
  simp only [Tmr.val] at hfi
  replace hfi : Hid _ := ⟨hfi⟩
  obtain ⟨⟨c0, c1, c2, c3, c4⟩, d0, d1, d2, d3⟩ := hbox.out _ (grown_refl _)
  replace hga : Hid _ := ⟨hga⟩
  replace hx : Hid _ := ⟨hx⟩
  go_enter Tryz.func6, Tryz.ntmps6
  go_wp2_with fail
  refine hfi.out.mono ?_
  rintro r w1 ⟨rfl, hg1⟩
  have hnw := new_t w1 0 (by omega)
  clear c0 c1 c2 c3 c4 d0 d1 d2 d3 hfi
  replace hnw : Hid _ := ⟨hnw⟩
  go_wp2_with fail
  refine hnw.out.mono ?_
  rintro r w2 ⟨tb, rfl, hT2, hg12⟩
  have hg2 := grown_none hg1 hg12
  have hl1 := hg1.size
  obtain ⟨⟨c0, c1, c2, c3, c4⟩, d0, d1, d2, d3⟩ := hbox.out _ hg2
  clear hnw
  have hfin : Hid _ := ⟨below_of' (grown_none hga.out hg2)⟩
  clear hT2 hg12 hg2 hg1 hbox hkeep hga hx
  go_wp2
  go_ret
  exact ⟨rfl, hfin.out⟩
set_option maxRecDepth 100000 in
set_option maxHeartbeats 8000000 in
theorem rt_sv (nm : ByteArray) (vr at_ ev : Int) (v : Value) (xs : List Sp) (kd : Int) (ky vl : K) (n : Int) (W : World) (hD : Dr W) (hx : Sps W.heap.size W v xs) (hs : (⟨kd, ky, vl, n⟩ : Sp).ok) (h0 : 0 ≤ at_ ∧ 0 ≤ ev)
    (hfit : (fewB xs && decide (nm.size ≤ 100)) = true) (hkl : ky.length ≤ 100) (hvl : 100 < vl.length) :
    Calls Tryz.prog 6 #[(⟨nm, vr, at_, ev, v, xs⟩ : Tmr).val, (⟨kd, ky, vl, n⟩ : Sp).val] W fun e W' => e = .returned (.bool true) ∧ Below W.heap.size W W' := by
  obtain ⟨va, vc, rfl, _⟩ := hx.shape
  have p1 : decide ((ky.length : Int) > 100) = false := by simp; omega
  have p1' : (ky.length : Int) ≤ 100 := by omega
  have p2 : decide ((vl.length : Int) > 100) = true := by simp; omega
  have p2' : 100 < (vl.length : Int) := by omega
  simp only [Tmr.val, Sp.val]
  have z1 := bt_size ky
  have z2 := bt_size vl
  have hga := grown_none (World.grownBy_alloc W (bT nm vr at_ ev (.slice va xs.length vc)) none) (World.grownBy_alloc (W.alloc (bT nm vr at_ ev (.slice va xs.length vc))) (.cells #[.int .i64 kd, .string (bt ky), .string (bt vl), .int .i64 n] 47) none)
  have hkeep : Hid (∀ w', ((W.alloc (bT nm vr at_ ev (.slice va xs.length vc))).alloc (.cells #[.int .i64 kd, .string (bt ky), .string (bt vl), .int .i64 n] 47)).grownBy w' none → Sps w'.heap.size w' (.slice va xs.length vc) xs ∧ Dr w') := ⟨fun w' hg => by
    have hg2 := grown_none hga hg
    exact ⟨(hx.keep hg2 (Nat.le_refl _)).up hg2.size, hD.keep hg2⟩⟩
  have hbox : Hid _ := ⟨rt_box W nm vr at_ ev (.slice va xs.length vc) kd (bt ky) (bt vl) n⟩
  have hfi := fits_any ((W.alloc (bT nm vr at_ ev (.slice va xs.length vc))).alloc (.cells #[.int .i64 kd, .string (bt ky), .string (bt vl), .int .i64 n] 47)) ⟨nm, vr, at_, ev, .slice va xs.length vc, xs⟩ (hkeep.out _ (grown_refl _)).1
  rw [hfit] at hfi
  simp only [Tmr.val] at hfi
  replace hfi : Hid _ := ⟨hfi⟩
  obtain ⟨⟨c0, c1, c2, c3, c4⟩, d0, d1, d2, d3⟩ := hbox.out _ (grown_refl _)
  replace hga : Hid _ := ⟨hga⟩
  replace hx : Hid _ := ⟨hx⟩
  go_enter Tryz.func6, Tryz.ntmps6
  go_wp2_with fail
  refine hfi.out.mono ?_
  rintro r w1 ⟨rfl, hg1⟩
  have hnw := new_t w1 0 (by omega)
  clear c0 c1 c2 c3 c4 d0 d1 d2 d3 hfi
  replace hnw : Hid _ := ⟨hnw⟩
  go_wp2_with fail
  refine hnw.out.mono ?_
  rintro r w2 ⟨tb, rfl, hT2, hg12⟩
  have hg2 := grown_none hg1 hg12
  have hl1 := hg1.size
  obtain ⟨⟨c0, c1, c2, c3, c4⟩, d0, d1, d2, d3⟩ := hbox.out _ hg2
  clear hnw
  have hfin : Hid _ := ⟨below_of' (grown_none hga.out hg2)⟩
  clear hT2 hg12 hg2 hg1 hbox hkeep hga hx
  go_wp2
  go_ret
  exact ⟨rfl, hfin.out⟩
set_option maxRecDepth 100000 in
set_option maxHeartbeats 8000000 in
theorem rt_tw (nm : ByteArray) (vr at_ ev : Int) (v : Value) (xs : List Sp) (kd : Int) (ky vl : K) (n : Int) (W : World) (hD : Dr W) (hx : Sps W.heap.size W v xs) (hs : (⟨kd, ky, vl, n⟩ : Sp).ok) (h0 : 0 ≤ at_ ∧ 0 ≤ ev) (hxb0 : ∀ k, v.ownBlock = some k → k < W.heap.size)
    (hfit : (fewB xs && decide (nm.size ≤ 100)) = true) (hkl : ky.length ≤ 100 ∧ vl.length ≤ 100) (hr : tR ⟨nm, vr, at_, ev, v, xs⟩ = true) (ha : 0 < at_) :
    Calls Tryz.prog 6 #[(⟨nm, vr, at_, ev, v, xs⟩ : Tmr).val, (⟨kd, ky, vl, n⟩ : Sp).val] W fun e W' => e = .returned (.bool true) ∧ Below W.heap.size W W' := by
  obtain ⟨va, vc, rfl, _⟩ := hx.shape
  have hnms : nm.size ≤ 100 := by
    simp only [Bool.and_eq_true, decide_eq_true_eq] at hfit
    exact hfit.2
  have hnm : nm.size ≤ maxLen := by unfold maxLen; omega
  have hxl : xs.length ≤ 100000 := by
    simp only [Bool.and_eq_true, decide_eq_true_eq, fewB] at hfit
    omega
  have hlim : ¬ 9223372036854775807 < nm.size + 16 := by omega
  have p1 : decide ((ky.length : Int) > 100) = false := by simp; omega
  have p2 : decide ((vl.length : Int) > 100) = false := by simp; omega
  have p1' : ¬ 100 < (ky.length : Int) := by omega
  have p2' : ¬ 100 < (vl.length : Int) := by omega
  have p1'' : (ky.length : Int) ≤ 100 := by omega
  have p2'' : (vl.length : Int) ≤ 100 := by omega
  have htr := (tR_iff ⟨nm, vr, at_, ev, .slice va xs.length vc, xs⟩).1 hr
  simp only [Tmr.val, Sp.val]
  have z1 := bt_size ky
  have z2 := bt_size vl
  have hga := grown_none (World.grownBy_alloc W (bT nm vr at_ ev (.slice va xs.length vc)) none) (World.grownBy_alloc (W.alloc (bT nm vr at_ ev (.slice va xs.length vc))) (.cells #[.int .i64 kd, .string (bt ky), .string (bt vl), .int .i64 n] 47) none)
  have hkeep : Hid (∀ w', ((W.alloc (bT nm vr at_ ev (.slice va xs.length vc))).alloc (.cells #[.int .i64 kd, .string (bt ky), .string (bt vl), .int .i64 n] 47)).grownBy w' none → Sps w'.heap.size w' (.slice va xs.length vc) xs ∧ Dr w') := ⟨fun w' hg => by
    have hg2 := grown_none hga hg
    exact ⟨(hx.keep hg2 (Nat.le_refl _)).up hg2.size, hD.keep hg2⟩⟩
  have hxb : Hid (∀ k, (Value.slice va xs.length vc).ownBlock = some k → k < W.heap.size) := ⟨hxb0⟩
  have hbox : Hid _ := ⟨rt_box W nm vr at_ ev (.slice va xs.length vc) kd (bt ky) (bt vl) n⟩
  have hfi := fits_any ((W.alloc (bT nm vr at_ ev (.slice va xs.length vc))).alloc (.cells #[.int .i64 kd, .string (bt ky), .string (bt vl), .int .i64 n] 47)) ⟨nm, vr, at_, ev, .slice va xs.length vc, xs⟩ (hkeep.out _ (grown_refl _)).1
  rw [hfit] at hfi
  simp only [Tmr.val] at hfi
  replace hfi : Hid _ := ⟨hfi⟩
  obtain ⟨⟨c0, c1, c2, c3, c4⟩, d0, d1, d2, d3⟩ := hbox.out _ (grown_refl _)
  replace hga : Hid _ := ⟨hga⟩
  replace hx : Hid _ := ⟨hx⟩
  go_enter Tryz.func6, Tryz.ntmps6
  go_wp2_with fail
  refine hfi.out.mono ?_
  rintro r w1 ⟨rfl, hg1⟩
  have hnw := new_t w1 0 (by omega)
  clear c0 c1 c2 c3 c4 d0 d1 d2 d3 hfi
  replace hnw : Hid _ := ⟨hnw⟩
  go_wp2_with fail
  refine hnw.out.mono ?_
  rintro r w2 ⟨tb, rfl, hT2, hg12⟩
  have hg2 := grown_none hg1 hg12
  have hl1 := hg1.size
  obtain ⟨⟨c0, c1, c2, c3, c4⟩, d0, d1, d2, d3⟩ := hbox.out _ hg2
  clear hnw
  have hrt := tright_any w2 (hkeep.out _ hg2).2 ⟨nm, vr, at_, ev, .slice va xs.length vc, xs⟩ (hkeep.out _ hg2).1 ⟨hr⟩
  simp only [Tmr.val] at hrt
  replace hrt : Hid _ := ⟨hrt⟩
  go_wp2_with fail
  refine hrt.out.mono ?_
  rintro r w3 ⟨rfl, hg23⟩
  have hg3 := grown_none hg2 hg23
  have hT3 := hT2.keep hg23
  have hl2 := hg12.size
  have hl3 := hg23.size
  clear c0 c1 c2 c3 c4 d0 d1 d2 d3 hrt hT2
  obtain ⟨⟨c0, c1, c2, c3, c4⟩, d0, d1, d2, d3⟩ := hbox.out _ hg3
  have hst := set_wait w3 (hkeep.out _ hg3).2 hT3 (fun k hk => by have := hk.2; omega) ⟨nm, vr, at_, ev, .slice va xs.length vc, xs⟩ (hkeep.out _ hg3).1 (fun k hk e => by
    have h1 : k < W.heap.size := by
      have := hxb.out k hk
      exact this
    have h2 := e.1
    simp at hl1
    omega) h0 hr (by simp) ha
  simp only [Tmr.val] at hst
  replace hst : Hid _ := ⟨hst⟩
  go_wp2_with fail
  refine hst.out.mono ?_
  rintro r w4 ⟨rfl, ⟨v4, hT4⟩, hK4⟩
  have hg4 := grown_kp hg3 hK4 (fun j hj => by have := hj.1; omega)
  have hge := get_some w4 hT4 (x := ⟨nm, vr, at_, ev, v4, xs⟩) List.mem_cons_self
  simp only [Tmr.val] at hge
  replace hge : Hid _ := ⟨hge⟩
  clear c0 c1 c2 c3 c4 d0 d1 d2 d3 hst hT3 hK4 hT4
  obtain ⟨⟨c0, c1, c2, c3, c4⟩, d0, d1, d2, d3⟩ := hbox.out _ hg4
  go_wp2_with fail
  refine hge.out.mono ?_
  rintro r w5 ⟨hg45, v5, rfl, hs5, _⟩
  have hg5 := grown_none hg4 hg45
  obtain ⟨a5, c5, rfl, _⟩ := hs5.shape
  have hga5 := World.grownBy_alloc w5 (bT nm vr at_ ev (.slice a5 xs.length c5)) none
  have hg6 := grown_none hg5 hga5
  have hsm := tsame_any (w5.alloc (bT nm vr at_ ev (.slice a5 xs.length c5))) ⟨nm, vr, at_, ev, .slice va xs.length vc, xs⟩ ((hs5.keep hga5 (Nat.le_refl _)).up hga5.size) (hkeep.out _ hg6).1
  simp only [Tmr.val] at hsm
  replace hsm : Hid _ := ⟨hsm⟩
  clear c0 c1 c2 c3 c4 d0 d1 d2 d3 hge hs5
  obtain ⟨⟨c0, c1, c2, c3, c4⟩, d0, d1, d2, d3⟩ := hbox.out _ hg6
  go_wp2_with fail
  refine hsm.out.mono ?_
  rintro r w7 ⟨rfl, hg67⟩
  have hg7 := grown_none hg6 hg67
  clear c0 c1 c2 c3 c4 d0 d1 d2 d3 hsm
  obtain ⟨⟨c0, c1, c2, c3, c4⟩, d0, d1, d2, d3⟩ := hbox.out _ hg7
  clear hg6 hg5 hg4 hg3 hg2 hg1 hg12 hg23 hg45 hga5 hg67
  obtain ⟨⟨k00, k01, k02, k03, k04⟩, l00, l01, l02, l03⟩ := hbox.out (w7.alloc (bT nm vr at_ ev (.slice va xs.length vc))) (grown_none hg7 (World.grownBy_alloc _ _ none))
  obtain ⟨⟨k10, k11, k12, k13, k14⟩, l10, l11, l12, l13⟩ := hbox.out (w7.alloc (bT (nm ++ suf) vr at_ ev (.slice va xs.length vc))) (grown_none hg7 (World.grownBy_alloc _ _ none))
  obtain ⟨⟨k20, k21, k22, k23, k24⟩, l20, l21, l22, l23⟩ := hbox.out ((w7.alloc (bT (nm ++ suf) vr at_ ev (.slice va xs.length vc))).alloc (bT nm vr 4611686018427387905 ev (.slice va xs.length vc))) (grown_none hg7 (grown_none (World.grownBy_alloc _ _ none) (World.grownBy_alloc _ _ none)))
  obtain ⟨⟨k30, k31, k32, k33, k34⟩, l30, l31, l32, l33⟩ := hbox.out (((w7.alloc (bT (nm ++ suf) vr at_ ev (.slice va xs.length vc))).alloc (bT nm vr 4611686018427387905 ev (.slice va xs.length vc))).alloc (bT nm 0 at_ ev (.slice va xs.length vc))) (grown_none hg7 (grown_none (grown_none (World.grownBy_alloc _ _ none) (World.grownBy_alloc _ _ none)) (World.grownBy_alloc _ _ none)))
  obtain ⟨⟨k40, k41, k42, k43, k44⟩, l40, l41, l42, l43⟩ := hbox.out ((((w7.alloc (bT (nm ++ suf) vr at_ ev (.slice va xs.length vc))).alloc (bT nm vr 4611686018427387905 ev (.slice va xs.length vc))).alloc (bT nm 0 at_ ev (.slice va xs.length vc))).alloc (bT nm vr at_ ev (.slice va xs.length vc))) (grown_none hg7 (grown_none (grown_none (grown_none (World.grownBy_alloc _ _ none) (World.grownBy_alloc _ _ none)) (World.grownBy_alloc _ _ none)) (World.grownBy_alloc _ _ none)))
  simp only [suf] at k10 k11 k12 k13 k14 k20 k21 k22 k23 k24 k30 k31 k32 k33 k34 k40 k41 k42 k43 k44 l10 l11 l12 l13 l20 l21 l22 l23 l30 l31 l32 l33 l40 l41 l42 l43
  go_wp2_with fail
  obtain ⟨w8, hw8⟩ : ∃ w8, w8 = (((((w7.alloc (.cells #[.string (nm ++ ⟨#[48, 49, 50, 51, 52, 53, 54, 55, 56, 57, 97, 98, 99, 100, 101, 102]⟩), .int .i64 vr, .int .u64 at_, .int .u64 ev, .slice va xs.length vc] 32)).alloc (.cells #[.string nm, .int .i64 vr, .int .u64 4611686018427387905, .int .u64 ev, .slice va xs.length vc] 32)).alloc (.cells #[.string nm, .int .i64 0, .int .u64 at_, .int .u64 ev, .slice va xs.length vc] 32)).alloc (.cells #[.string nm, .int .i64 vr, .int .u64 at_, .int .u64 ev, .slice (some ⟨w7.heap.size + 1 + 1 + 1 + 1, 0, none⟩) 1 1] 32)).alloc (.cells #[.int .i64 kd, .string (bt ky), .string (bt vl), .int .i64 n] 47)) := ⟨_, rfl⟩
  rw [← hw8]
  obtain ⟨hg78, hsz8, hb1, hb2, hb3, hb4⟩ := allocs5 w7 _ _ _ _ _ _ _ _ _ _ w8 hw8
  have hg8 := grown_none hg7 hg78
  clear hw8 hg7 hg78 c0 c1 c2 c3 c4 d0 d1 d2 d3 k00 k01 k02 k03 k04 k10 k11 k12 k13 k14 k20 k21 k22 k23 k24 k30 k31 k32 k33 k34 k40 k41 k42 k43 k44 l00 l01 l02 l03 l10 l11 l12 l13 l20 l21 l22 l23 l30 l31 l32 l33 l40 l41 l42 l43
  have hra := tright_any w8 (hkeep.out _ hg8).2 ⟨nm ++ ⟨#[48, 49, 50, 51, 52, 53, 54, 55, 56, 57, 97, 98, 99, 100, 101, 102]⟩, vr, at_, ev, .slice va xs.length vc, xs⟩ (hkeep.out _ hg8).1 (r := false) ⟨tR_big (by rw [ByteArray.size_append]; have := htr.1.1; show 16 < nm.size + 16; omega)⟩
  simp only [Tmr.val] at hra
  replace hra : Hid _ := ⟨hra⟩
  refine hra.out.mono ?_
  rintro r w9 ⟨rfl, hg89⟩
  have hg9 := grown_none hg8 hg89
  have hl9 := hg89.size
  have hb1 := (hg89.block _ (by omega) (by simp)).trans hb1
  have hb2 := (hg89.block _ (by omega) (by simp)).trans hb2
  have hb3 := (hg89.block _ (by omega) (by simp)).trans hb3
  have hb4 := (hg89.block _ (by omega) (by simp)).trans hb4
  clear hra hg8
  obtain ⟨⟨c0, c1, c2, c3, c4⟩, d0, d1, d2, d3⟩ := hbox.out _ hg9
  obtain ⟨e0, e1, e2, e3, e4, _⟩ := own_five hb1
  have hrb := tright_any w9 (hkeep.out _ hg9).2 ⟨nm, vr, 4611686018427387905, ev, .slice va xs.length vc, xs⟩ (hkeep.out _ hg9).1 (r := false) ⟨tR_at⟩
  simp only [Tmr.val] at hrb
  replace hrb : Hid _ := ⟨hrb⟩
  go_wp2_with fail
  refine hrb.out.mono ?_
  rintro r w10 ⟨rfl, hgsw10⟩
  have hgw10 := grown_none hg9 hgsw10
  have hb2 := (hgsw10.block _ (Array.getElem?_eq_some_iff.1 hb2).1 (by simp)).trans hb2
  have hb3 := (hgsw10.block _ (Array.getElem?_eq_some_iff.1 hb3).1 (by simp)).trans hb3
  have hb4 := (hgsw10.block _ (Array.getElem?_eq_some_iff.1 hb4).1 (by simp)).trans hb4
  clear hrb hg9 hb1 c0 c1 c2 c3 c4 d0 d1 d2 d3 e0 e1 e2 e3 e4
  obtain ⟨⟨c0, c1, c2, c3, c4⟩, d0, d1, d2, d3⟩ := hbox.out _ hgw10
  obtain ⟨e0, e1, e2, e3, e4, _⟩ := own_five hb2
  have hrb := tright_any w10 (hkeep.out _ hgw10).2 ⟨nm, 0, at_, ev, .slice va xs.length vc, xs⟩ (hkeep.out _ hgw10).1 (r := false) ⟨tR_vr⟩
  simp only [Tmr.val] at hrb
  replace hrb : Hid _ := ⟨hrb⟩
  go_wp2_with fail
  refine hrb.out.mono ?_
  rintro r w11 ⟨rfl, hgsw11⟩
  have hgw11 := grown_none hgw10 hgsw11
  have hb2 := (hgsw11.block _ (Array.getElem?_eq_some_iff.1 hb2).1 (by simp)).trans hb2
  have hb3 := (hgsw11.block _ (Array.getElem?_eq_some_iff.1 hb3).1 (by simp)).trans hb3
  have hb4 := (hgsw11.block _ (Array.getElem?_eq_some_iff.1 hb4).1 (by simp)).trans hb4
  clear hrb hgw10  c0 c1 c2 c3 c4 d0 d1 d2 d3 e0 e1 e2 e3 e4
  obtain ⟨⟨c0, c1, c2, c3, c4⟩, d0, d1, d2, d3⟩ := hbox.out _ hgw11
  have hg11 := hgw11
  have hsr := srt_any w11 ⟨kd, ky, vl, n⟩ (r := rgt ⟨kd, ky, vl, n⟩) ⟨rfl⟩
  obtain ⟨sb, hsb⟩ : ∃ sb, rgt ⟨kd, ky, vl, n⟩ = sb := ⟨_, rfl⟩
  rw [hsb] at hsr
  simp only [Sp.val] at hsr
  replace hsr : Hid _ := ⟨hsr⟩
  go_wp2_with fail
  refine hsr.out.mono ?_
  rintro r w12 ⟨rfl, hg112⟩
  have hg12' := grown_none hg11 hg112
  have hl12 := hg112.size
  have hb3 := (hg112.block _ (Array.getElem?_eq_some_iff.1 hb3).1 (by simp)).trans hb3
  have hb4 := (hg112.block _ (Array.getElem?_eq_some_iff.1 hb4).1 (by simp)).trans hb4
  clear hsr hg11 c0 c1 c2 c3 c4 d0 d1 d2 d3
  have hal := alive_any w12 (hkeep.out _ hg12').2
  replace hal : Hid _ := ⟨hal⟩
  go_wp2_with fail
  refine hal.out.mono ?_
  rintro r w13 ⟨rfl, hg123⟩
  have hg13 := grown_none hg12' hg123
  have hb3 := (hg123.block _ (Array.getElem?_eq_some_iff.1 hb3).1 (by simp)).trans hb3
  have hb4 := (hg123.block _ (Array.getElem?_eq_some_iff.1 hb4).1 (by simp)).trans hb4
  clear hal hg12'
  obtain ⟨⟨c0, c1, c2, c3, c4⟩, d0, d1, d2, d3⟩ := hbox.out _ hg13
  obtain ⟨e0, e1, e2, e3, e4, _⟩ := own_five hb3
  have hsd : Sps w13.heap.size w13 (.slice (some ⟨w7.heap.size + 1 + 1 + 1 + 1, 0, none⟩) 1 1) [⟨kd, ky, vl, n⟩] := by
    refine .inr ⟨w7.heap.size + 1 + 1 + 1 + 1, 0, 1, rfl, (Array.getElem?_eq_some_iff.1 hb4).1, by simp, by unfold maxLen; omega, fun j y hj => ?_⟩
    match j, hj with
    | 0, hj =>
      simp at hj
      subst hj
      exact ⟨hs, by simp [World.cell?, hb4], by simp [World.cell?, hb4], by simp [World.cell?, hb4], by simp [World.cell?, hb4]⟩
    | j + 1, hj => simp at hj
  have hrd := tright_any w13 (hkeep.out _ hg13).2 ⟨nm, vr, at_, ev, .slice (some ⟨w7.heap.size + 1 + 1 + 1 + 1, 0, none⟩) 1 1, [⟨kd, ky, vl, n⟩]⟩ hsd (r := sb) ⟨by rw [← hsb]; exact tR_do _ hr⟩
  simp only [Tmr.val] at hrd
  replace hrd : Hid _ := ⟨hrd⟩
  have hbb : (sb == sb) = true := by simp
  go_wp2_with fail
  refine hrd.out.mono ?_
  rintro r w14 ⟨rfl, hg134⟩
  have hfin : Hid _ := ⟨below_of' (grown_none hga.out (grown_none hg13 hg134))⟩
  clear hrd hg13 hg134 hb3 hb4 c0 c1 c2 c3 c4 d0 d1 d2 d3 e0 e1 e2 e3 e4
  go_wp2
  go_ret
  exact ⟨rfl, hfin.out⟩
set_option maxRecDepth 100000 in
set_option maxHeartbeats 8000000 in
theorem rt_td (nm : ByteArray) (vr at_ ev : Int) (v : Value) (xs : List Sp) (kd : Int) (ky vl : K) (n : Int) (W : World) (hD : Dr W) (hx : Sps W.heap.size W v xs) (hs : (⟨kd, ky, vl, n⟩ : Sp).ok) (h0 : 0 ≤ at_ ∧ 0 ≤ ev) (hxb0 : ∀ k, v.ownBlock = some k → k < W.heap.size)
    (hfit : (fewB xs && decide (nm.size ≤ 100)) = true) (hkl : ky.length ≤ 100 ∧ vl.length ≤ 100) (hr : tR ⟨nm, vr, at_, ev, v, xs⟩ = true) (ha : at_ ≤ 0) :
    Calls Tryz.prog 6 #[(⟨nm, vr, at_, ev, v, xs⟩ : Tmr).val, (⟨kd, ky, vl, n⟩ : Sp).val] W fun e W' => e = .returned (.bool true) ∧ Below W.heap.size W W' := by
  obtain ⟨va, vc, rfl, _⟩ := hx.shape
  have hnms : nm.size ≤ 100 := by
    simp only [Bool.and_eq_true, decide_eq_true_eq] at hfit
    exact hfit.2
  have hnm : nm.size ≤ maxLen := by unfold maxLen; omega
  have hxl : xs.length ≤ 100000 := by
    simp only [Bool.and_eq_true, decide_eq_true_eq, fewB] at hfit
    omega
  have hlim : ¬ 9223372036854775807 < nm.size + 16 := by omega
  have p1 : decide ((ky.length : Int) > 100) = false := by simp; omega
  have p2 : decide ((vl.length : Int) > 100) = false := by simp; omega
  have p1' : ¬ 100 < (ky.length : Int) := by omega
  have p2' : ¬ 100 < (vl.length : Int) := by omega
  have p1'' : (ky.length : Int) ≤ 100 := by omega
  have p2'' : (vl.length : Int) ≤ 100 := by omega
  have htr := (tR_iff ⟨nm, vr, at_, ev, .slice va xs.length vc, xs⟩).1 hr
  simp only [Tmr.val, Sp.val]
  have z1 := bt_size ky
  have z2 := bt_size vl
  have hga := grown_none (World.grownBy_alloc W (bT nm vr at_ ev (.slice va xs.length vc)) none) (World.grownBy_alloc (W.alloc (bT nm vr at_ ev (.slice va xs.length vc))) (.cells #[.int .i64 kd, .string (bt ky), .string (bt vl), .int .i64 n] 47) none)
  have hkeep : Hid (∀ w', ((W.alloc (bT nm vr at_ ev (.slice va xs.length vc))).alloc (.cells #[.int .i64 kd, .string (bt ky), .string (bt vl), .int .i64 n] 47)).grownBy w' none → Sps w'.heap.size w' (.slice va xs.length vc) xs ∧ Dr w') := ⟨fun w' hg => by
    have hg2 := grown_none hga hg
    exact ⟨(hx.keep hg2 (Nat.le_refl _)).up hg2.size, hD.keep hg2⟩⟩
  have hxb : Hid (∀ k, (Value.slice va xs.length vc).ownBlock = some k → k < W.heap.size) := ⟨hxb0⟩
  have hbox : Hid _ := ⟨rt_box W nm vr at_ ev (.slice va xs.length vc) kd (bt ky) (bt vl) n⟩
  have hfi := fits_any ((W.alloc (bT nm vr at_ ev (.slice va xs.length vc))).alloc (.cells #[.int .i64 kd, .string (bt ky), .string (bt vl), .int .i64 n] 47)) ⟨nm, vr, at_, ev, .slice va xs.length vc, xs⟩ (hkeep.out _ (grown_refl _)).1
  rw [hfit] at hfi
  simp only [Tmr.val] at hfi
  replace hfi : Hid _ := ⟨hfi⟩
  obtain ⟨⟨c0, c1, c2, c3, c4⟩, d0, d1, d2, d3⟩ := hbox.out _ (grown_refl _)
  replace hga : Hid _ := ⟨hga⟩
  replace hx : Hid _ := ⟨hx⟩
  go_enter Tryz.func6, Tryz.ntmps6
  go_wp2_with fail
  refine hfi.out.mono ?_
  rintro r w1 ⟨rfl, hg1⟩
  have hnw := new_t w1 0 (by omega)
  clear c0 c1 c2 c3 c4 d0 d1 d2 d3 hfi
  replace hnw : Hid _ := ⟨hnw⟩
  go_wp2_with fail
  refine hnw.out.mono ?_
  rintro r w2 ⟨tb, rfl, hT2, hg12⟩
  have hg2 := grown_none hg1 hg12
  have hl1 := hg1.size
  obtain ⟨⟨c0, c1, c2, c3, c4⟩, d0, d1, d2, d3⟩ := hbox.out _ hg2
  clear hnw
  have hrt := tright_any w2 (hkeep.out _ hg2).2 ⟨nm, vr, at_, ev, .slice va xs.length vc, xs⟩ (hkeep.out _ hg2).1 ⟨hr⟩
  simp only [Tmr.val] at hrt
  replace hrt : Hid _ := ⟨hrt⟩
  go_wp2_with fail
  refine hrt.out.mono ?_
  rintro r w3 ⟨rfl, hg23⟩
  have hg3 := grown_none hg2 hg23
  have hT3 := hT2.keep hg23
  have hl2 := hg12.size
  have hl3 := hg23.size
  clear c0 c1 c2 c3 c4 d0 d1 d2 d3 hrt hT2
  obtain ⟨⟨c0, c1, c2, c3, c4⟩, d0, d1, d2, d3⟩ := hbox.out _ hg3
  have hst := set_due w3 (hkeep.out _ hg3).2 hT3 (fun k hk => by have := hk.2; omega) ⟨nm, vr, at_, ev, .slice va xs.length vc, xs⟩ (hkeep.out _ hg3).1 (fun k hk e => by
    have h1 : k < W.heap.size := by
      have := hxb.out k hk
      exact this
    have h2 := e.1
    simp at hl1
    omega) h0 hr (by simp) ha
  simp only [Tmr.val] at hst
  replace hst : Hid _ := ⟨hst⟩
  go_wp2_with fail
  refine hst.out.mono ?_
  rintro r w4 ⟨rfl, ⟨v4, hT4⟩, hK4⟩
  have hg4 := grown_kp hg3 hK4 (fun j hj => by have := hj.1; omega)
  have hge := get_some w4 hT4 (x := ⟨nm, vr, at_, ev, v4, xs⟩) List.mem_cons_self
  simp only [Tmr.val] at hge
  replace hge : Hid _ := ⟨hge⟩
  clear c0 c1 c2 c3 c4 d0 d1 d2 d3 hst hT3 hK4 hT4
  obtain ⟨⟨c0, c1, c2, c3, c4⟩, d0, d1, d2, d3⟩ := hbox.out _ hg4
  go_wp2_with fail
  refine hge.out.mono ?_
  rintro r w5 ⟨hg45, v5, rfl, hs5, _⟩
  have hg5 := grown_none hg4 hg45
  obtain ⟨a5, c5, rfl, _⟩ := hs5.shape
  have hga5 := World.grownBy_alloc w5 (bT nm vr at_ ev (.slice a5 xs.length c5)) none
  have hg6 := grown_none hg5 hga5
  have hsm := tsame_any (w5.alloc (bT nm vr at_ ev (.slice a5 xs.length c5))) ⟨nm, vr, at_, ev, .slice va xs.length vc, xs⟩ ((hs5.keep hga5 (Nat.le_refl _)).up hga5.size) (hkeep.out _ hg6).1
  simp only [Tmr.val] at hsm
  replace hsm : Hid _ := ⟨hsm⟩
  clear c0 c1 c2 c3 c4 d0 d1 d2 d3 hge hs5
  obtain ⟨⟨c0, c1, c2, c3, c4⟩, d0, d1, d2, d3⟩ := hbox.out _ hg6
  go_wp2_with fail
  refine hsm.out.mono ?_
  rintro r w7 ⟨rfl, hg67⟩
  have hg7 := grown_none hg6 hg67
  clear c0 c1 c2 c3 c4 d0 d1 d2 d3 hsm
  obtain ⟨⟨c0, c1, c2, c3, c4⟩, d0, d1, d2, d3⟩ := hbox.out _ hg7
  clear hg6 hg5 hg4 hg3 hg2 hg1 hg12 hg23 hg45 hga5 hg67
  obtain ⟨⟨k00, k01, k02, k03, k04⟩, l00, l01, l02, l03⟩ := hbox.out (w7.alloc (bT nm vr at_ ev (.slice va xs.length vc))) (grown_none hg7 (World.grownBy_alloc _ _ none))
  obtain ⟨⟨k10, k11, k12, k13, k14⟩, l10, l11, l12, l13⟩ := hbox.out (w7.alloc (bT (nm ++ suf) vr at_ ev (.slice va xs.length vc))) (grown_none hg7 (World.grownBy_alloc _ _ none))
  obtain ⟨⟨k20, k21, k22, k23, k24⟩, l20, l21, l22, l23⟩ := hbox.out ((w7.alloc (bT (nm ++ suf) vr at_ ev (.slice va xs.length vc))).alloc (bT nm vr 4611686018427387905 ev (.slice va xs.length vc))) (grown_none hg7 (grown_none (World.grownBy_alloc _ _ none) (World.grownBy_alloc _ _ none)))
  obtain ⟨⟨k30, k31, k32, k33, k34⟩, l30, l31, l32, l33⟩ := hbox.out (((w7.alloc (bT (nm ++ suf) vr at_ ev (.slice va xs.length vc))).alloc (bT nm vr 4611686018427387905 ev (.slice va xs.length vc))).alloc (bT nm 0 at_ ev (.slice va xs.length vc))) (grown_none hg7 (grown_none (grown_none (World.grownBy_alloc _ _ none) (World.grownBy_alloc _ _ none)) (World.grownBy_alloc _ _ none)))
  obtain ⟨⟨k40, k41, k42, k43, k44⟩, l40, l41, l42, l43⟩ := hbox.out ((((w7.alloc (bT (nm ++ suf) vr at_ ev (.slice va xs.length vc))).alloc (bT nm vr 4611686018427387905 ev (.slice va xs.length vc))).alloc (bT nm 0 at_ ev (.slice va xs.length vc))).alloc (bT nm vr at_ ev (.slice va xs.length vc))) (grown_none hg7 (grown_none (grown_none (grown_none (World.grownBy_alloc _ _ none) (World.grownBy_alloc _ _ none)) (World.grownBy_alloc _ _ none)) (World.grownBy_alloc _ _ none)))
  simp only [suf] at k10 k11 k12 k13 k14 k20 k21 k22 k23 k24 k30 k31 k32 k33 k34 k40 k41 k42 k43 k44 l10 l11 l12 l13 l20 l21 l22 l23 l30 l31 l32 l33 l40 l41 l42 l43
  go_wp2_with fail
  obtain ⟨w8, hw8⟩ : ∃ w8, w8 = (((((w7.alloc (.cells #[.string (nm ++ ⟨#[48, 49, 50, 51, 52, 53, 54, 55, 56, 57, 97, 98, 99, 100, 101, 102]⟩), .int .i64 vr, .int .u64 at_, .int .u64 ev, .slice va xs.length vc] 32)).alloc (.cells #[.string nm, .int .i64 vr, .int .u64 4611686018427387905, .int .u64 ev, .slice va xs.length vc] 32)).alloc (.cells #[.string nm, .int .i64 0, .int .u64 at_, .int .u64 ev, .slice va xs.length vc] 32)).alloc (.cells #[.string nm, .int .i64 vr, .int .u64 at_, .int .u64 ev, .slice (some ⟨w7.heap.size + 1 + 1 + 1 + 1, 0, none⟩) 1 1] 32)).alloc (.cells #[.int .i64 kd, .string (bt ky), .string (bt vl), .int .i64 n] 47)) := ⟨_, rfl⟩
  rw [← hw8]
  obtain ⟨hg78, hsz8, hb1, hb2, hb3, hb4⟩ := allocs5 w7 _ _ _ _ _ _ _ _ _ _ w8 hw8
  have hg8 := grown_none hg7 hg78
  clear hw8 hg7 hg78 c0 c1 c2 c3 c4 d0 d1 d2 d3 k00 k01 k02 k03 k04 k10 k11 k12 k13 k14 k20 k21 k22 k23 k24 k30 k31 k32 k33 k34 k40 k41 k42 k43 k44 l00 l01 l02 l03 l10 l11 l12 l13 l20 l21 l22 l23 l30 l31 l32 l33 l40 l41 l42 l43
  have hra := tright_any w8 (hkeep.out _ hg8).2 ⟨nm ++ ⟨#[48, 49, 50, 51, 52, 53, 54, 55, 56, 57, 97, 98, 99, 100, 101, 102]⟩, vr, at_, ev, .slice va xs.length vc, xs⟩ (hkeep.out _ hg8).1 (r := false) ⟨tR_big (by rw [ByteArray.size_append]; have := htr.1.1; show 16 < nm.size + 16; omega)⟩
  simp only [Tmr.val] at hra
  replace hra : Hid _ := ⟨hra⟩
  refine hra.out.mono ?_
  rintro r w9 ⟨rfl, hg89⟩
  have hg9 := grown_none hg8 hg89
  have hl9 := hg89.size
  have hb1 := (hg89.block _ (by omega) (by simp)).trans hb1
  have hb2 := (hg89.block _ (by omega) (by simp)).trans hb2
  have hb3 := (hg89.block _ (by omega) (by simp)).trans hb3
  have hb4 := (hg89.block _ (by omega) (by simp)).trans hb4
  clear hra hg8
  obtain ⟨⟨c0, c1, c2, c3, c4⟩, d0, d1, d2, d3⟩ := hbox.out _ hg9
  obtain ⟨e0, e1, e2, e3, e4, _⟩ := own_five hb1
  have hrb := tright_any w9 (hkeep.out _ hg9).2 ⟨nm, vr, 4611686018427387905, ev, .slice va xs.length vc, xs⟩ (hkeep.out _ hg9).1 (r := false) ⟨tR_at⟩
  simp only [Tmr.val] at hrb
  replace hrb : Hid _ := ⟨hrb⟩
  go_wp2_with fail
  refine hrb.out.mono ?_
  rintro r w10 ⟨rfl, hgsw10⟩
  have hgw10 := grown_none hg9 hgsw10
  have hb2 := (hgsw10.block _ (Array.getElem?_eq_some_iff.1 hb2).1 (by simp)).trans hb2
  have hb3 := (hgsw10.block _ (Array.getElem?_eq_some_iff.1 hb3).1 (by simp)).trans hb3
  have hb4 := (hgsw10.block _ (Array.getElem?_eq_some_iff.1 hb4).1 (by simp)).trans hb4
  clear hrb hg9 hb1 c0 c1 c2 c3 c4 d0 d1 d2 d3 e0 e1 e2 e3 e4
  obtain ⟨⟨c0, c1, c2, c3, c4⟩, d0, d1, d2, d3⟩ := hbox.out _ hgw10
  obtain ⟨e0, e1, e2, e3, e4, _⟩ := own_five hb2
  have hrb := tright_any w10 (hkeep.out _ hgw10).2 ⟨nm, 0, at_, ev, .slice va xs.length vc, xs⟩ (hkeep.out _ hgw10).1 (r := false) ⟨tR_vr⟩
  simp only [Tmr.val] at hrb
  replace hrb : Hid _ := ⟨hrb⟩
  go_wp2_with fail
  refine hrb.out.mono ?_
  rintro r w11 ⟨rfl, hgsw11⟩
  have hgw11 := grown_none hgw10 hgsw11
  have hb2 := (hgsw11.block _ (Array.getElem?_eq_some_iff.1 hb2).1 (by simp)).trans hb2
  have hb3 := (hgsw11.block _ (Array.getElem?_eq_some_iff.1 hb3).1 (by simp)).trans hb3
  have hb4 := (hgsw11.block _ (Array.getElem?_eq_some_iff.1 hb4).1 (by simp)).trans hb4
  clear hrb hgw10  c0 c1 c2 c3 c4 d0 d1 d2 d3 e0 e1 e2 e3 e4
  obtain ⟨⟨c0, c1, c2, c3, c4⟩, d0, d1, d2, d3⟩ := hbox.out _ hgw11
  have hg11 := hgw11
  have hsr := srt_any w11 ⟨kd, ky, vl, n⟩ (r := rgt ⟨kd, ky, vl, n⟩) ⟨rfl⟩
  obtain ⟨sb, hsb⟩ : ∃ sb, rgt ⟨kd, ky, vl, n⟩ = sb := ⟨_, rfl⟩
  rw [hsb] at hsr
  simp only [Sp.val] at hsr
  replace hsr : Hid _ := ⟨hsr⟩
  go_wp2_with fail
  refine hsr.out.mono ?_
  rintro r w12 ⟨rfl, hg112⟩
  have hg12' := grown_none hg11 hg112
  have hl12 := hg112.size
  have hb3 := (hg112.block _ (Array.getElem?_eq_some_iff.1 hb3).1 (by simp)).trans hb3
  have hb4 := (hg112.block _ (Array.getElem?_eq_some_iff.1 hb4).1 (by simp)).trans hb4
  clear hsr hg11 c0 c1 c2 c3 c4 d0 d1 d2 d3
  have hal := alive_any w12 (hkeep.out _ hg12').2
  replace hal : Hid _ := ⟨hal⟩
  go_wp2_with fail
  refine hal.out.mono ?_
  rintro r w13 ⟨rfl, hg123⟩
  have hg13 := grown_none hg12' hg123
  have hb3 := (hg123.block _ (Array.getElem?_eq_some_iff.1 hb3).1 (by simp)).trans hb3
  have hb4 := (hg123.block _ (Array.getElem?_eq_some_iff.1 hb4).1 (by simp)).trans hb4
  clear hal hg12'
  obtain ⟨⟨c0, c1, c2, c3, c4⟩, d0, d1, d2, d3⟩ := hbox.out _ hg13
  obtain ⟨e0, e1, e2, e3, e4, _⟩ := own_five hb3
  have hsd : Sps w13.heap.size w13 (.slice (some ⟨w7.heap.size + 1 + 1 + 1 + 1, 0, none⟩) 1 1) [⟨kd, ky, vl, n⟩] := by
    refine .inr ⟨w7.heap.size + 1 + 1 + 1 + 1, 0, 1, rfl, (Array.getElem?_eq_some_iff.1 hb4).1, by simp, by unfold maxLen; omega, fun j y hj => ?_⟩
    match j, hj with
    | 0, hj =>
      simp at hj
      subst hj
      exact ⟨hs, by simp [World.cell?, hb4], by simp [World.cell?, hb4], by simp [World.cell?, hb4], by simp [World.cell?, hb4]⟩
    | j + 1, hj => simp at hj
  have hrd := tright_any w13 (hkeep.out _ hg13).2 ⟨nm, vr, at_, ev, .slice (some ⟨w7.heap.size + 1 + 1 + 1 + 1, 0, none⟩) 1 1, [⟨kd, ky, vl, n⟩]⟩ hsd (r := sb) ⟨by rw [← hsb]; exact tR_do _ hr⟩
  simp only [Tmr.val] at hrd
  replace hrd : Hid _ := ⟨hrd⟩
  have hbb : (sb == sb) = true := by simp
  go_wp2_with fail
  refine hrd.out.mono ?_
  rintro r w14 ⟨rfl, hg134⟩
  have hfin : Hid _ := ⟨below_of' (grown_none hga.out (grown_none hg13 hg134))⟩
  clear hrd hg13 hg134 hb3 hb4 c0 c1 c2 c3 c4 d0 d1 d2 d3 e0 e1 e2 e3 e4
  go_wp2
  go_ret
  exact ⟨rfl, hfin.out⟩
set_option maxRecDepth 100000 in
set_option maxHeartbeats 8000000 in
theorem rt_f0 (nm : ByteArray) (vr at_ ev : Int) (v : Value) (xs : List Sp) (kd : Int) (ky vl : K) (n : Int) (W : World) (hD : Dr W) (hx : Sps W.heap.size W v xs) (hs : (⟨kd, ky, vl, n⟩ : Sp).ok) (h0 : 0 ≤ at_ ∧ 0 ≤ ev) (hxb0 : ∀ k, v.ownBlock = some k → k < W.heap.size)
    (hfit : (fewB xs && decide (nm.size ≤ 100)) = true) (hkl : ky.length ≤ 100 ∧ vl.length ≤ 100) (hr : tR ⟨nm, vr, at_, ev, v, xs⟩ = false) (hra : tR ⟨nm ++ suf, vr, at_, ev, v, xs⟩ = false) :
    Calls Tryz.prog 6 #[(⟨nm, vr, at_, ev, v, xs⟩ : Tmr).val, (⟨kd, ky, vl, n⟩ : Sp).val] W fun e W' => e = .returned (.bool true) ∧ Below W.heap.size W W' := by
  obtain ⟨va, vc, rfl, _⟩ := hx.shape
  have hnms : nm.size ≤ 100 := by
    simp only [Bool.and_eq_true, decide_eq_true_eq] at hfit
    exact hfit.2
  have hnm : nm.size ≤ maxLen := by unfold maxLen; omega
  have hxl : xs.length ≤ 100000 := by
    simp only [Bool.and_eq_true, decide_eq_true_eq, fewB] at hfit
    omega
  have hlim : ¬ 9223372036854775807 < nm.size + 16 := by omega
  have p1 : decide ((ky.length : Int) > 100) = false := by simp; omega
  have p2 : decide ((vl.length : Int) > 100) = false := by simp; omega
  have p1' : ¬ 100 < (ky.length : Int) := by omega
  have p2' : ¬ 100 < (vl.length : Int) := by omega
  have p1'' : (ky.length : Int) ≤ 100 := by omega
  have p2'' : (vl.length : Int) ≤ 100 := by omega
  simp only [Tmr.val, Sp.val]
  have z1 := bt_size ky
  have z2 := bt_size vl
  have hga := grown_none (World.grownBy_alloc W (bT nm vr at_ ev (.slice va xs.length vc)) none) (World.grownBy_alloc (W.alloc (bT nm vr at_ ev (.slice va xs.length vc))) (.cells #[.int .i64 kd, .string (bt ky), .string (bt vl), .int .i64 n] 47) none)
  have hkeep : Hid (∀ w', ((W.alloc (bT nm vr at_ ev (.slice va xs.length vc))).alloc (.cells #[.int .i64 kd, .string (bt ky), .string (bt vl), .int .i64 n] 47)).grownBy w' none → Sps w'.heap.size w' (.slice va xs.length vc) xs ∧ Dr w') := ⟨fun w' hg => by
    have hg2 := grown_none hga hg
    exact ⟨(hx.keep hg2 (Nat.le_refl _)).up hg2.size, hD.keep hg2⟩⟩
  have hxb : Hid (∀ k, (Value.slice va xs.length vc).ownBlock = some k → k < W.heap.size) := ⟨hxb0⟩
  have hbox : Hid _ := ⟨rt_box W nm vr at_ ev (.slice va xs.length vc) kd (bt ky) (bt vl) n⟩
  have hfi := fits_any ((W.alloc (bT nm vr at_ ev (.slice va xs.length vc))).alloc (.cells #[.int .i64 kd, .string (bt ky), .string (bt vl), .int .i64 n] 47)) ⟨nm, vr, at_, ev, .slice va xs.length vc, xs⟩ (hkeep.out _ (grown_refl _)).1
  rw [hfit] at hfi
  simp only [Tmr.val] at hfi
  replace hfi : Hid _ := ⟨hfi⟩
  obtain ⟨⟨c0, c1, c2, c3, c4⟩, d0, d1, d2, d3⟩ := hbox.out _ (grown_refl _)
  replace hga : Hid _ := ⟨hga⟩
  replace hx : Hid _ := ⟨hx⟩
  go_enter Tryz.func6, Tryz.ntmps6
  go_wp2_with fail
  refine hfi.out.mono ?_
  rintro r w1 ⟨rfl, hg1⟩
  have hnw := new_t w1 0 (by omega)
  clear c0 c1 c2 c3 c4 d0 d1 d2 d3 hfi
  replace hnw : Hid _ := ⟨hnw⟩
  go_wp2_with fail
  refine hnw.out.mono ?_
  rintro r w2 ⟨tb, rfl, hT2, hg12⟩
  have hg2 := grown_none hg1 hg12
  have hl1 := hg1.size
  obtain ⟨⟨c0, c1, c2, c3, c4⟩, d0, d1, d2, d3⟩ := hbox.out _ hg2
  clear hnw
  have hrt := tright_any w2 (hkeep.out _ hg2).2 ⟨nm, vr, at_, ev, .slice va xs.length vc, xs⟩ (hkeep.out _ hg2).1 ⟨hr⟩
  simp only [Tmr.val] at hrt
  replace hrt : Hid _ := ⟨hrt⟩
  go_wp2_with fail
  refine hrt.out.mono ?_
  rintro r w3 ⟨rfl, hg23⟩
  have hg3 := grown_none hg2 hg23
  have hT3 := hT2.keep hg23
  have hl2 := hg12.size
  have hl3 := hg23.size
  clear c0 c1 c2 c3 c4 d0 d1 d2 d3 hrt hT2
  obtain ⟨⟨c0, c1, c2, c3, c4⟩, d0, d1, d2, d3⟩ := hbox.out _ hg3
  have hst := set_bad w3 (hkeep.out _ hg3).2 tb ⟨nm, vr, at_, ev, .slice va xs.length vc, xs⟩ (hkeep.out _ hg3).1 hr
  simp only [Tmr.val] at hst
  replace hst : Hid _ := ⟨hst⟩
  go_wp2_with fail
  refine hst.out.mono ?_
  rintro r w4 ⟨rfl, hg34⟩
  have hg4 := grown_none hg3 hg34
  have hT4 := hT3.keep hg34
  have hge := get_no w4 hT4 hnm (by simp)
  simp only [Tmr.val, zTm] at hge
  replace hge : Hid _ := ⟨hge⟩
  clear c0 c1 c2 c3 c4 d0 d1 d2 d3 hst hT3 hT4
  obtain ⟨⟨c0, c1, c2, c3, c4⟩, d0, d1, d2, d3⟩ := hbox.out _ hg4
  go_wp2_with fail
  refine hge.out.mono ?_
  rintro r w5 ⟨hg45, v5, rfl, hs5, _⟩
  have hg5 := grown_none hg4 hg45
  obtain ⟨a5, c5, rfl, _⟩ := hs5.shape
  have hga5 := World.grownBy_alloc w5 (bT ⟨#[]⟩ 0 0 0 (.slice a5 0 c5)) none
  have hg6 := grown_none hg5 hga5
  have hsm := tsame_nil (w5.alloc (bT ⟨#[]⟩ 0 0 0 (.slice a5 0 c5))) ⟨nm, vr, at_, ev, .slice va xs.length vc, xs⟩ ((hs5.keep hga5 (Nat.le_refl _)).up hga5.size) (hkeep.out _ hg6).1
  simp only [Tmr.val, zTm] at hsm
  replace hsm : Hid _ := ⟨hsm⟩
  clear c0 c1 c2 c3 c4 d0 d1 d2 d3 hge hs5
  obtain ⟨⟨c0, c1, c2, c3, c4⟩, d0, d1, d2, d3⟩ := hbox.out _ hg6
  go_wp2_with fail
  refine hsm.out.mono ?_
  rintro r w7 ⟨⟨bs, rfl⟩, hg67⟩
  have hg7 := grown_none hg6 hg67
  clear c0 c1 c2 c3 c4 d0 d1 d2 d3 hsm
  obtain ⟨⟨c0, c1, c2, c3, c4⟩, d0, d1, d2, d3⟩ := hbox.out _ hg7
  clear hg6 hg5 hg4 hg3 hg2 hg1 hg12 hg23 hg45 hga5 hg67
  obtain ⟨⟨k00, k01, k02, k03, k04⟩, l00, l01, l02, l03⟩ := hbox.out (w7.alloc (bT nm vr at_ ev (.slice va xs.length vc))) (grown_none hg7 (World.grownBy_alloc _ _ none))
  obtain ⟨⟨k10, k11, k12, k13, k14⟩, l10, l11, l12, l13⟩ := hbox.out (w7.alloc (bT (nm ++ suf) vr at_ ev (.slice va xs.length vc))) (grown_none hg7 (World.grownBy_alloc _ _ none))
  obtain ⟨⟨k20, k21, k22, k23, k24⟩, l20, l21, l22, l23⟩ := hbox.out ((w7.alloc (bT (nm ++ suf) vr at_ ev (.slice va xs.length vc))).alloc (bT nm vr 4611686018427387905 ev (.slice va xs.length vc))) (grown_none hg7 (grown_none (World.grownBy_alloc _ _ none) (World.grownBy_alloc _ _ none)))
  obtain ⟨⟨k30, k31, k32, k33, k34⟩, l30, l31, l32, l33⟩ := hbox.out (((w7.alloc (bT (nm ++ suf) vr at_ ev (.slice va xs.length vc))).alloc (bT nm vr 4611686018427387905 ev (.slice va xs.length vc))).alloc (bT nm 0 at_ ev (.slice va xs.length vc))) (grown_none hg7 (grown_none (grown_none (World.grownBy_alloc _ _ none) (World.grownBy_alloc _ _ none)) (World.grownBy_alloc _ _ none)))
  obtain ⟨⟨k40, k41, k42, k43, k44⟩, l40, l41, l42, l43⟩ := hbox.out ((((w7.alloc (bT (nm ++ suf) vr at_ ev (.slice va xs.length vc))).alloc (bT nm vr 4611686018427387905 ev (.slice va xs.length vc))).alloc (bT nm 0 at_ ev (.slice va xs.length vc))).alloc (bT nm vr at_ ev (.slice va xs.length vc))) (grown_none hg7 (grown_none (grown_none (grown_none (World.grownBy_alloc _ _ none) (World.grownBy_alloc _ _ none)) (World.grownBy_alloc _ _ none)) (World.grownBy_alloc _ _ none)))
  simp only [suf] at k10 k11 k12 k13 k14 k20 k21 k22 k23 k24 k30 k31 k32 k33 k34 k40 k41 k42 k43 k44 l10 l11 l12 l13 l20 l21 l22 l23 l30 l31 l32 l33 l40 l41 l42 l43 hra
  go_wp2_with fail
  obtain ⟨w8, hw8⟩ : ∃ w8, w8 = (((((w7.alloc (.cells #[.string (nm ++ ⟨#[48, 49, 50, 51, 52, 53, 54, 55, 56, 57, 97, 98, 99, 100, 101, 102]⟩), .int .i64 vr, .int .u64 at_, .int .u64 ev, .slice va xs.length vc] 32)).alloc (.cells #[.string nm, .int .i64 vr, .int .u64 4611686018427387905, .int .u64 ev, .slice va xs.length vc] 32)).alloc (.cells #[.string nm, .int .i64 0, .int .u64 at_, .int .u64 ev, .slice va xs.length vc] 32)).alloc (.cells #[.string nm, .int .i64 vr, .int .u64 at_, .int .u64 ev, .slice (some ⟨w7.heap.size + 1 + 1 + 1 + 1, 0, none⟩) 1 1] 32)).alloc (.cells #[.int .i64 kd, .string (bt ky), .string (bt vl), .int .i64 n] 47)) := ⟨_, rfl⟩
  rw [← hw8]
  obtain ⟨hg78, hsz8, hb1, hb2, hb3, hb4⟩ := allocs5 w7 _ _ _ _ _ _ _ _ _ _ w8 hw8
  have hg8 := grown_none hg7 hg78
  clear hw8 hg7 hg78 c0 c1 c2 c3 c4 d0 d1 d2 d3 k00 k01 k02 k03 k04 k10 k11 k12 k13 k14 k20 k21 k22 k23 k24 k30 k31 k32 k33 k34 k40 k41 k42 k43 k44 l00 l01 l02 l03 l10 l11 l12 l13 l20 l21 l22 l23 l30 l31 l32 l33 l40 l41 l42 l43
  have hra := tright_any w8 (hkeep.out _ hg8).2 ⟨nm ++ ⟨#[48, 49, 50, 51, 52, 53, 54, 55, 56, 57, 97, 98, 99, 100, 101, 102]⟩, vr, at_, ev, .slice va xs.length vc, xs⟩ (hkeep.out _ hg8).1 (r := false) ⟨hra⟩
  simp only [Tmr.val] at hra
  replace hra : Hid _ := ⟨hra⟩
  refine hra.out.mono ?_
  rintro r w9 ⟨rfl, hg89⟩
  have hg9 := grown_none hg8 hg89
  have hl9 := hg89.size
  have hb1 := (hg89.block _ (by omega) (by simp)).trans hb1
  have hb2 := (hg89.block _ (by omega) (by simp)).trans hb2
  have hb3 := (hg89.block _ (by omega) (by simp)).trans hb3
  have hb4 := (hg89.block _ (by omega) (by simp)).trans hb4
  clear hra hg8
  obtain ⟨⟨c0, c1, c2, c3, c4⟩, d0, d1, d2, d3⟩ := hbox.out _ hg9
  obtain ⟨e0, e1, e2, e3, e4, _⟩ := own_five hb1
  have hrb := tright_any w9 (hkeep.out _ hg9).2 ⟨nm, vr, 4611686018427387905, ev, .slice va xs.length vc, xs⟩ (hkeep.out _ hg9).1 (r := false) ⟨tR_at⟩
  simp only [Tmr.val] at hrb
  replace hrb : Hid _ := ⟨hrb⟩
  go_wp2_with fail
  refine hrb.out.mono ?_
  rintro r w10 ⟨rfl, hgsw10⟩
  have hgw10 := grown_none hg9 hgsw10
  have hb2 := (hgsw10.block _ (Array.getElem?_eq_some_iff.1 hb2).1 (by simp)).trans hb2
  have hb3 := (hgsw10.block _ (Array.getElem?_eq_some_iff.1 hb3).1 (by simp)).trans hb3
  have hb4 := (hgsw10.block _ (Array.getElem?_eq_some_iff.1 hb4).1 (by simp)).trans hb4
  clear hrb hg9 hb1 c0 c1 c2 c3 c4 d0 d1 d2 d3 e0 e1 e2 e3 e4
  obtain ⟨⟨c0, c1, c2, c3, c4⟩, d0, d1, d2, d3⟩ := hbox.out _ hgw10
  obtain ⟨e0, e1, e2, e3, e4, _⟩ := own_five hb2
  have hrb := tright_any w10 (hkeep.out _ hgw10).2 ⟨nm, 0, at_, ev, .slice va xs.length vc, xs⟩ (hkeep.out _ hgw10).1 (r := false) ⟨tR_vr⟩
  simp only [Tmr.val] at hrb
  replace hrb : Hid _ := ⟨hrb⟩
  go_wp2_with fail
  refine hrb.out.mono ?_
  rintro r w11 ⟨rfl, hgsw11⟩
  have hgw11 := grown_none hgw10 hgsw11
  have hb2 := (hgsw11.block _ (Array.getElem?_eq_some_iff.1 hb2).1 (by simp)).trans hb2
  have hb3 := (hgsw11.block _ (Array.getElem?_eq_some_iff.1 hb3).1 (by simp)).trans hb3
  have hb4 := (hgsw11.block _ (Array.getElem?_eq_some_iff.1 hb4).1 (by simp)).trans hb4
  clear hrb hgw10  c0 c1 c2 c3 c4 d0 d1 d2 d3 e0 e1 e2 e3 e4
  obtain ⟨⟨c0, c1, c2, c3, c4⟩, d0, d1, d2, d3⟩ := hbox.out _ hgw11
  have hg11 := hgw11
  have hsr := srt_any w11 ⟨kd, ky, vl, n⟩ (r := rgt ⟨kd, ky, vl, n⟩) ⟨rfl⟩
  obtain ⟨sb, hsb⟩ : ∃ sb, rgt ⟨kd, ky, vl, n⟩ = sb := ⟨_, rfl⟩
  rw [hsb] at hsr
  simp only [Sp.val] at hsr
  replace hsr : Hid _ := ⟨hsr⟩
  go_wp2_with fail
  refine hsr.out.mono ?_
  rintro r w12 ⟨rfl, hg112⟩
  have hg12' := grown_none hg11 hg112
  have hl12 := hg112.size
  have hb3 := (hg112.block _ (Array.getElem?_eq_some_iff.1 hb3).1 (by simp)).trans hb3
  have hb4 := (hg112.block _ (Array.getElem?_eq_some_iff.1 hb4).1 (by simp)).trans hb4
  clear hsr hg11 c0 c1 c2 c3 c4 d0 d1 d2 d3
  have hal := alive_any w12 (hkeep.out _ hg12').2
  replace hal : Hid _ := ⟨hal⟩
  go_wp2_with fail
  refine hal.out.mono ?_
  rintro r w13 ⟨rfl, hg123⟩
  have hg13 := grown_none hg12' hg123
  have hb3 := (hg123.block _ (Array.getElem?_eq_some_iff.1 hb3).1 (by simp)).trans hb3
  have hb4 := (hg123.block _ (Array.getElem?_eq_some_iff.1 hb4).1 (by simp)).trans hb4
  clear hal hg12'
  obtain ⟨⟨c0, c1, c2, c3, c4⟩, d0, d1, d2, d3⟩ := hbox.out _ hg13
  have hfin : Hid _ := ⟨below_of' (grown_none hga.out hg13)⟩
  clear hg13 hb3 hb4 c1 c2 c3 c4 d0 d1 d2 d3
  go_wp2
  go_ret
  exact ⟨rfl, hfin.out⟩
set_option maxRecDepth 100000 in
set_option maxHeartbeats 8000000 in
theorem rt_f1 (nm : ByteArray) (vr at_ ev : Int) (v : Value) (xs : List Sp) (kd : Int) (ky vl : K) (n : Int) (W : World) (hD : Dr W) (hx : Sps W.heap.size W v xs) (hs : (⟨kd, ky, vl, n⟩ : Sp).ok) (h0 : 0 ≤ at_ ∧ 0 ≤ ev) (hxb0 : ∀ k, v.ownBlock = some k → k < W.heap.size)
    (hfit : (fewB xs && decide (nm.size ≤ 100)) = true) (hkl : ky.length ≤ 100 ∧ vl.length ≤ 100) (hr : tR ⟨nm, vr, at_, ev, v, xs⟩ = false) (hra : tR ⟨nm ++ suf, vr, at_, ev, v, xs⟩ = true) (hn0 : nm.size = 0) :
    Calls Tryz.prog 6 #[(⟨nm, vr, at_, ev, v, xs⟩ : Tmr).val, (⟨kd, ky, vl, n⟩ : Sp).val] W fun e W' => e = .returned (.bool true) ∧ Below W.heap.size W W' := by
  obtain ⟨va, vc, rfl, _⟩ := hx.shape
  have hnms : nm.size ≤ 100 := by
    simp only [Bool.and_eq_true, decide_eq_true_eq] at hfit
    exact hfit.2
  have hnm : nm.size ≤ maxLen := by unfold maxLen; omega
  have hxl : xs.length ≤ 100000 := by
    simp only [Bool.and_eq_true, decide_eq_true_eq, fewB] at hfit
    omega
  have hlim : ¬ 9223372036854775807 < nm.size + 16 := by omega
  have p1 : decide ((ky.length : Int) > 100) = false := by simp; omega
  have p2 : decide ((vl.length : Int) > 100) = false := by simp; omega
  have p1' : ¬ 100 < (ky.length : Int) := by omega
  have p2' : ¬ 100 < (vl.length : Int) := by omega
  have p1'' : (ky.length : Int) ≤ 100 := by omega
  have p2'' : (vl.length : Int) ≤ 100 := by omega
  simp only [Tmr.val, Sp.val]
  have z1 := bt_size ky
  have z2 := bt_size vl
  have hga := grown_none (World.grownBy_alloc W (bT nm vr at_ ev (.slice va xs.length vc)) none) (World.grownBy_alloc (W.alloc (bT nm vr at_ ev (.slice va xs.length vc))) (.cells #[.int .i64 kd, .string (bt ky), .string (bt vl), .int .i64 n] 47) none)
  have hkeep : Hid (∀ w', ((W.alloc (bT nm vr at_ ev (.slice va xs.length vc))).alloc (.cells #[.int .i64 kd, .string (bt ky), .string (bt vl), .int .i64 n] 47)).grownBy w' none → Sps w'.heap.size w' (.slice va xs.length vc) xs ∧ Dr w') := ⟨fun w' hg => by
    have hg2 := grown_none hga hg
    exact ⟨(hx.keep hg2 (Nat.le_refl _)).up hg2.size, hD.keep hg2⟩⟩
  have hxb : Hid (∀ k, (Value.slice va xs.length vc).ownBlock = some k → k < W.heap.size) := ⟨hxb0⟩
  have hbox : Hid _ := ⟨rt_box W nm vr at_ ev (.slice va xs.length vc) kd (bt ky) (bt vl) n⟩
  have hfi := fits_any ((W.alloc (bT nm vr at_ ev (.slice va xs.length vc))).alloc (.cells #[.int .i64 kd, .string (bt ky), .string (bt vl), .int .i64 n] 47)) ⟨nm, vr, at_, ev, .slice va xs.length vc, xs⟩ (hkeep.out _ (grown_refl _)).1
  rw [hfit] at hfi
  simp only [Tmr.val] at hfi
  replace hfi : Hid _ := ⟨hfi⟩
  obtain ⟨⟨c0, c1, c2, c3, c4⟩, d0, d1, d2, d3⟩ := hbox.out _ (grown_refl _)
  replace hga : Hid _ := ⟨hga⟩
  replace hx : Hid _ := ⟨hx⟩
  go_enter Tryz.func6, Tryz.ntmps6
  go_wp2_with fail
  refine hfi.out.mono ?_
  rintro r w1 ⟨rfl, hg1⟩
  have hnw := new_t w1 0 (by omega)
  clear c0 c1 c2 c3 c4 d0 d1 d2 d3 hfi
  replace hnw : Hid _ := ⟨hnw⟩
  go_wp2_with fail
  refine hnw.out.mono ?_
  rintro r w2 ⟨tb, rfl, hT2, hg12⟩
  have hg2 := grown_none hg1 hg12
  have hl1 := hg1.size
  obtain ⟨⟨c0, c1, c2, c3, c4⟩, d0, d1, d2, d3⟩ := hbox.out _ hg2
  clear hnw
  have hrt := tright_any w2 (hkeep.out _ hg2).2 ⟨nm, vr, at_, ev, .slice va xs.length vc, xs⟩ (hkeep.out _ hg2).1 ⟨hr⟩
  simp only [Tmr.val] at hrt
  replace hrt : Hid _ := ⟨hrt⟩
  go_wp2_with fail
  refine hrt.out.mono ?_
  rintro r w3 ⟨rfl, hg23⟩
  have hg3 := grown_none hg2 hg23
  have hT3 := hT2.keep hg23
  have hl2 := hg12.size
  have hl3 := hg23.size
  clear c0 c1 c2 c3 c4 d0 d1 d2 d3 hrt hT2
  obtain ⟨⟨c0, c1, c2, c3, c4⟩, d0, d1, d2, d3⟩ := hbox.out _ hg3
  have hst := set_bad w3 (hkeep.out _ hg3).2 tb ⟨nm, vr, at_, ev, .slice va xs.length vc, xs⟩ (hkeep.out _ hg3).1 hr
  simp only [Tmr.val] at hst
  replace hst : Hid _ := ⟨hst⟩
  go_wp2_with fail
  refine hst.out.mono ?_
  rintro r w4 ⟨rfl, hg34⟩
  have hg4 := grown_none hg3 hg34
  have hT4 := hT3.keep hg34
  have hge := get_no w4 hT4 hnm (by simp)
  simp only [Tmr.val, zTm] at hge
  replace hge : Hid _ := ⟨hge⟩
  clear c0 c1 c2 c3 c4 d0 d1 d2 d3 hst hT3 hT4
  obtain ⟨⟨c0, c1, c2, c3, c4⟩, d0, d1, d2, d3⟩ := hbox.out _ hg4
  go_wp2_with fail
  refine hge.out.mono ?_
  rintro r w5 ⟨hg45, v5, rfl, hs5, _⟩
  have hg5 := grown_none hg4 hg45
  obtain ⟨a5, c5, rfl, _⟩ := hs5.shape
  have hga5 := World.grownBy_alloc w5 (bT ⟨#[]⟩ 0 0 0 (.slice a5 0 c5)) none
  have hg6 := grown_none hg5 hga5
  have hsm := tsame_nil (w5.alloc (bT ⟨#[]⟩ 0 0 0 (.slice a5 0 c5))) ⟨nm, vr, at_, ev, .slice va xs.length vc, xs⟩ ((hs5.keep hga5 (Nat.le_refl _)).up hga5.size) (hkeep.out _ hg6).1
  simp only [Tmr.val, zTm] at hsm
  replace hsm : Hid _ := ⟨hsm⟩
  clear c0 c1 c2 c3 c4 d0 d1 d2 d3 hge hs5
  obtain ⟨⟨c0, c1, c2, c3, c4⟩, d0, d1, d2, d3⟩ := hbox.out _ hg6
  go_wp2_with fail
  refine hsm.out.mono ?_
  rintro r w7 ⟨⟨bs, rfl⟩, hg67⟩
  have hg7 := grown_none hg6 hg67
  clear c0 c1 c2 c3 c4 d0 d1 d2 d3 hsm
  obtain ⟨⟨c0, c1, c2, c3, c4⟩, d0, d1, d2, d3⟩ := hbox.out _ hg7
  clear hg6 hg5 hg4 hg3 hg2 hg1 hg12 hg23 hg45 hga5 hg67
  obtain ⟨⟨k00, k01, k02, k03, k04⟩, l00, l01, l02, l03⟩ := hbox.out (w7.alloc (bT nm vr at_ ev (.slice va xs.length vc))) (grown_none hg7 (World.grownBy_alloc _ _ none))
  obtain ⟨⟨k10, k11, k12, k13, k14⟩, l10, l11, l12, l13⟩ := hbox.out (w7.alloc (bT (nm ++ suf) vr at_ ev (.slice va xs.length vc))) (grown_none hg7 (World.grownBy_alloc _ _ none))
  obtain ⟨⟨k20, k21, k22, k23, k24⟩, l20, l21, l22, l23⟩ := hbox.out ((w7.alloc (bT (nm ++ suf) vr at_ ev (.slice va xs.length vc))).alloc (bT nm vr 4611686018427387905 ev (.slice va xs.length vc))) (grown_none hg7 (grown_none (World.grownBy_alloc _ _ none) (World.grownBy_alloc _ _ none)))
  obtain ⟨⟨k30, k31, k32, k33, k34⟩, l30, l31, l32, l33⟩ := hbox.out (((w7.alloc (bT (nm ++ suf) vr at_ ev (.slice va xs.length vc))).alloc (bT nm vr 4611686018427387905 ev (.slice va xs.length vc))).alloc (bT nm 0 at_ ev (.slice va xs.length vc))) (grown_none hg7 (grown_none (grown_none (World.grownBy_alloc _ _ none) (World.grownBy_alloc _ _ none)) (World.grownBy_alloc _ _ none)))
  obtain ⟨⟨k40, k41, k42, k43, k44⟩, l40, l41, l42, l43⟩ := hbox.out ((((w7.alloc (bT (nm ++ suf) vr at_ ev (.slice va xs.length vc))).alloc (bT nm vr 4611686018427387905 ev (.slice va xs.length vc))).alloc (bT nm 0 at_ ev (.slice va xs.length vc))).alloc (bT nm vr at_ ev (.slice va xs.length vc))) (grown_none hg7 (grown_none (grown_none (grown_none (World.grownBy_alloc _ _ none) (World.grownBy_alloc _ _ none)) (World.grownBy_alloc _ _ none)) (World.grownBy_alloc _ _ none)))
  simp only [suf] at k10 k11 k12 k13 k14 k20 k21 k22 k23 k24 k30 k31 k32 k33 k34 k40 k41 k42 k43 k44 l10 l11 l12 l13 l20 l21 l22 l23 l30 l31 l32 l33 l40 l41 l42 l43 hra
  go_wp2_with fail
  obtain ⟨w8, hw8⟩ : ∃ w8, w8 = (((((w7.alloc (.cells #[.string (nm ++ ⟨#[48, 49, 50, 51, 52, 53, 54, 55, 56, 57, 97, 98, 99, 100, 101, 102]⟩), .int .i64 vr, .int .u64 at_, .int .u64 ev, .slice va xs.length vc] 32)).alloc (.cells #[.string nm, .int .i64 vr, .int .u64 4611686018427387905, .int .u64 ev, .slice va xs.length vc] 32)).alloc (.cells #[.string nm, .int .i64 0, .int .u64 at_, .int .u64 ev, .slice va xs.length vc] 32)).alloc (.cells #[.string nm, .int .i64 vr, .int .u64 at_, .int .u64 ev, .slice (some ⟨w7.heap.size + 1 + 1 + 1 + 1, 0, none⟩) 1 1] 32)).alloc (.cells #[.int .i64 kd, .string (bt ky), .string (bt vl), .int .i64 n] 47)) := ⟨_, rfl⟩
  rw [← hw8]
  obtain ⟨hg78, hsz8, hb1, hb2, hb3, hb4⟩ := allocs5 w7 _ _ _ _ _ _ _ _ _ _ w8 hw8
  have hg8 := grown_none hg7 hg78
  clear hw8 hg7 hg78 c0 c1 c2 c3 c4 d0 d1 d2 d3 k00 k01 k02 k03 k04 k10 k11 k12 k13 k14 k20 k21 k22 k23 k24 k30 k31 k32 k33 k34 k40 k41 k42 k43 k44 l00 l01 l02 l03 l10 l11 l12 l13 l20 l21 l22 l23 l30 l31 l32 l33 l40 l41 l42 l43
  have hra := tright_any w8 (hkeep.out _ hg8).2 ⟨nm ++ ⟨#[48, 49, 50, 51, 52, 53, 54, 55, 56, 57, 97, 98, 99, 100, 101, 102]⟩, vr, at_, ev, .slice va xs.length vc, xs⟩ (hkeep.out _ hg8).1 (r := true) ⟨hra⟩
  simp only [Tmr.val] at hra
  replace hra : Hid _ := ⟨hra⟩
  refine hra.out.mono ?_
  rintro r w9 ⟨rfl, hg89⟩
  have hg9 := grown_none hg8 hg89
  have hl9 := hg89.size
  have hb1 := (hg89.block _ (by omega) (by simp)).trans hb1
  have hb2 := (hg89.block _ (by omega) (by simp)).trans hb2
  have hb3 := (hg89.block _ (by omega) (by simp)).trans hb3
  have hb4 := (hg89.block _ (by omega) (by simp)).trans hb4
  clear hra hg8
  obtain ⟨⟨c0, c1, c2, c3, c4⟩, d0, d1, d2, d3⟩ := hbox.out _ hg9
  have hg11 := hg9
  obtain ⟨w11, rfl⟩ : ∃ w11, w11 = w9 := ⟨_, rfl⟩
  have hsr := srt_any w11 ⟨kd, ky, vl, n⟩ (r := rgt ⟨kd, ky, vl, n⟩) ⟨rfl⟩
  obtain ⟨sb, hsb⟩ : ∃ sb, rgt ⟨kd, ky, vl, n⟩ = sb := ⟨_, rfl⟩
  rw [hsb] at hsr
  simp only [Sp.val] at hsr
  replace hsr : Hid _ := ⟨hsr⟩
  go_wp2_with fail
  refine hsr.out.mono ?_
  rintro r w12 ⟨rfl, hg112⟩
  have hg12' := grown_none hg11 hg112
  have hl12 := hg112.size
  have hb3 := (hg112.block _ (Array.getElem?_eq_some_iff.1 hb3).1 (by simp)).trans hb3
  have hb4 := (hg112.block _ (Array.getElem?_eq_some_iff.1 hb4).1 (by simp)).trans hb4
  clear hsr hg11 c0 c1 c2 c3 c4 d0 d1 d2 d3
  have hal := alive_any w12 (hkeep.out _ hg12').2
  replace hal : Hid _ := ⟨hal⟩
  go_wp2_with fail
  refine hal.out.mono ?_
  rintro r w13 ⟨rfl, hg123⟩
  have hg13 := grown_none hg12' hg123
  have hb3 := (hg123.block _ (Array.getElem?_eq_some_iff.1 hb3).1 (by simp)).trans hb3
  have hb4 := (hg123.block _ (Array.getElem?_eq_some_iff.1 hb4).1 (by simp)).trans hb4
  clear hal hg12'
  obtain ⟨⟨c0, c1, c2, c3, c4⟩, d0, d1, d2, d3⟩ := hbox.out _ hg13
  have hfin : Hid _ := ⟨below_of' (grown_none hga.out hg13)⟩
  have hn0q : ((nm.size : Int) == 0) = true := by rw [hn0]; rfl
  clear hg13 hb3 hb4 c1 c2 c3 c4 d0 d1 d2 d3
  go_wp2
  go_ret
  exact ⟨rfl, hfin.out⟩
theorem right_walk (x : Tmr) (s : Sp) (W : World) (hD : Dr W) (hx : Sps W.heap.size W x.v x.xs) (hxb : ∀ k, x.v.ownBlock = some k → k < W.heap.size) (hs : s.ok) (h0 : 0 ≤ x.at_ ∧ 0 ≤ x.ev) :
    Calls Tryz.prog 6 #[x.val, s.val] W fun e W' => e = .returned (.bool true) ∧ Below W.heap.size W W' := by
  obtain ⟨nm, vr, at_, ev, v, xs⟩ := x
  obtain ⟨kd, ky, vl, n⟩ := s
  cases hfit : (fewB xs && decide (nm.size ≤ 100)) with
  | false => exact rt_nf nm vr at_ ev v xs kd ky vl n W hD hx hs h0 hfit
  | true =>
    by_cases hk : 100 < ky.length
    · exact rt_sk nm vr at_ ev v xs kd ky vl n W hD hx hs h0 hfit hk
    · by_cases hv : 100 < vl.length
      · exact rt_sv nm vr at_ ev v xs kd ky vl n W hD hx hs h0 hfit (by omega) hv
      · cases hr : tR ⟨nm, vr, at_, ev, v, xs⟩ with
        | true =>
          by_cases ha : 0 < at_
          · exact rt_tw nm vr at_ ev v xs kd ky vl n W hD hx hs h0 hxb hfit ⟨by omega, by omega⟩ hr ha
          · exact rt_td nm vr at_ ev v xs kd ky vl n W hD hx hs h0 hxb hfit ⟨by omega, by omega⟩ hr (by omega)
        | false =>
          cases hra : tR ⟨nm ++ suf, vr, at_, ev, v, xs⟩ with
          | false => exact rt_f0 nm vr at_ ev v xs kd ky vl n W hD hx hs h0 hxb hfit ⟨by omega, by omega⟩ hr hra
          | true =>
            refine rt_f1 nm vr at_ ev v xs kd ky vl n W hD hx hs h0 hxb hfit ⟨by omega, by omega⟩ hr hra ?_
            have := ((tR_iff _).1 hra).1.2
            rw [ByteArray.size_append] at this
            have e : suf.size = 16 := rfl
            omega
end Go.Proofs.YtblnhcnfeagjhaaGreatDoor
