/- The walk of TimersNil. -/
import Derived.Test.YtblnhcnfeagjhaaGreatDoorFit
namespace Go.Proofs.YtblnhcnfeagjhaaGreatDoor
open Go.RowKit Go.IntWalk Go.Maps Go.Shelf
set_option linter.unusedVariables false
set_option maxRecDepth 100000 in
set_option maxHeartbeats 4000000 in
theorem nil_walk (x : Tmr) (now : Int) (W : World) (hD : Dr W) (hx : Sps W.heap.size W x.v x.xs) :
    Calls Tryz.prog 7 #[x.val, .int .u64 now] W fun e W' => e = .returned (.bool true) ∧ Below W.heap.size W W' := by
  obtain ⟨b, hb⟩ : ∃ b, Hid ((fewB x.xs && decide (x.nm.size ≤ 100)) = b) := ⟨_, ⟨rfl⟩⟩
  obtain ⟨nm, vr, at_, ev, v, xs⟩ := x
  have hga := World.grownBy_alloc W (bT nm vr at_ ev v) none
  have hfi := fits_any (W.alloc (bT nm vr at_ ev v)) ⟨nm, vr, at_, ev, v, xs⟩ ((hx.keep hga (Nat.le_refl _)).up hga.size)
  rw [hb.out] at hfi
  simp only [Tmr.val] at hfi hx ⊢
  obtain ⟨va, vc, rfl, _⟩ := hx.shape
  have hB := World.alloc_heap_new W (bT nm vr at_ ev (.slice va xs.length vc))
  replace hfi : Hid _ := ⟨hfi⟩
  replace hD : Hid _ := ⟨hD⟩
  obtain ⟨c0, c1, c2, c3, c4, _⟩ := own_five hB
  go_enter Tryz.func7, Tryz.ntmps7
  go_wp2_with fail
  refine hfi.out.mono ?_
  rintro r w1 ⟨rfl, hg1⟩
  have hB1 := (hg1.block W.heap.size (by simp) (by simp)).trans hB
  have hg01 := grown_none hga hg1
  clear hfi c0 c1 c2 c3 c4 hB hg1 hga
  cases b with
  | false =>
    have hal := alive_any w1 (hD.out.keep hg01)
    replace hal : Hid _ := ⟨hal⟩
    replace hg01 : Hid _ := ⟨hg01⟩
    clear hB1 hx
    go_wp2_with fail
    refine hal.out.mono ?_
    rintro r w2 ⟨rfl, hg2⟩
    have hfin : Hid _ := ⟨below_of' (grown_none hg01.out hg2)⟩
    clear hal hg2 hg01
    go_wp2
    go_ret
    exact ⟨rfl, hfin.out⟩
  | true =>
    obtain ⟨c0, c1, c2, c3, c4, _⟩ := own_five hB1
    have hge := get_nil w1 nm
    replace hge : Hid _ := ⟨hge⟩
    replace hg01 : Hid _ := ⟨hg01⟩
    replace hB1 : Hid _ := ⟨hB1⟩
    replace hx : Hid _ := ⟨hx⟩
    go_wp2_with fail
    refine hge.out.mono ?_
    rintro r w2 ⟨rfl, hg2⟩
    have hg02 := grown_none hg01.out hg2
    clear hge c0 c1 c2 c3 c4
    have hga2 := World.grownBy_alloc w2 zT none
    have hg03 := grown_none hg02 hga2
    have hso := soon_nil (w2.alloc zT)
    replace hso : Hid _ := ⟨hso⟩
    have hwl : W.heap.size < w1.heap.size := (Array.getElem?_eq_some_iff.1 hB1.out).1
    have hB3 : (w2.alloc zT).heap[W.heap.size]? = some _ := (hga2.block _ (Nat.lt_of_lt_of_le hwl hg2.size) (by simp)).trans ((hg2.block _ hwl (by simp)).trans hB1.out)
    replace hB3 : Hid _ := ⟨hB3⟩
    replace hg03 : Hid _ := ⟨hg03⟩
    clear hg2 hg02 hga2 hB1 hg01
    simp only [zTv]
    go_wp2_with fail
    refine hso.out.mono ?_
    rintro r w3 ⟨rfl, rfl⟩
    have hal := alive_any (w2.alloc zT) (hD.out.keep hg03.out)
    replace hal : Hid _ := ⟨hal⟩
    clear hso
    go_wp2_with fail
    refine hal.out.mono ?_
    rintro r w4 ⟨rfl, hg4⟩
    have hg04 := grown_none hg03.out hg4
    have hB4 := (hg4.block _ (Array.getElem?_eq_some_iff.1 hB3.out).1 (by simp)).trans hB3.out
    obtain ⟨c0, c1, c2, c3, c4, _⟩ := own_five hB4
    have hst := set_nil w4 ⟨nm, vr, at_, ev, .slice va xs.length vc, xs⟩
    simp only [Tmr.val] at hst
    replace hst : Hid _ := ⟨hst⟩
    replace hg04 : Hid _ := ⟨hg04⟩
    replace hB4 : Hid _ := ⟨hB4⟩
    clear hal hg4 hB3 hg03
    go_wp2_with fail
    refine hst.out.mono ?_
    rintro r w5 ⟨rfl, hg5⟩
    clear c0 c1 c2 c3 c4 hst
    have hB5 := (hg5.block _ (Array.getElem?_eq_some_iff.1 hB4.out).1 (by simp)).trans hB4.out
    obtain ⟨c0, c1, c2, c3, c4, _⟩ := own_five hB5
    have hg05 : Hid _ := ⟨below_of' (grown_none hg04.out hg5)⟩
    clear hB5 hB4 hg04 hg5
    go_wp2_with fail
    refine (drop_nil _ nm).mono ?_
    rintro r w6 ⟨rfl, rfl⟩
    go_wp2_with fail
    refine (adv_nil _ now).mono ?_
    rintro r w6 ⟨rfl, rfl⟩
    go_wp2_with fail
    refine (due_nil _).mono ?_
    rintro r w6 ⟨rfl, rfl⟩
    go_wp2_with fail
    refine (all_nil _).mono ?_
    rintro r w6 ⟨rfl, rfl⟩
    go_wp2_with fail
    refine (clock_nil _).mono ?_
    rintro r w6 ⟨rfl, rfl⟩
    go_wp2_with fail
    refine (copy_nil _).mono ?_
    rintro r w6 ⟨rfl, rfl⟩
    go_wp2
    go_ret
    exact ⟨rfl, hg05.out⟩
end Go.Proofs.YtblnhcnfeagjhaaGreatDoor
