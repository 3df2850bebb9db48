/- Fits. -/
import Derived.Test.YtblnhcnfeagjhaaGreatDoorLiv
namespace Go.Proofs.YtblnhcnfeagjhaaGreatDoor
open Go.RowKit Go.IntWalk Go.Maps Go.Shelf
set_option linter.unusedVariables false
/-- Is a step short? -/
def shb (x : Sp) : Bool := decide (x.ky.length ≤ 100) && decide (x.vl.length ≤ 100)
def fewB (xs : List Sp) : Bool := decide (xs.length ≤ 10) && xs.all shb
set_option maxRecDepth 100000 in
set_option maxHeartbeats 4000000 in
theorem fits_any (W : World) (x : Tmr) (h0 : Sps W.heap.size W x.v x.xs) : Calls Tryz.prog 10 #[x.val] W fun e w' => e = .returned (.bool (fewB x.xs && decide (x.nm.size ≤ 100))) ∧ W.grownBy w' none := by
  obtain ⟨nm, vr, at_, ev, v, xs⟩ := x
  simp only [Tmr.val] at h0 ⊢
  obtain ⟨a, cap, rfl, hxl⟩ := h0.shape
  have hga := World.grownBy_alloc W (bT nm vr at_ ev (.slice a xs.length cap)) none
  have h := (h0.keep hga (Nat.le_refl _)).up hga.size
  have hB := World.alloc_heap_new W (bT nm vr at_ ev (.slice a xs.length cap))
  obtain ⟨w, hw⟩ : ∃ w, w = W.alloc (bT nm vr at_ ev (.slice a xs.length cap)) := ⟨_, rfl⟩
  rw [← hw] at h hga hB
  obtain ⟨d0, d1, d2, d3, d4, _⟩ := own_five hB
  unfold maxLen at hxl
  obtain ⟨r, hr⟩ : ∃ r, Hid (fewB xs = r) := ⟨_, ⟨rfl⟩⟩
  rw [hr.out]
  clear h0
  replace hga : Hid _ := ⟨hga⟩
  go_enter Tryz.func10, Tryz.ntmps10
  go_wp2_with fail
  rw [← hw]
  clear hw
  go_loopw [3] (fun iv wr => ∃ i : Nat, iv = .int .i64 i ∧ i ≤ xs.length ∧ i ≤ 10 ∧ Hid ((xs.take i).all shb = true) ∧ Hid (w.grownBy wr none))
    (fun iv _ => xs.length - (intOf iv).toNat)
  case atStart => exact ⟨0, rfl, by omega, by omega, ⟨by simp⟩, ⟨grown_refl w⟩⟩
  case round =>
    obtain ⟨i, rfl, hi, hi10, hall, hg⟩ := hrel
    have c4 := grown_cell hg.out d4
    have c5 := grown_cell hg.out d0
    by_cases hlt : i < xs.length
    · have hdi : decide ((i : Int) < xs.length) = true := by simp; omega
      obtain ⟨x, hx⟩ : ∃ x, xs[i]? = some x := ⟨_, List.getElem?_eq_getElem hlt⟩
      obtain ⟨b, off, rfl, hb, hok, c0, c1, c2, c3⟩ := (h.keep hg.out (Nat.le_refl _)).at hx
      have z1 := bt_size x.ky
      have z2 := bt_size x.vl
      obtain ⟨ky, hky⟩ : ∃ ky, x.ky = ky := ⟨_, rfl⟩
      obtain ⟨vl, hvl⟩ : ∃ vl, x.vl = vl := ⟨_, rfl⟩
      have hok1 := hok.2.1
      have hok2 := hok.2.2.1
      unfold maxLen at hok1 hok2
      rw [hky] at c1 z1 hok1
      rw [hvl] at c2 z2 hok2
      have hsh : Hid (shb x = (decide (ky.length ≤ 100) && decide (vl.length ≤ 100))) := ⟨by unfold shb; rw [hky, hvl]⟩
      have hbad : Hid (¬ (xs.length ≤ 10 ∧ shb x = true) → r = false) := ⟨fun hn => by
        rw [← hr.out]
        unfold fewB
        cases h1 : decide (xs.length ≤ 10) with
        | false => rfl
        | true =>
          simp only [decide_eq_true_eq] at h1
          simp only [Bool.true_and]
          cases h2 : xs.all shb with
          | false => rfl
          | true => exact absurd ⟨h1, List.all_eq_true.1 h2 x (List.mem_of_getElem? hx)⟩ hn⟩
      have hgood : Hid (shb x = true → (xs.take (i + 1)).all shb = true) := ⟨fun hs => by rw [List.take_add_one, hx]; simp [hall.out, hs]⟩
      haveI := lat_nonempty wr
      have k1 := lat_cell c1
      have k2 := lat_cell c2
      clear hx hky hvl c0 c3 hok hall
      by_cases hi4 : i = 10
      · have hfin : Hid (r = false) := ⟨hbad.out (by omega)⟩
        have hq : ((i : Int) == 10) = true := by simp; omega
        have hq2 : (i : Int) = 10 := by omega
        subst hi4
        go_wp2_with fail
        go_ret
        exact ⟨by rw [hfin.out]; rfl, grown_none hga.out hg.out⟩
      · have hq : ((i : Int) == 10) = false := by simp; omega
        have hq2 : ¬ (i : Int) = 10 := by omega
        by_cases h1 : ky.length ≤ 100
        · have hd1 : decide ((ky.length : Int) > 100) = false := by simp; omega
          have hd1' : (ky.length : Int) ≤ 100 := by omega
          by_cases h2 : vl.length ≤ 100
          · have hd2 : decide ((vl.length : Int) > 100) = false := by simp; omega
            have hd2' : (vl.length : Int) ≤ 100 := by omega
            have hnx : Hid ((xs.take (i + 1)).all shb = true) := ⟨hgood.out (by rw [hsh.out]; simp [h1, h2])⟩
            go_wp2_with fail
            exact ⟨⟨i + 1, by go_num, by omega, by omega, hnx, hg⟩, by simp [intOf] <;> omega⟩
          · have hd2 : decide ((vl.length : Int) > 100) = true := by simp; omega
            have hd2' : (100 : Int) < vl.length := by omega
            have hfin : Hid (r = false) := ⟨hbad.out (by rw [hsh.out]; simp [h2])⟩
            go_wp2_with fail
            go_ret
            exact ⟨by rw [hfin.out]; rfl, grown_none hga.out hg.out⟩
        · have hd1 : decide ((ky.length : Int) > 100) = true := by simp; omega
          have hd1' : (100 : Int) < ky.length := by omega
          have hfin : Hid (r = false) := ⟨hbad.out (by rw [hsh.out]; simp [h1])⟩
          go_wp2_with fail
          go_ret
          exact ⟨by rw [hfin.out]; rfl, grown_none hga.out hg.out⟩
    · have hdi : decide ((i : Int) < xs.length) = false := by simp; omega
      have hfin : Hid (r = true) := ⟨by
        rw [← hr.out]
        have := hall.out
        rw [List.take_of_length_le (by omega)] at this
        unfold fewB
        rw [this]
        simp; omega⟩
      obtain ⟨hfr⟩ := hfin
      subst hfr
      go_wp2_with fail
      go_ret
      refine ⟨?_, grown_none hga.out hg.out⟩
      show Ending.returned (.bool _) = .returned (.bool _)
      congr 2
      simp
      omega
end Go.Proofs.YtblnhcnfeagjhaaGreatDoor
