/- few, Same. -/
import Derived.Test.YtmahpceokpajgaaDoorAde
import Derived.Test.YtmahpceokpajgaaDoorLiv
namespace Go.Proofs.YtmahpceokpajgaaDoor
open Go.RowKit Go.IntWalk Go.Maps Go.Shelf
set_option linter.unusedVariables false
/-- Is a step short? -/
def shb (x : Sp) : Bool := decide (x.ky.length ≤ 300) && decide (x.vl.length ≤ 300)
def fewB (xs : List Sp) : Bool := decide (xs.length ≤ 40) && xs.all shb
set_option maxRecDepth 100000 in
set_option maxHeartbeats 4000000 in
theorem few_any (w : World) {v : Value} {xs : List Sp} (h : Sps w.heap.size w v xs) : Calls Tryd.prog 7 #[v] w fun e w' => e = .returned (.bool (fewB xs)) ∧ w.grownBy w' none := by
  obtain ⟨a, cap, rfl, hxl⟩ := h.shape
  unfold maxLen at hxl
  obtain ⟨r, hr⟩ : ∃ r, Hid (fewB xs = r) := ⟨_, ⟨rfl⟩⟩
  rw [hr.out]
  go_enter Tryd.func7, Tryd.ntmps7
  go_wp2_with fail
  go_loopw [3] (fun iv wr => ∃ i : Nat, iv = .int .i64 i ∧ i ≤ xs.length ∧ i ≤ 40 ∧ Hid ((xs.take i).all shb = true) ∧ Hid (w.grownBy wr none))
    (fun iv _ => xs.length - (intOf iv).toNat)
  case atStart => exact ⟨0, rfl, by omega, by omega, ⟨by simp⟩, ⟨grown_refl w⟩⟩
  case round =>
    obtain ⟨i, rfl, hi, hi40, hall, hg⟩ := hrel
    by_cases hlt : i < xs.length
    · have hdi : decide ((i : Int) < xs.length) = true := by simp; omega
      obtain ⟨x, hx⟩ : ∃ x, xs[i]? = some x := ⟨_, List.getElem?_eq_getElem hlt⟩
      obtain ⟨b, off, rfl, hb, hok, c0, c1, c2, c3⟩ := (h.keep hg.out (Nat.le_refl _)).at hx
      have z1 := bt_size x.ky
      have z2 := bt_size x.vl
      obtain ⟨ky, hky⟩ : ∃ ky, x.ky = ky := ⟨_, rfl⟩
      obtain ⟨vl, hvl⟩ : ∃ vl, x.vl = vl := ⟨_, rfl⟩
      have hok1 := hok.2.1
      have hok2 := hok.2.2.1
      unfold maxLen at hok1 hok2
      rw [hky] at c1 z1 hok1
      rw [hvl] at c2 z2 hok2
      have hsh : Hid (shb x = (decide (ky.length ≤ 300) && decide (vl.length ≤ 300))) := ⟨by unfold shb; rw [hky, hvl]⟩
      have hbad : Hid (¬ (xs.length ≤ 40 ∧ shb x = true) → r = false) := ⟨fun hn => by
        rw [← hr.out]
        unfold fewB
        cases h1 : decide (xs.length ≤ 40) with
        | false => rfl
        | true =>
          simp only [decide_eq_true_eq] at h1
          simp only [Bool.true_and]
          cases h2 : xs.all shb with
          | false => rfl
          | true => exact absurd ⟨h1, List.all_eq_true.1 h2 x (List.mem_of_getElem? hx)⟩ hn⟩
      have hgood : Hid (shb x = true → (xs.take (i + 1)).all shb = true) := ⟨fun hs => by rw [List.take_add_one, hx]; simp [hall.out, hs]⟩
      haveI := lat_nonempty wr
      have k1 := lat_cell c1
      have k2 := lat_cell c2
      clear hx hky hvl c0 c3 hok hall
      by_cases hi4 : i = 40
      · have hfin : Hid (r = false) := ⟨hbad.out (by omega)⟩
        have hq : ((i : Int) == 40) = true := by simp; omega
        have hq2 : (i : Int) = 40 := by omega
        subst hi4
        go_wp2_with fail
        go_ret
        exact ⟨by rw [hfin.out]; rfl, hg.out⟩
      · have hq : ((i : Int) == 40) = false := by simp; omega
        have hq2 : ¬ (i : Int) = 40 := by omega
        by_cases h1 : ky.length ≤ 300
        · have hd1 : decide ((ky.length : Int) > 300) = false := by simp; omega
          have hd1' : (ky.length : Int) ≤ 300 := by omega
          by_cases h2 : vl.length ≤ 300
          · have hd2 : decide ((vl.length : Int) > 300) = false := by simp; omega
            have hd2' : (vl.length : Int) ≤ 300 := by omega
            have hnx : Hid ((xs.take (i + 1)).all shb = true) := ⟨hgood.out (by rw [hsh.out]; simp [h1, h2])⟩
            go_wp2_with fail
            exact ⟨⟨i + 1, by go_num, by omega, by omega, hnx, hg⟩, by simp [intOf] <;> omega⟩
          · have hd2 : decide ((vl.length : Int) > 300) = true := by simp; omega
            have hd2' : (300 : Int) < vl.length := by omega
            have hfin : Hid (r = false) := ⟨hbad.out (by rw [hsh.out]; simp [h2])⟩
            go_wp2_with fail
            go_ret
            exact ⟨by rw [hfin.out]; rfl, hg.out⟩
        · have hd1 : decide ((ky.length : Int) > 300) = true := by simp; omega
          have hd1' : (300 : Int) < ky.length := by omega
          have hfin : Hid (r = false) := ⟨hbad.out (by rw [hsh.out]; simp [h1])⟩
          go_wp2_with fail
          go_ret
          exact ⟨by rw [hfin.out]; rfl, hg.out⟩
    · have hdi : decide ((i : Int) < xs.length) = false := by simp; omega
      have hfin : Hid (r = true) := ⟨by
        rw [← hr.out]
        have := hall.out
        rw [List.take_of_length_le (by omega)] at this
        unfold fewB
        rw [this]
        simp; omega⟩
      go_wp2_with fail
      go_ret
      exact ⟨by rw [hfin.out]; rfl, hg.out⟩
set_option maxRecDepth 100000 in
set_option maxHeartbeats 4000000 in
/-- Same, of an action and itself. -/
theorem same_any (w : World) {v u : Value} {xs : List Sp} (h : Sps w.heap.size w v xs) (k : Sps w.heap.size w u xs) : Calls Tryd.prog 13 #[v, u] w fun e w' => e = .returned (.bool true) ∧ w.grownBy w' none := by
  obtain ⟨a, cap, rfl, hxl⟩ := h.shape
  obtain ⟨a2, cap2, rfl, _⟩ := k.shape
  unfold maxLen at hxl
  go_enter Tryd.func13, Tryd.ntmps13
  go_wp2_with fail
  go_loopw [5] (fun iv wr => ∃ i : Nat, iv = .int .i64 i ∧ i ≤ xs.length ∧ Hid (w.grownBy wr none))
    (fun iv _ => xs.length - (intOf iv).toNat)
  case atStart => exact ⟨0, rfl, by omega, ⟨grown_refl w⟩⟩
  case round =>
    obtain ⟨i, rfl, hi, hg⟩ := hrel
    by_cases hlt : i < xs.length
    · have hdi : decide ((i : Int) < xs.length) = true := by simp; omega
      obtain ⟨x, hx⟩ : ∃ x, xs[i]? = some x := ⟨_, List.getElem?_eq_getElem hlt⟩
      obtain ⟨b, off, rfl, hb, hok, c0, c1, c2, c3⟩ := (h.keep hg.out (Nat.le_refl _)).at hx
      obtain ⟨b2, off2, rfl, hb2, -, e0, e1, e2, e3⟩ := (k.keep hg.out (Nat.le_refl _)).at hx
      have hq0 : (x.kd != x.kd) = false := by simp
      have hq1 : ((bt x.ky).toList != (bt x.ky).toList) = false := by simp
      have hq2 : ((bt x.vl).toList != (bt x.vl).toList) = false := by simp
      have hq3 : (x.n != x.n) = false := by simp
      haveI := lat_nonempty wr
      have k0 := lat_cell c0
      have k1 := lat_cell c1
      have k2 := lat_cell c2
      have k3 := lat_cell c3
      have m0 := lat_cell e0
      have m1 := lat_cell e1
      have m2 := lat_cell e2
      have m3 := lat_cell e3
      clear hx c0 c1 c2 c3 e0 e1 e2 e3 hok
      go_wp2_with fail
      refine wp_region_lat (by kernel_rfl) (by kernel_rfl) ?_
      repeat (go_big_quiet_step (fail))
      refine wpQuiet_nil ?_
      intro _ hw'
      obtain ⟨q, hw''⟩ := hw'
      subst hw''
      have hg2 : Hid (w.grownBy q.W none) := ⟨grown_none hg.out q.h⟩
      clear k0 k1 k2 k3 m0 m1 m2 m3
      go_wp2_with fail
      exact ⟨⟨i + 1, by go_num, by omega, hg2⟩, by simp [intOf] <;> omega⟩
    · have hdi : decide ((i : Int) < xs.length) = false := by simp; omega
      go_wp2_with fail
      go_ret
      exact ⟨rfl, hg.out⟩
end Go.Proofs.YtmahpceokpajgaaDoor
