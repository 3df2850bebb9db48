/- The document's bytes of an action: belfryref09.Encode. -/
import Derived.Test.YtmahpceokpajgaaDoorRst
import Derived.BigRegion
namespace Go.Proofs.YtmahpceokpajgaaDoor
open Go.RowKit Go.IntWalk Go.Maps Go.Shelf
set_option linter.unusedVariables false
set_option linter.unusedSimpArgs false
theorem wr_first {xs : List Sp} {i : Nat} {x : Sp} (h4 : xs.length ≤ 4) (hx : xs[i]? = some x) (hr : rgt x = false) : wrE xs = 91 := by
  unfold wrE
  rw [if_pos h4, if_neg]
  intro h
  have := List.all_eq_true.1 h x (List.mem_of_getElem? hx)
  rw [hr] at this
  cases this
/-- belfryref01.Encode of fields that may be. -/
theorem refenc_any (w : World) {v : Value} {fs : List C.Fd} (h : C.Flds w.heap.size w v fs) (hok : C.okL fs = true) :
    Calls Tryd.prog 26 #[v] w fun e w' => ∃ u, e = .returned (.tuple #[u, .int .i64 0]) ∧ w'.ownsRow w.heap.size 5 1 u (C.encL fs).length ((C.encL fs).map (Value.int .u8)) ∧ Below w.heap.size w w' := by
  obtain ⟨a, cap, rfl⟩ := flds_shape h
  simp only [C.okL, Bool.and_eq_true, decide_eq_true_eq, List.all_eq_true] at hok
  refine (C.refenc_core a fs.length cap (by simp; omega) w fs (fun j => fs[j]?.getD ⟨0, none, 0, 0, []⟩) (show ∀ j, j < fs.length → fs[j]? = some (fs[j]?.getD ⟨0, none, 0, 0, []⟩) from fun j hj => by rw [List.getElem?_eq_getElem hj]; rfl) (show fs.length = fs.length from rfl) fun j hj => ?_).mono ?_
  · have e : fs[j]? = some fs[j] := List.getElem?_eq_getElem hj
    obtain ⟨b, off, ha, hb, hfo, h0, h1⟩ := flds_at h e
    refine ⟨b, off, ha, ?_⟩
    rw [e]
    exact ⟨h0, h1, hfo⟩
  · rintro e w' ⟨⟨u, rfl, _, hrow⟩ | ⟨_, j, hj, hr⟩, hB⟩
    · rw [List.take_length] at hrow
      exact ⟨u, rfl, hrow, hB⟩
    · exfalso
      rw [List.getElem?_eq_getElem hj] at hr
      have := hok.2 fs[j] (List.getElem_mem hj)
      simp only [Option.getD_some] at hr
      rw [hr] at this
      cases this
set_option maxRecDepth 100000 in
set_option maxHeartbeats 4000000 in
theorem rencA_any (w : World) {v : Value} {xs : List Sp} (hx : Sps w.heap.size w v xs) {r : Int} (hr : Hid (wrE xs = r)) : Calls Tryd.prog 10 #[v] w fun e w' => ∃ u, e = .returned (.tuple #[u, .int .i64 r]) ∧ w'.ownsRow w.heap.size 5 1 u (if r = 0 then encX xs else []).length ((if r = 0 then encX xs else []).map (Value.int .u8)) ∧ w.grownBy w' none := by
  obtain ⟨a, cap, rfl, hxl⟩ := hx.shape
  unfold maxLen at hxl
  by_cases h4 : xs.length ≤ 4
  · go_enter Tryd.func10, Tryd.ntmps10
    go_wp2
    go_loopw [4, 5] (fun v iv wr => ∃ (i : Nat) (fs : List C.Fd) (fa : Option Addr) (fc : Nat), iv = .int .i64 i ∧ i ≤ xs.length ∧ v = .slice fa fs.length fc ∧ Hid (fs.length = i) ∧ Hid (Fso w wr (.slice fa fs.length fc) fs (xs.take i)) ∧ Hid ((xs.take i).all rgt = true))
      (fun _ iv _ => xs.length - (intOf iv).toNat)
    case atStart => exact ⟨0, [], none, 0, rfl, by omega, rfl, ⟨rfl⟩, ⟨World.ownsRow_nil _ _ _ _, by simp, rfl, grown_refl _⟩, ⟨rfl⟩⟩
    case round =>
      obtain ⟨i, fs, fa, fc, rfl, hi, rfl, hfl, hF, hall⟩ := hrel
      by_cases hlt : i < xs.length
      · have hdi : decide ((i : Int) < xs.length) = true := by simp; omega
        obtain ⟨x, hxi⟩ : ∃ x, xs[i]? = some x := ⟨_, List.getElem?_eq_getElem hlt⟩
        obtain ⟨b, off, rfl, hb, hok, c0, c1, c2, c3⟩ := (hx.keep hF.out.g (Nat.le_refl _)).at hxi
        obtain ⟨g, hg⟩ : ∃ g, Hid (rgt x = g) := ⟨_, ⟨rfl⟩⟩
        have hsr := srt_any wr x hg
        cases g with
        | false =>
          obtain rfl : r = 91 := by rw [← hr.out]; exact wr_first h4 hxi hg.out
          replace hsr : Hid _ := ⟨hsr⟩
          replace hxi : Hid _ := ⟨hxi⟩
          obtain ⟨kd, ky, vl, n⟩ := x
          simp only [Sp.val] at hsr c0 c1 c2 c3
          go_wp2_with fail
          refine hsr.out.mono ?_
          rintro e w1 ⟨rfl, hg1⟩
          go_wp2
          go_ret2
          exact ⟨_, rfl, by simpa using World.ownsRow_nil _ _ _ _, grown_none hF.out.g hg1⟩
        | true =>
          obtain ⟨hk1, hk4, hk16, hv60, hkne⟩ := rgt_kd hg.out
          have hn := hok.2.2.2
          obtain ⟨D, hD⟩ : ∃ D, Hid (dat x = D) := ⟨_, ⟨rfl⟩⟩
          replace hsr : Hid _ := ⟨hsr⟩
          replace hxi : Hid _ := ⟨hxi⟩
          obtain ⟨kd, ky, vl, n⟩ := x
          simp only [Sp.val] at hsr c0 c1 c2 c3 hk1 hk4 hk16 hv60 hkne hn
          obtain ⟨sd, hsd⟩ : ∃ sd : K, (if kd = 3 then Lib.itoa n else vl) = sd := ⟨_, rfl⟩
          have hsl : sd.length ≤ 60 := by
            rw [← hsd]
            split
            · have := itoa_len hn; omega
            · exact hv60
          have hD2 : Hid (D = UInt8.ofNat ky.length :: ky ++ sd) := ⟨by rw [← hD.out, ← hsd]; rfl⟩
          have hD0 := hD
          have hkd : -9223372036854775808 ≤ kd ∧ kd ≤ 9223372036854775807 := ⟨by omega, by omega⟩
          clear hD hok
          by_cases hk3 : kd = 3
          · have hk3b : (kd == 3) = true := by simpa using hk3
            rw [if_pos hk3] at hsd
            have hsd' := Hid.mk hsd
            replace hk3 := Hid.mk hk3
            clear hsd
            have htx := fun w1 => text_any w1 n hn
            go_wp2_with fail
            refine hsr.out.mono ?_
            rintro e w1 ⟨rfl, hg1⟩
            have hF1 := Hid.mk (hF.out.keep hg1)
            have d0 := grown_cell hg1 c0
            have d1 := grown_cell hg1 c1
            have d2 := grown_cell hg1 c2
            have d3 := grown_cell hg1 c3
            have hbw : b < w1.heap.size := World.block_lt_of_cell? w1 _ d0
            have hww : w.heap.size ≤ w1.heap.size := hF1.out.g.size
            clear c0 c1 c2 c3 hg1 hsr hF
            have hks := bt_size ky
            have hvs := bt_size sd
            have hcat : bt ky ++ bt sd = bt (ky ++ sd) := bt_app _ _
            have hlim : ¬ 9223372036854775807 < ky.length + sd.length := by omega
            have hkl : (ky ++ sd).length ≤ 1000000 := by simp; omega
            obtain ⟨c, hc⟩ : ∃ c : UInt8, c = UInt8.ofNat ky.length := ⟨_, rfl⟩
            have hcz : (c.toNat : Int) = ky.length := by rw [hc, UInt8.toNat_ofNat_of_lt' (by show ky.length < 256; omega)]
            have hDc : Hid (D = [c] ++ (ky ++ sd)) := ⟨by rw [hD2.out, hc]; simp⟩
            have hfl4 : fs.length ≤ 4096 := by have := hfl.out; omega
            replace hcz := Hid.mk hcz
            have hwr : IntKind.u8.wrap (ky.length : Int) = ky.length := by rw [IntKind.wrap_u8]; omega
            obtain ⟨cf, wf, hrf, hBf, hgf, hnf⟩ := conv_any (ky ++ sd) hkl
            rw [List.length_append] at hrf hBf
            replace hBf := Hid.mk hBf
            replace hnf := Hid.mk hnf
            clear hc hD2
            go_wp2_with fail
            refine (htx _).mono ?_
            rintro e w1 ⟨rfl, rfl⟩
            rw [hsd'.out]
            go_wp2_with fail
            refine wp_region_held_drew (S := fun w' => w'.cell? ⟨b, off + i * 4, none⟩ = some (.int .i64 kd) ∧ w'.cell? ⟨b, off + i * 4 + 1, none⟩ = some (.string (bt ky))) (by kernel_rfl) (by (try dsimp only); exact ⟨d0, d1⟩) (fun hHeld => ?_)
            refine wpAnyH_take (i := 0) (v := ?_) rfl (by kernel_rfl) (by kernel_rfl) (by kernel_rfl) (fun _ _ _ h => h) (Or.inl ⟨by rfl, ?_⟩) (by assumption) ?_
            rotate_left
            · (intro w hSw; (try dsimp only at hSw); go_simp; try with_reducible rfl)
            try simp only [List.getElem_toArray, List.getElem_cons_zero, List.getElem_cons_succ, Act.put, List.setIfInBounds_toArray, List.set_cons_zero, List.set_cons_succ]
            refine wpAnyH_take (i := 1) (v := ?_) rfl (by kernel_rfl) (by kernel_rfl) (by kernel_rfl) (fun _ _ _ h => h) (Or.inl ⟨by rfl, ?_⟩) (by assumption) ?_
            rotate_left
            · (intro w hSw; (try dsimp only at hSw); go_simp; try with_reducible rfl)
            try simp only [List.getElem_toArray, List.getElem_cons_zero, List.getElem_cons_succ, Act.put, List.setIfInBounds_toArray, List.set_cons_zero, List.set_cons_succ]
            refine wpAnyH_take (i := 2) (v := ?_) rfl (by kernel_rfl) (by kernel_rfl) (by kernel_rfl) (fun _ _ _ h => h) (Or.inl ⟨by rfl, ?_⟩) (by assumption) ?_
            rotate_left
            · (intro w hSw; (try dsimp only at hSw); go_simp; try with_reducible rfl)
            try simp only [List.getElem_toArray, List.getElem_cons_zero, List.getElem_cons_succ, Act.put, List.setIfInBounds_toArray, List.set_cons_zero, List.set_cons_succ]
            refine wpAnyH_take (i := 3) (v := ?_) rfl (by kernel_rfl) (by kernel_rfl) (by kernel_rfl) (fun _ _ _ h => h) (Or.inl ⟨by rfl, ?_⟩) (by assumption) ?_
            rotate_left
            · (intro w hSw; (try dsimp only at hSw); go_simp; try with_reducible rfl)
            try simp only [List.getElem_toArray, List.getElem_cons_zero, List.getElem_cons_succ, Act.put, List.setIfInBounds_toArray, List.set_cons_zero, List.set_cons_succ]
            refine wpAnyH_take (i := 4) (v := ?_) rfl (by kernel_rfl) (by kernel_rfl) (by kernel_rfl) (fun _ _ _ h => h) (Or.inl ⟨by rfl, ?_⟩) (by assumption) ?_
            rotate_left
            · (intro w hSw; (try dsimp only at hSw); go_simp; try with_reducible rfl)
            try simp only [List.getElem_toArray, List.getElem_cons_zero, List.getElem_cons_succ, Act.put, List.setIfInBounds_toArray, List.set_cons_zero, List.set_cons_succ]
            refine wpAnyH_take (i := 5) (v := ?_) rfl (by kernel_rfl) (by kernel_rfl) (by kernel_rfl) (fun _ _ _ h => h) (Or.inl ⟨by rfl, ?_⟩) (by assumption) ?_
            rotate_left
            · (intro w hSw; (try dsimp only at hSw); go_simp; try with_reducible rfl)
            try simp only [List.getElem_toArray, List.getElem_cons_zero, List.getElem_cons_succ, Act.put, List.setIfInBounds_toArray, List.set_cons_zero, List.set_cons_succ]
            refine wpAnyH_take (i := 6) (v := ?_) rfl (by kernel_rfl) (by kernel_rfl) (by kernel_rfl) (fun _ _ _ h => h) (Or.inl ⟨by rfl, ?_⟩) (by assumption) ?_
            rotate_left
            · (intro w hSw; (try dsimp only at hSw); go_simp; try with_reducible rfl)
            try simp only [List.getElem_toArray, List.getElem_cons_zero, List.getElem_cons_succ, Act.put, List.setIfInBounds_toArray, List.set_cons_zero, List.set_cons_succ]
            refine wpAnyH_take (i := 7) (v := ?_) rfl (by kernel_rfl) (by kernel_rfl) (by kernel_rfl) (fun _ _ _ h => h) (Or.inl ⟨by rfl, ?_⟩) (by assumption) ?_
            rotate_left
            · (intro w hSw; (try dsimp only at hSw); go_simp; try with_reducible rfl)
            try simp only [List.getElem_toArray, List.getElem_cons_zero, List.getElem_cons_succ, Act.put, List.setIfInBounds_toArray, List.set_cons_zero, List.set_cons_succ]
            refine wpAnyH_take (i := 8) (v := ?_) rfl (by kernel_rfl) (by kernel_rfl) (by kernel_rfl) (fun _ _ _ h => h) (Or.inl ⟨by rfl, ?_⟩) (by assumption) ?_
            rotate_left
            · (intro w hSw; (try dsimp only at hSw); go_simp; try with_reducible rfl)
            try simp only [List.getElem_toArray, List.getElem_cons_zero, List.getElem_cons_succ, Act.put, List.setIfInBounds_toArray, List.set_cons_zero, List.set_cons_succ]
            refine wpAnyH_take (i := 9) (v := ?_) rfl (by kernel_rfl) (by kernel_rfl) (by kernel_rfl) (fun _ _ _ h => h) (Or.inl ⟨by rfl, ?_⟩) (by assumption) ?_
            rotate_left
            · (intro w hSw; (try dsimp only at hSw); go_simp; try with_reducible rfl)
            try simp only [List.getElem_toArray, List.getElem_cons_zero, List.getElem_cons_succ, Act.put, List.setIfInBounds_toArray, List.set_cons_zero, List.set_cons_succ]
            refine wpAnyH_take (i := 10) (v := ?_) rfl (by kernel_rfl) (by kernel_rfl) (by kernel_rfl) (fun _ _ _ h => h) (Or.inl ⟨by rfl, ?_⟩) (by assumption) ?_
            rotate_left
            · (intro w hSw; (try dsimp only at hSw); go_simp; try with_reducible rfl)
            try simp only [List.getElem_toArray, List.getElem_cons_zero, List.getElem_cons_succ, Act.put, List.setIfInBounds_toArray, List.set_cons_zero, List.set_cons_succ]
            refine wpAnyH_take (i := 11) (v := ?_) rfl (by kernel_rfl) (by kernel_rfl) (by kernel_rfl) (fun _ _ _ h => h) (Or.inl ⟨by rfl, ?_⟩) (by assumption) ?_
            rotate_left
            · (intro w hSw; (try dsimp only at hSw); go_simp; try with_reducible rfl)
            try simp only [List.getElem_toArray, List.getElem_cons_zero, List.getElem_cons_succ, Act.put, List.setIfInBounds_toArray, List.set_cons_zero, List.set_cons_succ]
            refine wpAnyH_take (i := 12) (v := ?_) rfl (by kernel_rfl) (by kernel_rfl) (by kernel_rfl) (fun _ _ _ h => h) (Or.inl ⟨by rfl, ?_⟩) (by assumption) ?_
            rotate_left
            · (intro w hSw; (try dsimp only at hSw); go_simp; try with_reducible rfl)
            try simp only [List.getElem_toArray, List.getElem_cons_zero, List.getElem_cons_succ, Act.put, List.setIfInBounds_toArray, List.set_cons_zero, List.set_cons_succ]
            refine wpAnyH_take (i := 14) (v := ?_) rfl (by kernel_rfl) (by kernel_rfl) (by kernel_rfl) (fun _ _ _ h => h) (Or.inl ⟨by rfl, ?_⟩) (by assumption) ?_
            rotate_left
            · (intro w hSw; (try dsimp only at hSw); go_simp; try with_reducible rfl)
            try simp only [List.getElem_toArray, List.getElem_cons_zero, List.getElem_cons_succ, Act.put, List.setIfInBounds_toArray, List.set_cons_zero, List.set_cons_succ]
            refine wpAnyH_take (i := 15) (v := ?_) rfl (by kernel_rfl) (by kernel_rfl) (by kernel_rfl) (fun _ _ _ h => h) (Or.inl ⟨by rfl, ?_⟩) (by assumption) ?_
            rotate_left
            · (intro w hSw; (try dsimp only at hSw); go_simp; try with_reducible rfl)
            try simp only [List.getElem_toArray, List.getElem_cons_zero, List.getElem_cons_succ, Act.put, List.setIfInBounds_toArray, List.set_cons_zero, List.set_cons_succ]
            refine wpAnyH_take (i := 16) (v := ?_) rfl (by kernel_rfl) (by kernel_rfl) (by kernel_rfl) (fun _ _ _ h => h) (Or.inl ⟨by rfl, ?_⟩) (by assumption) ?_
            rotate_left
            · (intro w hSw; (try dsimp only at hSw); go_simp; try with_reducible rfl)
            try simp only [List.getElem_toArray, List.getElem_cons_zero, List.getElem_cons_succ, Act.put, List.setIfInBounds_toArray, List.set_cons_zero, List.set_cons_succ]
            refine wpAnyH_take (i := 17) (v := ?_) rfl (by kernel_rfl) (by kernel_rfl) (by kernel_rfl) (fun _ _ _ h => h) (Or.inl ⟨by rfl, ?_⟩) (by assumption) ?_
            rotate_left
            · (intro w hSw; (try dsimp only at hSw); go_simp; try with_reducible rfl)
            try simp only [List.getElem_toArray, List.getElem_cons_zero, List.getElem_cons_succ, Act.put, List.setIfInBounds_toArray, List.set_cons_zero, List.set_cons_succ]
            refine wpAnyH_take (i := 18) (v := ?_) rfl (by kernel_rfl) (by kernel_rfl) (by kernel_rfl) (fun _ _ _ h => h) (Or.inl ⟨by rfl, ?_⟩) (by assumption) ?_
            rotate_left
            · (intro w hSw; (try dsimp only at hSw); go_simp; try with_reducible rfl)
            try simp only [List.getElem_toArray, List.getElem_cons_zero, List.getElem_cons_succ, Act.put, List.setIfInBounds_toArray, List.set_cons_zero, List.set_cons_succ]
            refine wpAnyH_take (i := 19) (v := ?_) rfl (by kernel_rfl) (by kernel_rfl) (by kernel_rfl) (fun _ _ _ h => h) (Or.inl ⟨by rfl, ?_⟩) (by assumption) ?_
            rotate_left
            · (intro w hSw; (try dsimp only at hSw); go_simp; try with_reducible rfl)
            try simp only [List.getElem_toArray, List.getElem_cons_zero, List.getElem_cons_succ, Act.put, List.setIfInBounds_toArray, List.set_cons_zero, List.set_cons_succ]
            refine wpAnyH_take (i := 20) (v := ?_) rfl (by kernel_rfl) (by kernel_rfl) (by kernel_rfl) (fun _ _ _ h => h) (Or.inl ⟨by rfl, ?_⟩) (by assumption) ?_
            rotate_left
            · (intro w hSw; (try dsimp only at hSw); go_simp; try with_reducible rfl)
            try simp only [List.getElem_toArray, List.getElem_cons_zero, List.getElem_cons_succ, Act.put, List.setIfInBounds_toArray, List.set_cons_zero, List.set_cons_succ]
            refine wpAnyH_ready (rs := [13, 21]) (by kernel_rfl) (by simp) ?_
            refine AllReadyH.cons rfl (fun K hK => ?_) (AllReadyH.cons rfl (fun K hK => ?_) AllReadyH.nil)
            · go_simp
              refine hK.out _ _ ?_ (fun hHeld => ?_)
              · ((try dsimp only); go_keep)
              clear hK K
              try simp only [List.getElem_toArray, List.getElem_cons_zero, List.getElem_cons_succ, Act.put, List.setIfInBounds_toArray, List.set_cons_zero, List.set_cons_succ]
              refine wpAnyH_ready (rs := [21]) (by kernel_rfl) (by simp) ?_
              refine AllReadyH.cons rfl (fun K hK => ?_) AllReadyH.nil
              go_simp
              refine hK.out _ _ ?_ (fun hHeld => ?_)
              · ((try dsimp only); exact two_keep (hgf _) (fun k e => by cases e) hHeld)
              clear hK K
              try simp only [List.getElem_toArray, List.getElem_cons_zero, List.getElem_cons_succ, Act.put, List.setIfInBounds_toArray, List.set_cons_zero, List.set_cons_succ]
              refine wpAnyH_ready (rs := [22]) (by kernel_rfl) (by simp) ?_
              refine AllReadyH.cons rfl (fun K hK => ?_) AllReadyH.nil
              refine step_app_b (by rfl) _ _ (by rfl) (l := [c]) (k := ky ++ sd) (by rfl) (by rfl) ((lit_own' w1 hcz.out hww).kept (grown_none (grown_drew _) (hgf _)) (Classical.em _)) (hBf.out _ (w1.heap.size + 1) (by simp)) (by simp at hkl ⊢; omega) (by have := hnf.out (w1.alloc (.cells #[.int .u8 ky.length] 5)).drew (w1.heap.size + 1) (by simp); omega) ?_
              intro a5 c5 w5 hr5 hg5
              have hgw5 : w1.grownBy w5 none := grown_new (grown_none (grown_none (World.grownBy_alloc _ _ none) (grown_drew _)) (hgf _)) hg5 (Nat.le_refl _)
              have hS5 := two_keep hgw5 (fun k e => by cases e) ⟨d0, d1⟩
              refine hK.out _ _ ?_ (fun hHeld => ?_)
              · ((try dsimp only); exact hS5)
              clear hK K
              try simp only [List.getElem_toArray, List.getElem_cons_zero, List.getElem_cons_succ, Act.put, List.setIfInBounds_toArray, List.set_cons_zero, List.set_cons_succ]
              refine wpAnyH_take (i := 23) (v := ?_) rfl (by kernel_rfl) (by kernel_rfl) (by kernel_rfl) (fun _ _ _ h => h) (Or.inl ⟨by rfl, ?_⟩) (by assumption) ?_
              rotate_left
              · (intro w hSw; (try dsimp only at hSw); go_simp; try with_reducible rfl)
              try simp only [List.getElem_toArray, List.getElem_cons_zero, List.getElem_cons_succ, Act.put, List.setIfInBounds_toArray, List.set_cons_zero, List.set_cons_succ]
              refine wpAnyH_ready (rs := [24]) (by kernel_rfl) (by simp) ?_
              refine AllReadyH.cons rfl (fun K hK => ?_) AllReadyH.nil
              go_simp
              refine hK.out _ _ ?_ (fun hHeld => ?_)
              · ((try dsimp only); go_keep)
              clear hK K
              try simp only [List.getElem_toArray, List.getElem_cons_zero, List.getElem_cons_succ, Act.put, List.setIfInBounds_toArray, List.set_cons_zero, List.set_cons_succ]
              refine wpAnyH_ready (rs := [25]) (by kernel_rfl) (by simp) ?_
              refine AllReadyH.cons rfl (fun K hK => ?_) AllReadyH.nil
              refine step_app_f (by rfl) _ _ (by rfl) (fs := fs) (f := ⟨kd, a5, ky.length + sd.length + 1, c5, bz D⟩) (by rfl) (by rfl) (hF1.out.keep hgw5).row hfl4 (Nat.le_trans hww hgw5.size) ?_
              intro a7 c7 w7 hr7 hg7
              have hS7 := two_keep hg7 (fun k e => by have := (hF1.out.row.lt k e).1; omega) (two_keep (World.grownBy_alloc _ _ none) (fun k e => by cases e) hS5)
              refine hK.out _ _ ?_ (fun hHeld => ?_)
              · ((try dsimp only); exact hS7)
              clear hK K
              try simp only [List.getElem_toArray, List.getElem_cons_zero, List.getElem_cons_succ, Act.put, List.setIfInBounds_toArray, List.set_cons_zero, List.set_cons_succ]
              refine wpAnyH_take (i := 26) (v := ?_) rfl (by kernel_rfl) (by kernel_rfl) (by kernel_rfl) (fun _ _ _ h => h) (Or.inl ⟨by rfl, ?_⟩) (by assumption) ?_
              rotate_left
              · (intro w hSw; (try dsimp only at hSw); go_simp; try with_reducible rfl)
              try simp only [List.getElem_toArray, List.getElem_cons_zero, List.getElem_cons_succ, Act.put, List.setIfInBounds_toArray, List.set_cons_zero, List.set_cons_succ]
              refine wpAnyH_done (by kernel_rfl) ?_ _
              have hLe : ([c] ++ (ky ++ sd)).length = ky.length + sd.length + 1 := by simp
              rw [hLe, ← hDc.out] at hr5
              have hF6 := Hid.mk ((hF1.out.keep hgw5).keep (World.grownBy_alloc w5 (.cells #[.int .i64 kd, .slice a5 (ky.length + sd.length + 1) c5] 55) none))
              have hnew : C.okC w.heap.size (w5.alloc (.cells #[.int .i64 kd, .slice a5 (ky.length + sd.length + 1) c5] 55)) ⟨kd, a5, ky.length + sd.length + 1, c5, bz D⟩ := by
                refine ⟨⟨?_, bz_in D⟩, hkd⟩
                have hDl : D.length = ky.length + sd.length + 1 := by rw [hDc.out, hLe]
                simp only [bz_len, bz_cells, hDl]
                exact (hr5).kept (World.grownBy_alloc w5 _ none) (Classical.em _)
              have hown : ∀ k, (Value.slice fa fs.length fc).ownBlock = some k → w.heap.size ≤ k ∧ ∃ c f, (w5.alloc (.cells #[.int .i64 kd, .slice a5 (ky.length + sd.length + 1) c5] 55)).heap[k]? = some (.cells c 55 f) := fun k hk => by
                rcases id hF6.out.row.2 with ⟨e, _⟩ | ⟨g, cp, cur, e, hge, hg6, _⟩
                · rw [e] at hk; cases hk
                · rw [e] at hk
                  simp only [Value.ownBlock, Option.some.injEq] at hk
                  subst hk
                  exact ⟨hge, _, _, hg6⟩
              have hF7 : Hid (Fso w w7 (.slice a7 (fs.length + 1) c7) (fs ++ [⟨kd, a5, ky.length + sd.length + 1, c5, bz D⟩]) (xs.take (i + 1))) := ⟨by
                have hk : ∀ f, C.okC w.heap.size (w5.alloc (.cells #[.int .i64 kd, .slice a5 (ky.length + sd.length + 1) c5] 55)) f → C.okC w.heap.size w7 f := fun f hf => hf.kept hg7 fun k hk c f => by
                  obtain ⟨_, c', f', e⟩ := hown k hk
                  rw [e]
                  simp
                refine ⟨hr7, fun f hf => ?_, ?_, hF6.out.g.andThen hg7 fun j hj => .inl (hown j hj).1⟩
                · rcases List.mem_append.1 hf with hf | hf
                  · exact hk f (hF6.out.okc f hf)
                  · simp only [List.mem_singleton] at hf
                    subst hf
                    exact hk _ hnew
                · rw [List.take_add_one, hxi.out, List.map_append, List.map_append, hF6.out.said]
                  simp [fof, C.said, hD0.out]⟩
              have hal2 : Hid ((xs.take (i + 1)).all rgt = true) := ⟨by
                rw [List.take_add_one, hxi.out, List.all_append, hall.out]
                simp [hg.out]⟩
              have hfl2 : Hid ((fs ++ [(⟨kd, a5, ky.length + sd.length + 1, c5, bz D⟩ : C.Fd)]).length = i + 1) := ⟨by rw [List.length_append, hfl.out]; rfl⟩
              have hval : Value.slice a7 (fs.length + 1) c7 = .slice a7 (fs ++ [(⟨kd, a5, ky.length + sd.length + 1, c5, bz D⟩ : C.Fd)]).length c7 := by rw [List.length_append]; rfl
              have hF8 : Hid (Fso w w7 (.slice a7 (fs ++ [(⟨kd, a5, ky.length + sd.length + 1, c5, bz D⟩ : C.Fd)]).length c7) (fs ++ [⟨kd, a5, ky.length + sd.length + 1, c5, bz D⟩]) (xs.take (i + 1))) := ⟨by rw [← hval]; exact hF7.out⟩
              replace hval := Hid.mk hval
              clear hr7 hg7 hown hF6 hnew hr5 hg5 hgw5 hS5 hS7 hF7 hHeld
              go_wp2_with fail
              go_roundw
              case rel => exact ⟨i + 1, _, a7, c7, by go_num, by omega, hval.out, hfl2, hF8, hal2⟩
              case measure => simp [intOf]; omega
            · go_simp
              refine hK.out _ _ ?_ (fun hHeld => ?_)
              · ((try dsimp only); exact two_keep (hgf _) (fun k e => by cases e) hHeld)
              clear hK K
              try simp only [List.getElem_toArray, List.getElem_cons_zero, List.getElem_cons_succ, Act.put, List.setIfInBounds_toArray, List.set_cons_zero, List.set_cons_succ]
              refine wpAnyH_ready (rs := [13]) (by kernel_rfl) (by simp) ?_
              refine AllReadyH.cons rfl (fun K hK => ?_) AllReadyH.nil
              go_simp
              refine hK.out _ _ ?_ (fun hHeld => ?_)
              · ((try dsimp only); go_keep)
              clear hK K
              try simp only [List.getElem_toArray, List.getElem_cons_zero, List.getElem_cons_succ, Act.put, List.setIfInBounds_toArray, List.set_cons_zero, List.set_cons_succ]
              refine wpAnyH_ready (rs := [22]) (by kernel_rfl) (by simp) ?_
              refine AllReadyH.cons rfl (fun K hK => ?_) AllReadyH.nil
              refine step_app_b (by rfl) _ _ (by rfl) (l := [c]) (k := ky ++ sd) (by rfl) (by rfl) (lit_own' (base := w.heap.size) (wf w1.drew) hcz.out (by have := hnf.out w1.drew w1.heap.size rfl; omega)) ((hBf.out w1.drew w1.heap.size rfl).below ((Below.refl _ _).alloc (by have := hnf.out w1.drew w1.heap.size rfl; omega) _)) (by simp at hkl ⊢; omega) (by have := hnf.out w1.drew w1.heap.size rfl; simp; omega) ?_
              intro a5 c5 w5 hr5 hg5
              have hgw5 : w1.grownBy w5 none := grown_new (grown_none (grown_none (grown_drew _) (hgf _)) (World.grownBy_alloc _ _ none)) hg5 (by have := hnf.out w1.drew w1.heap.size rfl; show w1.heap.size ≤ (wf w1.drew).heap.size; omega)
              have hS5 := two_keep hgw5 (fun k e => by cases e) ⟨d0, d1⟩
              refine hK.out _ _ ?_ (fun hHeld => ?_)
              · ((try dsimp only); exact hS5)
              clear hK K
              try simp only [List.getElem_toArray, List.getElem_cons_zero, List.getElem_cons_succ, Act.put, List.setIfInBounds_toArray, List.set_cons_zero, List.set_cons_succ]
              refine wpAnyH_take (i := 23) (v := ?_) rfl (by kernel_rfl) (by kernel_rfl) (by kernel_rfl) (fun _ _ _ h => h) (Or.inl ⟨by rfl, ?_⟩) (by assumption) ?_
              rotate_left
              · (intro w hSw; (try dsimp only at hSw); go_simp; try with_reducible rfl)
              try simp only [List.getElem_toArray, List.getElem_cons_zero, List.getElem_cons_succ, Act.put, List.setIfInBounds_toArray, List.set_cons_zero, List.set_cons_succ]
              refine wpAnyH_ready (rs := [24]) (by kernel_rfl) (by simp) ?_
              refine AllReadyH.cons rfl (fun K hK => ?_) AllReadyH.nil
              go_simp
              refine hK.out _ _ ?_ (fun hHeld => ?_)
              · ((try dsimp only); go_keep)
              clear hK K
              try simp only [List.getElem_toArray, List.getElem_cons_zero, List.getElem_cons_succ, Act.put, List.setIfInBounds_toArray, List.set_cons_zero, List.set_cons_succ]
              refine wpAnyH_ready (rs := [25]) (by kernel_rfl) (by simp) ?_
              refine AllReadyH.cons rfl (fun K hK => ?_) AllReadyH.nil
              refine step_app_f (by rfl) _ _ (by rfl) (fs := fs) (f := ⟨kd, a5, ky.length + sd.length + 1, c5, bz D⟩) (by rfl) (by rfl) (hF1.out.keep hgw5).row hfl4 (Nat.le_trans hww hgw5.size) ?_
              intro a7 c7 w7 hr7 hg7
              have hS7 := two_keep hg7 (fun k e => by have := (hF1.out.row.lt k e).1; omega) (two_keep (World.grownBy_alloc _ _ none) (fun k e => by cases e) hS5)
              refine hK.out _ _ ?_ (fun hHeld => ?_)
              · ((try dsimp only); exact hS7)
              clear hK K
              try simp only [List.getElem_toArray, List.getElem_cons_zero, List.getElem_cons_succ, Act.put, List.setIfInBounds_toArray, List.set_cons_zero, List.set_cons_succ]
              refine wpAnyH_take (i := 26) (v := ?_) rfl (by kernel_rfl) (by kernel_rfl) (by kernel_rfl) (fun _ _ _ h => h) (Or.inl ⟨by rfl, ?_⟩) (by assumption) ?_
              rotate_left
              · (intro w hSw; (try dsimp only at hSw); go_simp; try with_reducible rfl)
              try simp only [List.getElem_toArray, List.getElem_cons_zero, List.getElem_cons_succ, Act.put, List.setIfInBounds_toArray, List.set_cons_zero, List.set_cons_succ]
              refine wpAnyH_done (by kernel_rfl) ?_ _
              have hLe : ([c] ++ (ky ++ sd)).length = ky.length + sd.length + 1 := by simp
              rw [hLe, ← hDc.out] at hr5
              have hF6 := Hid.mk ((hF1.out.keep hgw5).keep (World.grownBy_alloc w5 (.cells #[.int .i64 kd, .slice a5 (ky.length + sd.length + 1) c5] 55) none))
              have hnew : C.okC w.heap.size (w5.alloc (.cells #[.int .i64 kd, .slice a5 (ky.length + sd.length + 1) c5] 55)) ⟨kd, a5, ky.length + sd.length + 1, c5, bz D⟩ := by
                refine ⟨⟨?_, bz_in D⟩, hkd⟩
                have hDl : D.length = ky.length + sd.length + 1 := by rw [hDc.out, hLe]
                simp only [bz_len, bz_cells, hDl]
                exact (hr5).kept (World.grownBy_alloc w5 _ none) (Classical.em _)
              have hown : ∀ k, (Value.slice fa fs.length fc).ownBlock = some k → w.heap.size ≤ k ∧ ∃ c f, (w5.alloc (.cells #[.int .i64 kd, .slice a5 (ky.length + sd.length + 1) c5] 55)).heap[k]? = some (.cells c 55 f) := fun k hk => by
                rcases id hF6.out.row.2 with ⟨e, _⟩ | ⟨g, cp, cur, e, hge, hg6, _⟩
                · rw [e] at hk; cases hk
                · rw [e] at hk
                  simp only [Value.ownBlock, Option.some.injEq] at hk
                  subst hk
                  exact ⟨hge, _, _, hg6⟩
              have hF7 : Hid (Fso w w7 (.slice a7 (fs.length + 1) c7) (fs ++ [⟨kd, a5, ky.length + sd.length + 1, c5, bz D⟩]) (xs.take (i + 1))) := ⟨by
                have hk : ∀ f, C.okC w.heap.size (w5.alloc (.cells #[.int .i64 kd, .slice a5 (ky.length + sd.length + 1) c5] 55)) f → C.okC w.heap.size w7 f := fun f hf => hf.kept hg7 fun k hk c f => by
                  obtain ⟨_, c', f', e⟩ := hown k hk
                  rw [e]
                  simp
                refine ⟨hr7, fun f hf => ?_, ?_, hF6.out.g.andThen hg7 fun j hj => .inl (hown j hj).1⟩
                · rcases List.mem_append.1 hf with hf | hf
                  · exact hk f (hF6.out.okc f hf)
                  · simp only [List.mem_singleton] at hf
                    subst hf
                    exact hk _ hnew
                · rw [List.take_add_one, hxi.out, List.map_append, List.map_append, hF6.out.said]
                  simp [fof, C.said, hD0.out]⟩
              have hal2 : Hid ((xs.take (i + 1)).all rgt = true) := ⟨by
                rw [List.take_add_one, hxi.out, List.all_append, hall.out]
                simp [hg.out]⟩
              have hfl2 : Hid ((fs ++ [(⟨kd, a5, ky.length + sd.length + 1, c5, bz D⟩ : C.Fd)]).length = i + 1) := ⟨by rw [List.length_append, hfl.out]; rfl⟩
              have hval : Value.slice a7 (fs.length + 1) c7 = .slice a7 (fs ++ [(⟨kd, a5, ky.length + sd.length + 1, c5, bz D⟩ : C.Fd)]).length c7 := by rw [List.length_append]; rfl
              have hF8 : Hid (Fso w w7 (.slice a7 (fs ++ [(⟨kd, a5, ky.length + sd.length + 1, c5, bz D⟩ : C.Fd)]).length c7) (fs ++ [⟨kd, a5, ky.length + sd.length + 1, c5, bz D⟩]) (xs.take (i + 1))) := ⟨by rw [← hval]; exact hF7.out⟩
              replace hval := Hid.mk hval
              clear hr7 hg7 hown hF6 hnew hr5 hg5 hgw5 hS5 hS7 hF7 hHeld
              go_wp2_with fail
              go_roundw
              case rel => exact ⟨i + 1, _, a7, c7, by go_num, by omega, hval.out, hfl2, hF8, hal2⟩
              case measure => simp [intOf]; omega
          · have hk3b : (kd == 3) = false := by simpa using hk3
            rw [if_neg hk3] at hsd
            subst hsd
            go_wp2_with fail
            refine hsr.out.mono ?_
            rintro e w1 ⟨rfl, hg1⟩
            have hF1 := Hid.mk (hF.out.keep hg1)
            have d0 := grown_cell hg1 c0
            have d1 := grown_cell hg1 c1
            have d2 := grown_cell hg1 c2
            have d3 := grown_cell hg1 c3
            have hbw : b < w1.heap.size := World.block_lt_of_cell? w1 _ d0
            have hww : w.heap.size ≤ w1.heap.size := hF1.out.g.size
            clear c0 c1 c2 c3 hg1 hsr hF
            have hks := bt_size ky
            have hvs := bt_size vl
            have hcat : bt ky ++ bt vl = bt (ky ++ vl) := bt_app _ _
            have hlim : ¬ 9223372036854775807 < ky.length + vl.length := by omega
            have hkl : (ky ++ vl).length ≤ 1000000 := by simp; omega
            obtain ⟨c, hc⟩ : ∃ c : UInt8, c = UInt8.ofNat ky.length := ⟨_, rfl⟩
            have hcz : (c.toNat : Int) = ky.length := by rw [hc, UInt8.toNat_ofNat_of_lt' (by show ky.length < 256; omega)]
            have hDc : Hid (D = [c] ++ (ky ++ vl)) := ⟨by rw [hD2.out, hc]; simp⟩
            have hfl4 : fs.length ≤ 4096 := by have := hfl.out; omega
            replace hcz := Hid.mk hcz
            have hwr : IntKind.u8.wrap (ky.length : Int) = ky.length := by rw [IntKind.wrap_u8]; omega
            obtain ⟨cf, wf, hrf, hBf, hgf, hnf⟩ := conv_any (ky ++ vl) hkl
            rw [List.length_append] at hrf hBf
            replace hBf := Hid.mk hBf
            replace hnf := Hid.mk hnf
            clear hc hD2
            go_wp2_with fail
            refine wp_region_held_drew (S := fun w' => w'.cell? ⟨b, off + i * 4, none⟩ = some (.int .i64 kd) ∧ w'.cell? ⟨b, off + i * 4 + 1, none⟩ = some (.string (bt ky))) (by kernel_rfl) (by (try dsimp only); exact ⟨d0, d1⟩) (fun hHeld => ?_)
            refine wpAnyH_take (i := 0) (v := ?_) rfl (by kernel_rfl) (by kernel_rfl) (by kernel_rfl) (fun _ _ _ h => h) (Or.inl ⟨by rfl, ?_⟩) (by assumption) ?_
            rotate_left
            · (intro w hSw; (try dsimp only at hSw); go_simp; try with_reducible rfl)
            try simp only [List.getElem_toArray, List.getElem_cons_zero, List.getElem_cons_succ, Act.put, List.setIfInBounds_toArray, List.set_cons_zero, List.set_cons_succ]
            refine wpAnyH_take (i := 1) (v := ?_) rfl (by kernel_rfl) (by kernel_rfl) (by kernel_rfl) (fun _ _ _ h => h) (Or.inl ⟨by rfl, ?_⟩) (by assumption) ?_
            rotate_left
            · (intro w hSw; (try dsimp only at hSw); go_simp; try with_reducible rfl)
            try simp only [List.getElem_toArray, List.getElem_cons_zero, List.getElem_cons_succ, Act.put, List.setIfInBounds_toArray, List.set_cons_zero, List.set_cons_succ]
            refine wpAnyH_take (i := 2) (v := ?_) rfl (by kernel_rfl) (by kernel_rfl) (by kernel_rfl) (fun _ _ _ h => h) (Or.inl ⟨by rfl, ?_⟩) (by assumption) ?_
            rotate_left
            · (intro w hSw; (try dsimp only at hSw); go_simp; try with_reducible rfl)
            try simp only [List.getElem_toArray, List.getElem_cons_zero, List.getElem_cons_succ, Act.put, List.setIfInBounds_toArray, List.set_cons_zero, List.set_cons_succ]
            refine wpAnyH_take (i := 3) (v := ?_) rfl (by kernel_rfl) (by kernel_rfl) (by kernel_rfl) (fun _ _ _ h => h) (Or.inl ⟨by rfl, ?_⟩) (by assumption) ?_
            rotate_left
            · (intro w hSw; (try dsimp only at hSw); go_simp; try with_reducible rfl)
            try simp only [List.getElem_toArray, List.getElem_cons_zero, List.getElem_cons_succ, Act.put, List.setIfInBounds_toArray, List.set_cons_zero, List.set_cons_succ]
            refine wpAnyH_take (i := 4) (v := ?_) rfl (by kernel_rfl) (by kernel_rfl) (by kernel_rfl) (fun _ _ _ h => h) (Or.inl ⟨by rfl, ?_⟩) (by assumption) ?_
            rotate_left
            · (intro w hSw; (try dsimp only at hSw); go_simp; try with_reducible rfl)
            try simp only [List.getElem_toArray, List.getElem_cons_zero, List.getElem_cons_succ, Act.put, List.setIfInBounds_toArray, List.set_cons_zero, List.set_cons_succ]
            refine wpAnyH_take (i := 5) (v := ?_) rfl (by kernel_rfl) (by kernel_rfl) (by kernel_rfl) (fun _ _ _ h => h) (Or.inl ⟨by rfl, ?_⟩) (by assumption) ?_
            rotate_left
            · (intro w hSw; (try dsimp only at hSw); go_simp; try with_reducible rfl)
            try simp only [List.getElem_toArray, List.getElem_cons_zero, List.getElem_cons_succ, Act.put, List.setIfInBounds_toArray, List.set_cons_zero, List.set_cons_succ]
            refine wpAnyH_take (i := 6) (v := ?_) rfl (by kernel_rfl) (by kernel_rfl) (by kernel_rfl) (fun _ _ _ h => h) (Or.inl ⟨by rfl, ?_⟩) (by assumption) ?_
            rotate_left
            · (intro w hSw; (try dsimp only at hSw); go_simp; try with_reducible rfl)
            try simp only [List.getElem_toArray, List.getElem_cons_zero, List.getElem_cons_succ, Act.put, List.setIfInBounds_toArray, List.set_cons_zero, List.set_cons_succ]
            refine wpAnyH_take (i := 7) (v := ?_) rfl (by kernel_rfl) (by kernel_rfl) (by kernel_rfl) (fun _ _ _ h => h) (Or.inl ⟨by rfl, ?_⟩) (by assumption) ?_
            rotate_left
            · (intro w hSw; (try dsimp only at hSw); go_simp; try with_reducible rfl)
            try simp only [List.getElem_toArray, List.getElem_cons_zero, List.getElem_cons_succ, Act.put, List.setIfInBounds_toArray, List.set_cons_zero, List.set_cons_succ]
            refine wpAnyH_take (i := 8) (v := ?_) rfl (by kernel_rfl) (by kernel_rfl) (by kernel_rfl) (fun _ _ _ h => h) (Or.inl ⟨by rfl, ?_⟩) (by assumption) ?_
            rotate_left
            · (intro w hSw; (try dsimp only at hSw); go_simp; try with_reducible rfl)
            try simp only [List.getElem_toArray, List.getElem_cons_zero, List.getElem_cons_succ, Act.put, List.setIfInBounds_toArray, List.set_cons_zero, List.set_cons_succ]
            refine wpAnyH_take (i := 9) (v := ?_) rfl (by kernel_rfl) (by kernel_rfl) (by kernel_rfl) (fun _ _ _ h => h) (Or.inl ⟨by rfl, ?_⟩) (by assumption) ?_
            rotate_left
            · (intro w hSw; (try dsimp only at hSw); go_simp; try with_reducible rfl)
            try simp only [List.getElem_toArray, List.getElem_cons_zero, List.getElem_cons_succ, Act.put, List.setIfInBounds_toArray, List.set_cons_zero, List.set_cons_succ]
            refine wpAnyH_take (i := 10) (v := ?_) rfl (by kernel_rfl) (by kernel_rfl) (by kernel_rfl) (fun _ _ _ h => h) (Or.inl ⟨by rfl, ?_⟩) (by assumption) ?_
            rotate_left
            · (intro w hSw; (try dsimp only at hSw); go_simp; try with_reducible rfl)
            try simp only [List.getElem_toArray, List.getElem_cons_zero, List.getElem_cons_succ, Act.put, List.setIfInBounds_toArray, List.set_cons_zero, List.set_cons_succ]
            refine wpAnyH_take (i := 11) (v := ?_) rfl (by kernel_rfl) (by kernel_rfl) (by kernel_rfl) (fun _ _ _ h => h) (Or.inl ⟨by rfl, ?_⟩) (by assumption) ?_
            rotate_left
            · (intro w hSw; (try dsimp only at hSw); go_simp; try with_reducible rfl)
            try simp only [List.getElem_toArray, List.getElem_cons_zero, List.getElem_cons_succ, Act.put, List.setIfInBounds_toArray, List.set_cons_zero, List.set_cons_succ]
            refine wpAnyH_take (i := 12) (v := ?_) rfl (by kernel_rfl) (by kernel_rfl) (by kernel_rfl) (fun _ _ _ h => h) (Or.inl ⟨by rfl, ?_⟩) (by assumption) ?_
            rotate_left
            · (intro w hSw; (try dsimp only at hSw); go_simp; try with_reducible rfl)
            try simp only [List.getElem_toArray, List.getElem_cons_zero, List.getElem_cons_succ, Act.put, List.setIfInBounds_toArray, List.set_cons_zero, List.set_cons_succ]
            refine wpAnyH_take (i := 14) (v := ?_) rfl (by kernel_rfl) (by kernel_rfl) (by kernel_rfl) (fun _ _ _ h => h) (Or.inl ⟨by rfl, ?_⟩) (by assumption) ?_
            rotate_left
            · (intro w hSw; (try dsimp only at hSw); go_simp; try with_reducible rfl)
            try simp only [List.getElem_toArray, List.getElem_cons_zero, List.getElem_cons_succ, Act.put, List.setIfInBounds_toArray, List.set_cons_zero, List.set_cons_succ]
            refine wpAnyH_take (i := 15) (v := ?_) rfl (by kernel_rfl) (by kernel_rfl) (by kernel_rfl) (fun _ _ _ h => h) (Or.inl ⟨by rfl, ?_⟩) (by assumption) ?_
            rotate_left
            · (intro w hSw; (try dsimp only at hSw); go_simp; try with_reducible rfl)
            try simp only [List.getElem_toArray, List.getElem_cons_zero, List.getElem_cons_succ, Act.put, List.setIfInBounds_toArray, List.set_cons_zero, List.set_cons_succ]
            refine wpAnyH_take (i := 16) (v := ?_) rfl (by kernel_rfl) (by kernel_rfl) (by kernel_rfl) (fun _ _ _ h => h) (Or.inl ⟨by rfl, ?_⟩) (by assumption) ?_
            rotate_left
            · (intro w hSw; (try dsimp only at hSw); go_simp; try with_reducible rfl)
            try simp only [List.getElem_toArray, List.getElem_cons_zero, List.getElem_cons_succ, Act.put, List.setIfInBounds_toArray, List.set_cons_zero, List.set_cons_succ]
            refine wpAnyH_take (i := 17) (v := ?_) rfl (by kernel_rfl) (by kernel_rfl) (by kernel_rfl) (fun _ _ _ h => h) (Or.inl ⟨by rfl, ?_⟩) (by assumption) ?_
            rotate_left
            · (intro w hSw; (try dsimp only at hSw); go_simp; try with_reducible rfl)
            try simp only [List.getElem_toArray, List.getElem_cons_zero, List.getElem_cons_succ, Act.put, List.setIfInBounds_toArray, List.set_cons_zero, List.set_cons_succ]
            refine wpAnyH_take (i := 18) (v := ?_) rfl (by kernel_rfl) (by kernel_rfl) (by kernel_rfl) (fun _ _ _ h => h) (Or.inl ⟨by rfl, ?_⟩) (by assumption) ?_
            rotate_left
            · (intro w hSw; (try dsimp only at hSw); go_simp; try with_reducible rfl)
            try simp only [List.getElem_toArray, List.getElem_cons_zero, List.getElem_cons_succ, Act.put, List.setIfInBounds_toArray, List.set_cons_zero, List.set_cons_succ]
            refine wpAnyH_take (i := 19) (v := ?_) rfl (by kernel_rfl) (by kernel_rfl) (by kernel_rfl) (fun _ _ _ h => h) (Or.inl ⟨by rfl, ?_⟩) (by assumption) ?_
            rotate_left
            · (intro w hSw; (try dsimp only at hSw); go_simp; try with_reducible rfl)
            try simp only [List.getElem_toArray, List.getElem_cons_zero, List.getElem_cons_succ, Act.put, List.setIfInBounds_toArray, List.set_cons_zero, List.set_cons_succ]
            refine wpAnyH_take (i := 20) (v := ?_) rfl (by kernel_rfl) (by kernel_rfl) (by kernel_rfl) (fun _ _ _ h => h) (Or.inl ⟨by rfl, ?_⟩) (by assumption) ?_
            rotate_left
            · (intro w hSw; (try dsimp only at hSw); go_simp; try with_reducible rfl)
            try simp only [List.getElem_toArray, List.getElem_cons_zero, List.getElem_cons_succ, Act.put, List.setIfInBounds_toArray, List.set_cons_zero, List.set_cons_succ]
            refine wpAnyH_ready (rs := [13, 21]) (by kernel_rfl) (by simp) ?_
            refine AllReadyH.cons rfl (fun K hK => ?_) (AllReadyH.cons rfl (fun K hK => ?_) AllReadyH.nil)
            · go_simp
              refine hK.out _ _ ?_ (fun hHeld => ?_)
              · ((try dsimp only); go_keep)
              clear hK K
              try simp only [List.getElem_toArray, List.getElem_cons_zero, List.getElem_cons_succ, Act.put, List.setIfInBounds_toArray, List.set_cons_zero, List.set_cons_succ]
              refine wpAnyH_ready (rs := [21]) (by kernel_rfl) (by simp) ?_
              refine AllReadyH.cons rfl (fun K hK => ?_) AllReadyH.nil
              go_simp
              refine hK.out _ _ ?_ (fun hHeld => ?_)
              · ((try dsimp only); exact two_keep (hgf _) (fun k e => by cases e) hHeld)
              clear hK K
              try simp only [List.getElem_toArray, List.getElem_cons_zero, List.getElem_cons_succ, Act.put, List.setIfInBounds_toArray, List.set_cons_zero, List.set_cons_succ]
              refine wpAnyH_ready (rs := [22]) (by kernel_rfl) (by simp) ?_
              refine AllReadyH.cons rfl (fun K hK => ?_) AllReadyH.nil
              refine step_app_b (by rfl) _ _ (by rfl) (l := [c]) (k := ky ++ vl) (by rfl) (by rfl) ((lit_own' w1 hcz.out hww).kept (grown_none (grown_drew _) (hgf _)) (Classical.em _)) (hBf.out _ (w1.heap.size + 1) (by simp)) (by simp at hkl ⊢; omega) (by have := hnf.out (w1.alloc (.cells #[.int .u8 ky.length] 5)).drew (w1.heap.size + 1) (by simp); omega) ?_
              intro a5 c5 w5 hr5 hg5
              have hgw5 : w1.grownBy w5 none := grown_new (grown_none (grown_none (World.grownBy_alloc _ _ none) (grown_drew _)) (hgf _)) hg5 (Nat.le_refl _)
              have hS5 := two_keep hgw5 (fun k e => by cases e) ⟨d0, d1⟩
              refine hK.out _ _ ?_ (fun hHeld => ?_)
              · ((try dsimp only); exact hS5)
              clear hK K
              try simp only [List.getElem_toArray, List.getElem_cons_zero, List.getElem_cons_succ, Act.put, List.setIfInBounds_toArray, List.set_cons_zero, List.set_cons_succ]
              refine wpAnyH_take (i := 23) (v := ?_) rfl (by kernel_rfl) (by kernel_rfl) (by kernel_rfl) (fun _ _ _ h => h) (Or.inl ⟨by rfl, ?_⟩) (by assumption) ?_
              rotate_left
              · (intro w hSw; (try dsimp only at hSw); go_simp; try with_reducible rfl)
              try simp only [List.getElem_toArray, List.getElem_cons_zero, List.getElem_cons_succ, Act.put, List.setIfInBounds_toArray, List.set_cons_zero, List.set_cons_succ]
              refine wpAnyH_ready (rs := [24]) (by kernel_rfl) (by simp) ?_
              refine AllReadyH.cons rfl (fun K hK => ?_) AllReadyH.nil
              go_simp
              refine hK.out _ _ ?_ (fun hHeld => ?_)
              · ((try dsimp only); go_keep)
              clear hK K
              try simp only [List.getElem_toArray, List.getElem_cons_zero, List.getElem_cons_succ, Act.put, List.setIfInBounds_toArray, List.set_cons_zero, List.set_cons_succ]
              refine wpAnyH_ready (rs := [25]) (by kernel_rfl) (by simp) ?_
              refine AllReadyH.cons rfl (fun K hK => ?_) AllReadyH.nil
              refine step_app_f (by rfl) _ _ (by rfl) (fs := fs) (f := ⟨kd, a5, ky.length + vl.length + 1, c5, bz D⟩) (by rfl) (by rfl) (hF1.out.keep hgw5).row hfl4 (Nat.le_trans hww hgw5.size) ?_
              intro a7 c7 w7 hr7 hg7
              have hS7 := two_keep hg7 (fun k e => by have := (hF1.out.row.lt k e).1; omega) (two_keep (World.grownBy_alloc _ _ none) (fun k e => by cases e) hS5)
              refine hK.out _ _ ?_ (fun hHeld => ?_)
              · ((try dsimp only); exact hS7)
              clear hK K
              try simp only [List.getElem_toArray, List.getElem_cons_zero, List.getElem_cons_succ, Act.put, List.setIfInBounds_toArray, List.set_cons_zero, List.set_cons_succ]
              refine wpAnyH_take (i := 26) (v := ?_) rfl (by kernel_rfl) (by kernel_rfl) (by kernel_rfl) (fun _ _ _ h => h) (Or.inl ⟨by rfl, ?_⟩) (by assumption) ?_
              rotate_left
              · (intro w hSw; (try dsimp only at hSw); go_simp; try with_reducible rfl)
              try simp only [List.getElem_toArray, List.getElem_cons_zero, List.getElem_cons_succ, Act.put, List.setIfInBounds_toArray, List.set_cons_zero, List.set_cons_succ]
              refine wpAnyH_done (by kernel_rfl) ?_ _
              have hLe : ([c] ++ (ky ++ vl)).length = ky.length + vl.length + 1 := by simp
              rw [hLe, ← hDc.out] at hr5
              have hF6 := Hid.mk ((hF1.out.keep hgw5).keep (World.grownBy_alloc w5 (.cells #[.int .i64 kd, .slice a5 (ky.length + vl.length + 1) c5] 55) none))
              have hnew : C.okC w.heap.size (w5.alloc (.cells #[.int .i64 kd, .slice a5 (ky.length + vl.length + 1) c5] 55)) ⟨kd, a5, ky.length + vl.length + 1, c5, bz D⟩ := by
                refine ⟨⟨?_, bz_in D⟩, hkd⟩
                have hDl : D.length = ky.length + vl.length + 1 := by rw [hDc.out, hLe]
                simp only [bz_len, bz_cells, hDl]
                exact (hr5).kept (World.grownBy_alloc w5 _ none) (Classical.em _)
              have hown : ∀ k, (Value.slice fa fs.length fc).ownBlock = some k → w.heap.size ≤ k ∧ ∃ c f, (w5.alloc (.cells #[.int .i64 kd, .slice a5 (ky.length + vl.length + 1) c5] 55)).heap[k]? = some (.cells c 55 f) := fun k hk => by
                rcases id hF6.out.row.2 with ⟨e, _⟩ | ⟨g, cp, cur, e, hge, hg6, _⟩
                · rw [e] at hk; cases hk
                · rw [e] at hk
                  simp only [Value.ownBlock, Option.some.injEq] at hk
                  subst hk
                  exact ⟨hge, _, _, hg6⟩
              have hF7 : Hid (Fso w w7 (.slice a7 (fs.length + 1) c7) (fs ++ [⟨kd, a5, ky.length + vl.length + 1, c5, bz D⟩]) (xs.take (i + 1))) := ⟨by
                have hk : ∀ f, C.okC w.heap.size (w5.alloc (.cells #[.int .i64 kd, .slice a5 (ky.length + vl.length + 1) c5] 55)) f → C.okC w.heap.size w7 f := fun f hf => hf.kept hg7 fun k hk c f => by
                  obtain ⟨_, c', f', e⟩ := hown k hk
                  rw [e]
                  simp
                refine ⟨hr7, fun f hf => ?_, ?_, hF6.out.g.andThen hg7 fun j hj => .inl (hown j hj).1⟩
                · rcases List.mem_append.1 hf with hf | hf
                  · exact hk f (hF6.out.okc f hf)
                  · simp only [List.mem_singleton] at hf
                    subst hf
                    exact hk _ hnew
                · rw [List.take_add_one, hxi.out, List.map_append, List.map_append, hF6.out.said]
                  simp [fof, C.said, hD0.out]⟩
              have hal2 : Hid ((xs.take (i + 1)).all rgt = true) := ⟨by
                rw [List.take_add_one, hxi.out, List.all_append, hall.out]
                simp [hg.out]⟩
              have hfl2 : Hid ((fs ++ [(⟨kd, a5, ky.length + vl.length + 1, c5, bz D⟩ : C.Fd)]).length = i + 1) := ⟨by rw [List.length_append, hfl.out]; rfl⟩
              have hval : Value.slice a7 (fs.length + 1) c7 = .slice a7 (fs ++ [(⟨kd, a5, ky.length + vl.length + 1, c5, bz D⟩ : C.Fd)]).length c7 := by rw [List.length_append]; rfl
              have hF8 : Hid (Fso w w7 (.slice a7 (fs ++ [(⟨kd, a5, ky.length + vl.length + 1, c5, bz D⟩ : C.Fd)]).length c7) (fs ++ [⟨kd, a5, ky.length + vl.length + 1, c5, bz D⟩]) (xs.take (i + 1))) := ⟨by rw [← hval]; exact hF7.out⟩
              replace hval := Hid.mk hval
              clear hr7 hg7 hown hF6 hnew hr5 hg5 hgw5 hS5 hS7 hF7 hHeld
              go_wp2_with fail
              go_roundw
              case rel => exact ⟨i + 1, _, a7, c7, by go_num, by omega, hval.out, hfl2, hF8, hal2⟩
              case measure => simp [intOf]; omega
            · go_simp
              refine hK.out _ _ ?_ (fun hHeld => ?_)
              · ((try dsimp only); exact two_keep (hgf _) (fun k e => by cases e) hHeld)
              clear hK K
              try simp only [List.getElem_toArray, List.getElem_cons_zero, List.getElem_cons_succ, Act.put, List.setIfInBounds_toArray, List.set_cons_zero, List.set_cons_succ]
              refine wpAnyH_ready (rs := [13]) (by kernel_rfl) (by simp) ?_
              refine AllReadyH.cons rfl (fun K hK => ?_) AllReadyH.nil
              go_simp
              refine hK.out _ _ ?_ (fun hHeld => ?_)
              · ((try dsimp only); go_keep)
              clear hK K
              try simp only [List.getElem_toArray, List.getElem_cons_zero, List.getElem_cons_succ, Act.put, List.setIfInBounds_toArray, List.set_cons_zero, List.set_cons_succ]
              refine wpAnyH_ready (rs := [22]) (by kernel_rfl) (by simp) ?_
              refine AllReadyH.cons rfl (fun K hK => ?_) AllReadyH.nil
              refine step_app_b (by rfl) _ _ (by rfl) (l := [c]) (k := ky ++ vl) (by rfl) (by rfl) (lit_own' (base := w.heap.size) (wf w1.drew) hcz.out (by have := hnf.out w1.drew w1.heap.size rfl; omega)) ((hBf.out w1.drew w1.heap.size rfl).below ((Below.refl _ _).alloc (by have := hnf.out w1.drew w1.heap.size rfl; omega) _)) (by simp at hkl ⊢; omega) (by have := hnf.out w1.drew w1.heap.size rfl; simp; omega) ?_
              intro a5 c5 w5 hr5 hg5
              have hgw5 : w1.grownBy w5 none := grown_new (grown_none (grown_none (grown_drew _) (hgf _)) (World.grownBy_alloc _ _ none)) hg5 (by have := hnf.out w1.drew w1.heap.size rfl; show w1.heap.size ≤ (wf w1.drew).heap.size; omega)
              have hS5 := two_keep hgw5 (fun k e => by cases e) ⟨d0, d1⟩
              refine hK.out _ _ ?_ (fun hHeld => ?_)
              · ((try dsimp only); exact hS5)
              clear hK K
              try simp only [List.getElem_toArray, List.getElem_cons_zero, List.getElem_cons_succ, Act.put, List.setIfInBounds_toArray, List.set_cons_zero, List.set_cons_succ]
              refine wpAnyH_take (i := 23) (v := ?_) rfl (by kernel_rfl) (by kernel_rfl) (by kernel_rfl) (fun _ _ _ h => h) (Or.inl ⟨by rfl, ?_⟩) (by assumption) ?_
              rotate_left
              · (intro w hSw; (try dsimp only at hSw); go_simp; try with_reducible rfl)
              try simp only [List.getElem_toArray, List.getElem_cons_zero, List.getElem_cons_succ, Act.put, List.setIfInBounds_toArray, List.set_cons_zero, List.set_cons_succ]
              refine wpAnyH_ready (rs := [24]) (by kernel_rfl) (by simp) ?_
              refine AllReadyH.cons rfl (fun K hK => ?_) AllReadyH.nil
              go_simp
              refine hK.out _ _ ?_ (fun hHeld => ?_)
              · ((try dsimp only); go_keep)
              clear hK K
              try simp only [List.getElem_toArray, List.getElem_cons_zero, List.getElem_cons_succ, Act.put, List.setIfInBounds_toArray, List.set_cons_zero, List.set_cons_succ]
              refine wpAnyH_ready (rs := [25]) (by kernel_rfl) (by simp) ?_
              refine AllReadyH.cons rfl (fun K hK => ?_) AllReadyH.nil
              refine step_app_f (by rfl) _ _ (by rfl) (fs := fs) (f := ⟨kd, a5, ky.length + vl.length + 1, c5, bz D⟩) (by rfl) (by rfl) (hF1.out.keep hgw5).row hfl4 (Nat.le_trans hww hgw5.size) ?_
              intro a7 c7 w7 hr7 hg7
              have hS7 := two_keep hg7 (fun k e => by have := (hF1.out.row.lt k e).1; omega) (two_keep (World.grownBy_alloc _ _ none) (fun k e => by cases e) hS5)
              refine hK.out _ _ ?_ (fun hHeld => ?_)
              · ((try dsimp only); exact hS7)
              clear hK K
              try simp only [List.getElem_toArray, List.getElem_cons_zero, List.getElem_cons_succ, Act.put, List.setIfInBounds_toArray, List.set_cons_zero, List.set_cons_succ]
              refine wpAnyH_take (i := 26) (v := ?_) rfl (by kernel_rfl) (by kernel_rfl) (by kernel_rfl) (fun _ _ _ h => h) (Or.inl ⟨by rfl, ?_⟩) (by assumption) ?_
              rotate_left
              · (intro w hSw; (try dsimp only at hSw); go_simp; try with_reducible rfl)
              try simp only [List.getElem_toArray, List.getElem_cons_zero, List.getElem_cons_succ, Act.put, List.setIfInBounds_toArray, List.set_cons_zero, List.set_cons_succ]
              refine wpAnyH_done (by kernel_rfl) ?_ _
              have hLe : ([c] ++ (ky ++ vl)).length = ky.length + vl.length + 1 := by simp
              rw [hLe, ← hDc.out] at hr5
              have hF6 := Hid.mk ((hF1.out.keep hgw5).keep (World.grownBy_alloc w5 (.cells #[.int .i64 kd, .slice a5 (ky.length + vl.length + 1) c5] 55) none))
              have hnew : C.okC w.heap.size (w5.alloc (.cells #[.int .i64 kd, .slice a5 (ky.length + vl.length + 1) c5] 55)) ⟨kd, a5, ky.length + vl.length + 1, c5, bz D⟩ := by
                refine ⟨⟨?_, bz_in D⟩, hkd⟩
                have hDl : D.length = ky.length + vl.length + 1 := by rw [hDc.out, hLe]
                simp only [bz_len, bz_cells, hDl]
                exact (hr5).kept (World.grownBy_alloc w5 _ none) (Classical.em _)
              have hown : ∀ k, (Value.slice fa fs.length fc).ownBlock = some k → w.heap.size ≤ k ∧ ∃ c f, (w5.alloc (.cells #[.int .i64 kd, .slice a5 (ky.length + vl.length + 1) c5] 55)).heap[k]? = some (.cells c 55 f) := fun k hk => by
                rcases id hF6.out.row.2 with ⟨e, _⟩ | ⟨g, cp, cur, e, hge, hg6, _⟩
                · rw [e] at hk; cases hk
                · rw [e] at hk
                  simp only [Value.ownBlock, Option.some.injEq] at hk
                  subst hk
                  exact ⟨hge, _, _, hg6⟩
              have hF7 : Hid (Fso w w7 (.slice a7 (fs.length + 1) c7) (fs ++ [⟨kd, a5, ky.length + vl.length + 1, c5, bz D⟩]) (xs.take (i + 1))) := ⟨by
                have hk : ∀ f, C.okC w.heap.size (w5.alloc (.cells #[.int .i64 kd, .slice a5 (ky.length + vl.length + 1) c5] 55)) f → C.okC w.heap.size w7 f := fun f hf => hf.kept hg7 fun k hk c f => by
                  obtain ⟨_, c', f', e⟩ := hown k hk
                  rw [e]
                  simp
                refine ⟨hr7, fun f hf => ?_, ?_, hF6.out.g.andThen hg7 fun j hj => .inl (hown j hj).1⟩
                · rcases List.mem_append.1 hf with hf | hf
                  · exact hk f (hF6.out.okc f hf)
                  · simp only [List.mem_singleton] at hf
                    subst hf
                    exact hk _ hnew
                · rw [List.take_add_one, hxi.out, List.map_append, List.map_append, hF6.out.said]
                  simp [fof, C.said, hD0.out]⟩
              have hal2 : Hid ((xs.take (i + 1)).all rgt = true) := ⟨by
                rw [List.take_add_one, hxi.out, List.all_append, hall.out]
                simp [hg.out]⟩
              have hfl2 : Hid ((fs ++ [(⟨kd, a5, ky.length + vl.length + 1, c5, bz D⟩ : C.Fd)]).length = i + 1) := ⟨by rw [List.length_append, hfl.out]; rfl⟩
              have hval : Value.slice a7 (fs.length + 1) c7 = .slice a7 (fs ++ [(⟨kd, a5, ky.length + vl.length + 1, c5, bz D⟩ : C.Fd)]).length c7 := by rw [List.length_append]; rfl
              have hF8 : Hid (Fso w w7 (.slice a7 (fs ++ [(⟨kd, a5, ky.length + vl.length + 1, c5, bz D⟩ : C.Fd)]).length c7) (fs ++ [⟨kd, a5, ky.length + vl.length + 1, c5, bz D⟩]) (xs.take (i + 1))) := ⟨by rw [← hval]; exact hF7.out⟩
              replace hval := Hid.mk hval
              clear hr7 hg7 hown hF6 hnew hr5 hg5 hgw5 hS5 hS7 hF7 hHeld
              go_wp2_with fail
              go_roundw
              case rel => exact ⟨i + 1, _, a7, c7, by go_num, by omega, hval.out, hfl2, hF8, hal2⟩
              case measure => simp [intOf]; omega
            done
      · have hdi : decide ((i : Int) < xs.length) = false := by simp; omega
        have hF1 : Fso w wr (.slice fa fs.length fc) fs xs := by
          have := hF.out
          rw [List.take_of_length_le (by omega)] at this
          exact this
        have hal1 : xs.all rgt = true := by
          have := hall.out
          rwa [List.take_of_length_le (by omega)] at this
        obtain rfl : r = 0 := by rw [← hr.out, wrE, if_pos h4, if_pos hal1]
        have hfl2 : C.Flds wr.heap.size wr (.slice fa fs.length fc) fs := C.Flds.of_own hF1.row fun f hf => (hF1.okc f hf).ok
        have hokl : C.okL fs = true := okL_of hF1.said h4 hal1 fun x hx2 => by
          obtain ⟨j, hj⟩ := List.mem_iff_getElem?.1 hx2
          exact (hx.at hj).choose_spec.choose_spec.2.2.1
        have henc : C.encL fs = encX xs := encL_of hF1.said
        have hcall := refenc_any wr hfl2 hokl
        rw [henc] at hcall
        replace hcall := Hid.mk hcall
        have hg1 := hF1.g
        replace hF1 := Hid.mk hF1
        clear hfl2 hokl henc
        go_wp2_with fail
        refine hcall.out.mono ?_
        rintro e w9 ⟨u, rfl, hru, hBu⟩
        go_wp2
        go_ret2
        exact ⟨u, rfl, own_mono hru hg1.size, grown_none hg1 (grown_of hBu)⟩
  · obtain rfl : r = 93 := by rw [← hr.out, wrE, if_neg h4]
    have hd : decide ((4 : Int) < xs.length) = true := by simp; omega
    go_enter Tryd.func10, Tryd.ntmps10
    go_wp2
    go_ret2
    exact ⟨_, rfl, by simpa using World.ownsRow_nil _ _ _ _, grown_refl _⟩
end Go.Proofs.YtmahpceokpajgaaDoor
