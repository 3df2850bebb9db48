/- The walk of ActionEncodes: whatever the steps, the bytes and the number, it answers true, and nothing that lay in memory has turned. -/
import Derived.Test.YtmahpceokpajgaaDoorRdc
import Derived.Test.YtmahpceokpajgaaDoorFew
import Derived.Test.YtmahpceokpajgaaDoorLiv
import Derived.Test.YtmahpceokpajgaaDoorSum
import Derived.Deep.QuietTactic
import Derived.BigQuiet
namespace Go.Proofs.YtmahpceokpajgaaDoor
open Go.RowKit Go.IntWalk Go.Maps Go.Shelf
set_option linter.unusedVariables false
set_option linter.unusedSimpArgs false
theorem decA_form {zs : List Int} {w : World} {e : Ending} (h : DecA zs w e) : ∃ u r, e = .returned (.tuple #[u, .int .i64 r]) := by
  rcases h with ⟨u, xs, rfl, _⟩ | ⟨rfl, _⟩
  · exact ⟨u, 0, rfl⟩
  · exact ⟨_, 12, rfl⟩
theorem sps_ok {n : Nat} {W : World} {v : Value} {xs : List Sp} (h : Sps n W v xs) : ∀ x ∈ xs, x.ok := fun x hx => by
  obtain ⟨a, c, rfl, _⟩ := h.shape
  obtain ⟨j, hj⟩ := List.mem_iff_getElem?.1 hx
  obtain ⟨_, _, _, _, hok, _⟩ := h.at hj
  exact hok
theorem enc_inj {xs ys : List Sp} (hx : ∀ x ∈ xs, x.ok) (hy : ∀ y ∈ ys, y.ok) (h0 : wrE xs = 0) (h1 : wrE ys = 0) (h : encX xs = encX ys) : xs = ys := by
  rw [← encX_fdo] at h
  have := enc_fields h
  rw [fdo_said] at this
  exact fofs_inj (stb_of h0 hx) (stb_of h1 hy) this
/-- Whatever both decode, Same says that it is one; and both tell one error. -/
theorem dec_same {zs : List Int} {w1 w2 : World} {e1 e2 : Ending} (h1 : DecA zs w1 e1) (h2 : DecA zs w2 e2) (hg : w1.grownBy w2 none) :
    ∃ (u1 u2 : Value) (r : Int), e1 = .returned (.tuple #[u1, .int .i64 r]) ∧ e2 = .returned (.tuple #[u2, .int .i64 r]) ∧ ∃ ys, Sps w2.heap.size w2 u1 ys ∧ Sps w2.heap.size w2 u2 ys := by
  rcases h1 with ⟨u1, xs, rfl, hs1, hx0, hxe⟩ | ⟨rfl, hn1⟩
  · rcases h2 with ⟨u2, ys, rfl, hs2, hy0, hye⟩ | ⟨rfl, hn2⟩
    · obtain rfl := enc_inj (sps_ok hs1) (sps_ok hs2) hx0 hy0 (hxe.symm.trans hye)
      exact ⟨u1, u2, 0, rfl, rfl, xs, (hs1.keep hg (Nat.le_refl _)).up hg.size, hs2⟩
    · exact absurd hxe (hn2 xs (sps_ok hs1) hx0)
  · rcases h2 with ⟨u2, ys, rfl, hs2, hy0, hye⟩ | ⟨rfl, hn2⟩
    · exact absurd hye (hn1 ys (sps_ok hs2) hy0)
    · exact ⟨_, _, 12, rfl, rfl, [], .inl ⟨.inl rfl, rfl⟩, .inl ⟨.inl rfl, rfl⟩⟩
set_option maxRecDepth 100000 in
set_option maxHeartbeats 8000000 in
theorem enc_out (a1 : Option Addr) (cap1 : Nat) (xs : List Sp) (a2 : Option Addr) (n2 cap2 : Nat) (n : Int) (W : World) (hD : Dr W) (hx : Sps W.heap.size W (.slice a1 xs.length cap1) xs) (b : Bool) (hf : fewB xs = b) (hl : b = false ∨ decide ((1000 : Int) < n2) = true) :
    Calls Tryd.prog 3 #[.slice a1 xs.length cap1, .slice a2 n2 cap2, .int .i64 n] W fun e W' => e = .returned (.bool true) ∧ Below W.heap.size W W' := by
  have hfew := few_any W hx
  replace hD : Hid _ := ⟨hD⟩
  rw [hf] at hfew
  replace hfew : Hid _ := ⟨hfew⟩
  replace hx := Hid.mk hx
  clear hf
  rcases hl with rfl | hl
  · go_enter Tryd.func3, Tryd.ntmps3
    go_wp2_with fail
    refine hfew.out.mono ?_
    rintro e w1 ⟨rfl, hg1⟩
    have hal := alive_any (hD.out.keep hg1)
    replace hal : Hid _ := ⟨hal⟩
    go_wp2_with fail
    refine hal.out.mono ?_
    rintro e w9 ⟨rfl, hg9⟩
    have hg9 := below_of' (grown_none hg1 hg9)
    clear hal
    go_wp2
    go_ret
    exact ⟨rfl, hg9⟩
  · cases b
    all_goals
      go_enter Tryd.func3, Tryd.ntmps3
      go_wp2_with fail
      refine hfew.out.mono ?_
      rintro e w1 ⟨rfl, hg1⟩
      have hal := alive_any (hD.out.keep hg1)
      replace hal : Hid _ := ⟨hal⟩
      go_wp2_with fail
      refine hal.out.mono ?_
      rintro e w9 ⟨rfl, hg9⟩
      have hg9 := below_of' (grown_none hg1 hg9)
      clear hal
      go_wp2
      go_ret
      exact ⟨rfl, hg9⟩
set_option maxRecDepth 100000 in
set_option maxHeartbeats 8000000 in
theorem enc_main (a1 : Option Addr) (cap1 : Nat) (xs : List Sp) (a2 : Option Addr) (n2 cap2 : Nat) (zs : List Int) (n : Int) (hn : In64 n) (W : World) (hD : Dr W) (hx : Sps W.heap.size W (.slice a1 xs.length cap1) xs) (hz : C.Bts W.heap.size W (.slice a2 n2 cap2) zs) (hf : fewB xs = true) (hl : n2 ≤ 1000) :
    Calls Tryd.prog 3 #[.slice a1 xs.length cap1, .slice a2 n2 cap2, .int .i64 n] W fun e W' => e = .returned (.bool true) ∧ Below W.heap.size W W' := by
  have hfew := few_any W hx
  rw [hf] at hfew
  have hzl : n2 = zs.length := hz.len
  have hd' : decide ((1000 : Int) < n2) = false := decide_eq_false (by omega)
  have hsh : xs.length ≤ 40 ∧ ∀ x ∈ xs, x.vl.length ≤ 300 := by
    simp only [fewB, Bool.and_eq_true, decide_eq_true_eq, List.all_eq_true, shb] at hf
    exact ⟨hf.1, fun x hx => (hf.2 x hx).2⟩
  obtain ⟨hx40, hvl⟩ := hsh
  replace hvl := Hid.mk hvl
  obtain ⟨r, hr⟩ : ∃ r, Hid (wrE xs = r) := ⟨_, ⟨rfl⟩⟩
  replace hD : Hid _ := ⟨hD⟩
  replace hx : Hid _ := ⟨hx⟩
  replace hz : Hid _ := ⟨hz⟩
  replace hzl := Hid.mk hzl
  replace hfew : Hid _ := ⟨hfew⟩
  clear hf
  go_enter Tryd.func3, Tryd.ntmps3
  go_wp2_with fail
  refine hfew.out.mono ?_
  rintro e w1 ⟨rfl, hg1⟩
  clear hfew
  have hen := encA_any w1 (hD.out.keep hg1) ((hx.out.keep hg1 (Nat.le_refl _)).up hg1.size) hr
  replace hen := Hid.mk hen
  go_wp2_with fail
  refine hen.out.mono ?_
  rintro e w2 ⟨u2, rfl, hr2, hg2⟩
  have hG2 := grown_none hg1 hg2
  clear hen hg2 hg1
  have hen := rencA_any w2 ((hx.out.keep hG2 (Nat.le_refl _)).up hG2.size) hr
  replace hen := Hid.mk hen
  replace hr2 := Hid.mk hr2
  go_wp2_with fail
  refine hen.out.mono ?_
  rintro e w3 ⟨u3, rfl, hr3, hg3⟩
  have hG3 := grown_none hG2 hg3
  replace hr2 := Hid.mk (World.ownsRow.kept hr2.out hg3 (Classical.em _))
  clear hen hg3 hG2
  have hdc := decA_any w3 (hD.out.keep hG3) ((hz.out.below (below_of' hG3)).mono hG3.size)
  replace hdc := Hid.mk hdc
  replace hr3 := Hid.mk hr3
  go_wp2_with fail
  refine hdc.out.mono ?_
  rintro e4 w4 ⟨hA4, hg4⟩
  have hG4 := grown_none hG3 hg4
  have hrd := rdecA_any w4 ((hz.out.below (below_of' hG4)).mono hG4.size) (by have := hzl.out; omega)
  replace hr2 := Hid.mk (World.ownsRow.kept hr2.out hg4 (Classical.em _))
  replace hr3 := Hid.mk (World.ownsRow.kept hr3.out hg4 (Classical.em _))
  obtain ⟨u4, r4, rfl⟩ := decA_form hA4
  replace hrd := Hid.mk hrd
  replace hA4 := Hid.mk hA4
  clear hdc hg4 hG3
  go_wp2_with fail
  refine hrd.out.mono ?_
  rintro e5 w5 ⟨hA5, hg5⟩
  have hG5 := grown_none hG4 hg5
  replace hr2 := Hid.mk (World.ownsRow.kept hr2.out hg5 (Classical.em _))
  replace hr3 := Hid.mk (World.ownsRow.kept hr3.out hg5 (Classical.em _))
  obtain ⟨u5, r5, rfl⟩ := decA_form hA5
  obtain ⟨_, _, _, h1, h2, ys, hs1, hs2⟩ := dec_same hA4.out hA5 hg5
  cases h1
  cases h2
  clear hrd hg5 hG4 hA4 hA5
  have hsm := same_any w5 hs1 hs2
  replace hsm := Hid.mk hsm
  clear hs1 hs2
  go_wp2_with fail
  refine hsm.out.mono ?_
  rintro e w6 ⟨rfl, hg6⟩
  have hG6 := Hid.mk (grown_none hG5 hg6)
  replace hr2 := Hid.mk (World.ownsRow.kept hr2.out hg6 (Classical.em _))
  replace hr3 := Hid.mk (World.ownsRow.kept hr3.out hg6 (Classical.em _))
  clear hsm hg6 hG5
  go_wp2_with fail
  go_loopw [17] (fun iv wr => ∃ i : Nat, iv = .int .i64 i ∧ i ≤ xs.length ∧ Hid (W.grownBy wr none) ∧ Hid (wr.ownsRow w1.heap.size 5 1 u2 (if r = 0 then encX xs else []).length ((if r = 0 then encX xs else []).map (Value.int .u8))) ∧ Hid (wr.ownsRow w2.heap.size 5 1 u3 (if r = 0 then encX xs else []).length ((if r = 0 then encX xs else []).map (Value.int .u8)))) (fun iv _ => xs.length - (intOf iv).toNat)
  case atStart => exact ⟨0, rfl, by omega, hG6, hr2, hr3⟩
  case round =>
    clear hr2 hr3 hG6
    obtain ⟨i, rfl, hi, hG, hr2, hr3⟩ := hrel
    by_cases hlt : i < xs.length
    · have hdi : decide ((i : Int) < xs.length) = true := by simp; omega
      obtain ⟨x, hxi⟩ : ∃ x, xs[i]? = some x := ⟨_, List.getElem?_eq_getElem hlt⟩
      obtain ⟨b, off, rfl, hb, hok, c0, c1, c2, c3⟩ := (hx.out.keep hG.out (Nat.le_refl _)).at hxi
      have hxv := hvl.out x (List.mem_of_getElem? hxi)
      obtain ⟨o, ho⟩ : ∃ o, Hid (numOf x.vl = o) := ⟨_, ⟨rfl⟩⟩
      have hs1 := sum_any (hD.out.keep hG.out) x.vl (by omega) n hn ho
      have hs2 := fun w' => rsum_any w' x.vl (by omega) n hn ho
      obtain ⟨K', hK'⟩ : ∃ K', sumK o n = K' := ⟨_, rfl⟩
      obtain ⟨E', hE'⟩ : ∃ E', sumE o n = E' := ⟨_, rfl⟩
      rw [hK', hE'] at hs1
      simp only [hK', hE'] at hs2
      obtain ⟨g, hg⟩ : ∃ g, Hid (rgt x = g) := ⟨_, ⟨rfl⟩⟩
      have h16 := fun w' => right_any w' x hok hg
      have h17 := fun w' => srt_any w' x hg
      replace hs1 := Hid.mk hs1
      replace hxi := Hid.mk hxi
      obtain ⟨kd, ky, vl, nn⟩ := x
      simp only [Sp.val] at c0 c1 c2 c3 h16 h17
      clear hxv hK' hE' hok
      go_wp2_with fail
      refine hs1.out.mono ?_
      rintro e w7 ⟨rfl, hg7⟩
      have e0 := grown_cell hg7 c0
      have e1 := grown_cell hg7 c1
      have e2 := grown_cell hg7 c2
      have e3 := grown_cell hg7 c3
      clear c0 c1 c2 c3 hs1
      go_wp2_with fail
      refine (hs2 _).mono ?_
      rintro e w7 ⟨rfl, rfl⟩
      clear hs2
      have hne : (!((bt K').toList == (bt K').toList)) = false := by simp
      haveI := lat_nonempty w7
      have g0 := lat_cell e0
      have g1 := lat_cell e1
      have g2 := lat_cell e2
      have g3 := lat_cell e3
      have k16 : ∀ p : Lat w7, Calls Tryd.prog 16 #[.agg #[.int .i64 kd, .string (bt ky), .string (bt vl), .int .i64 nn]] p.W fun e w'' => e = .returned (.bool g) ∧ ∃ p' : Lat w7, w'' = p'.W := fun p => (h16 p.W).mono fun e w'' ⟨he, hgr⟩ => ⟨he, ⟨w'', grown_none p.h hgr⟩, rfl⟩
      have k17 : ∀ p : Lat w7, Calls Tryd.prog 17 #[.agg #[.int .i64 kd, .string (bt ky), .string (bt vl), .int .i64 nn]] p.W fun e w'' => e = .returned (.bool g) ∧ ∃ p' : Lat w7, w'' = p'.W := fun p => (h17 p.W).mono fun e w'' ⟨he, hgr⟩ => ⟨he, ⟨w'', grown_none p.h hgr⟩, rfl⟩
      clear h16 h17 e0 e1 e2 e3
      go_wp2_with fail
      refine wp_region_lat (by kernel_rfl) (by kernel_rfl) ?_
      repeat (go_big_quiet_step (fail))
      go_big_quiet_step ((go_at_call 16; exact k16 _))
      repeat (go_big_quiet_step (fail))
      go_big_quiet_step ((go_at_call 17; exact k17 _))
      repeat (go_big_quiet_step (fail))
      refine wpQuiet_nil ?_
      intro _ hw'
      obtain ⟨q, hw''⟩ := hw'
      subst hw''
      have hq := q.h
      obtain ⟨w8, hw8⟩ : ∃ w8, w8 = q.W := ⟨_, rfl⟩
      rw [← hw8] at hq ⊢
      clear hw8 q g0 g1 g2 g3 k16 k17
      have hnx : Hid (W.grownBy w8 none) := ⟨grown_none (grown_none hG.out hg7) hq⟩
      have hr2' := Hid.mk (World.ownsRow.kept hr2.out (grown_none hg7 hq) (Classical.em _))
      have hr3' := Hid.mk (World.ownsRow.kept hr3.out (grown_none hg7 hq) (Classical.em _))
      clear hg7 hq
      have hgg : (g != g) = false := by simp
      go_wp2_with fail
      go_roundw
      case rel => exact ⟨i + 1, by go_num, by omega, hnx, hr2', hr3'⟩
      case measure => simp [intOf]; omega
    · have hdi : decide ((i : Int) < xs.length) = false := by simp; omega
      have hby : ∀ z ∈ (if r = 0 then encX xs else []), 0 ≤ z ∧ z < 256 := by
        split
        · rename_i h
          subst h
          exact encX_byte hr.out (sps_ok hx.out)
        · simp
      have hal := alive_any (hD.out.keep hG.out)
      obtain ⟨B, hB⟩ : ∃ B, (if r = 0 then encX xs else []) = B := ⟨_, rfl⟩
      rw [hB] at hr2 hr3 hby
      replace hal := Hid.mk hal
      replace hB := Hid.mk hB
      go_wp2_with fail
      refine hal.out.mono ?_
      rintro e w8 ⟨rfl, hg8⟩
      have hc2 := C.run_conv (C.Bts.of_own (World.ownsRow.kept hr2.out hg8 (Classical.em _)) hby)
      have hc3 := C.run_conv (C.Bts.of_own (World.ownsRow.kept hr3.out hg8 (Classical.em _)) hby)
      have hfin := Hid.mk (below_of' (grown_none hG.out hg8))
      have hne : ((strOfNums B).toList == (strOfNums B).toList) = true := by simp
      clear hr2 hr3 hal hg8
      go_wp2
      go_ret
      exact ⟨by simp, hfin.out⟩
theorem enc_walk (v u : Value) (xs : List Sp) (zs : List Int) (n : Int) (hn : In64 n) (W : World) (hD : Dr W) (hx : Sps W.heap.size W v xs) (hz : C.Bts W.heap.size W u zs) :
    Calls Tryd.prog 3 #[v, u, .int .i64 n] W fun e W' => e = .returned (.bool true) ∧ Below W.heap.size W W' := by
  obtain ⟨a1, cap1, rfl, _⟩ := hx.shape
  obtain ⟨a2, n2, cap2, rfl⟩ : ∃ a2 n2 cap2, u = .slice a2 n2 cap2 := by
    rcases id hz.1 with ⟨rfl | ⟨ad, cap, rfl⟩, h0⟩ | ⟨b, off, cap, rfl, _⟩ <;> exact ⟨_, _, _, rfl⟩
  cases hf : fewB xs with
  | false => exact enc_out a1 cap1 xs a2 n2 cap2 n W hD hx false hf (.inl rfl)
  | true =>
    by_cases hl : n2 ≤ 1000
    · exact enc_main a1 cap1 xs a2 n2 cap2 zs n hn W hD hx hz hf hl
    · exact enc_out a1 cap1 xs a2 n2 cap2 n W hD hx true hf (.inr (decide_eq_true (by omega)))
end Go.Proofs.YtmahpceokpajgaaDoor
