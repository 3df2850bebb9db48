/- The walk of ActionBack. -/
import Derived.Test.YtmahpceokpajgaaDoorFew
namespace Go.Proofs.YtmahpceokpajgaaDoor
open Go.RowKit Go.IntWalk Go.Maps Go.Shelf
set_option linter.unusedVariables false
/-- All but the last of bytes of one's own. -/
theorem cut_last {W : World} {g cap n : Nat} {zs : List Int} (h : C.Bts W.heap.size W (.slice (some ⟨g, 0, none⟩) (n + 1) cap) zs) :
    (∀ W' : World, (Instr.slice 23 (.slice (some ⟨g, 0, none⟩) (n + 1) cap) none (some (.int .i64 n)) none).run Tryd.prog W' = .ok (.slice (some ⟨g, 0, none⟩) n cap) W') ∧ C.Bts W.heap.size W (.slice (some ⟨g, 0, none⟩) n cap) (zs.take n) := by
  obtain ⟨⟨e | ⟨ad, c, e⟩, e2⟩ | ⟨b, off, c, e, hb, hl, hm, hc⟩, hz⟩ := h
  · simp at e
  · simp at e
  · simp only [Value.slice.injEq, Option.some.injEq, Addr.mk.injEq] at e
    obtain ⟨⟨rfl, rfl, _⟩, hln, rfl⟩ := e
    have under23 : Tryd.prog.underlying 23 = some (.slice (Tryd.prog.elem 23)) := by simp [Program.elem, Tryd.underlying23]
    have elem23 : Tryd.prog.elem 23 = 5 := by simp [Program.elem, Tryd.underlying23]
    have sz5 : ∀ W, (Go.sizeOf 5).run Tryd.prog W = .ok 1 W := by
      obtain ⟨i0, hi, hz0, hz1, hz2⟩ := info_parts info5d
      intro W; simp [sizeOf, typeInfo, hi, hz1]
    refine ⟨fun W' => ?_, .inr ⟨g, 0, cap, ?_, hb, by rw [List.length_take]; omega, hm, fun j hj => ?_⟩, fun z hz' => hz z (List.mem_of_mem_take hz')⟩
    · rw [run_slice_h W' 23 _ _ _ under23 .i64 _ (by omega) (by omega), elem23, sz5]
      have : cap ≠ 0 := by omega
      simp [Result.andThen, sliced, this, Addr.add]
    · rw [List.length_take, Nat.min_eq_left (by omega)]
    · have hj2 : j < zs.length := by rw [List.length_take] at hj; omega
      have h2 : j < n := by rw [List.length_take] at hj; omega
      have e : (zs.take n)[j]? = zs[j]? := by rw [List.getElem?_take, if_pos h2]
      rw [hc j hj2, ← e]
theorem encX_ne {xs : List Sp} (h : xs ≠ []) : encX xs ≠ [] := by
  cases xs with
  | nil => exact absurd rfl h
  | cons x r => simp [encX, encP]
theorem enc_shorter {xs ys : List Sp} {n : Nat} (hn : (encX xs).length = n + 1) (h : (encX xs).take n = encX ys) : ys.length < xs.length := by
  have h1 : C.encL (ys.map fdo) ++ (encX xs).drop n = C.encL (xs.map fdo) := by
    rw [encX_fdo, encX_fdo, ← h, List.take_append_drop]
  obtain ⟨qs, _, h2, h3, _⟩ := C.encL_split h1
  have h4 : qs ≠ [] := by
    rintro rfl
    have := congrArg List.length h2
    simp [hn, C.encL] at this
  have h5 : 0 < qs.length := List.length_pos_iff.2 h4
  simp at h3
  omega
theorem wr_much {xs : List Sp} {r : Int} (hr : wrE xs = r) (h0 : r ≠ 0) : (r = 93 ∧ 4 < xs.length) ∨ (r = 91 ∧ xs.length ≤ 4) := by
  unfold wrE at hr
  split at hr
  · split at hr
    · exact absurd hr.symm h0
    · exact .inr ⟨hr.symm, by assumption⟩
  · exact .inl ⟨hr.symm, by omega⟩
set_option maxRecDepth 100000 in
set_option maxHeartbeats 8000000 in
theorem back_few (a1 : Option Addr) (cap1 : Nat) (xs : List Sp) (a2 : Option Addr) (n2 cap2 : Nat) (zs : List Int) (W : World) (hD : Dr W) (hx : Sps W.heap.size W (.slice a1 xs.length cap1) xs) (hz : C.Bts W.heap.size W (.slice a2 n2 cap2) zs) (hxl : xs.length ≤ 9223372036854775807) (hnz : n2 ≤ 9223372036854775807) (hf : fewB xs = false) :
    Calls Tryd.prog 4 #[.slice a1 xs.length cap1, .slice a2 n2 cap2] W fun e W' => e = .returned (.bool true) ∧ Below W.heap.size W W' := by
  have hfew := few_any W hx
  replace hD : Hid _ := ⟨hD⟩
  rw [hf] at hfew
  replace hfew : Hid _ := ⟨hfew⟩
  go_enter Tryd.func4, Tryd.ntmps4
  go_wp2_with fail
  refine hfew.out.mono ?_
  rintro e w1 ⟨rfl, hg1⟩
  clear hfew
  have hal := alive_any (hD.out.keep hg1)
  replace hal : Hid _ := ⟨hal⟩
  go_wp2_with fail
  refine hal.out.mono ?_
  rintro e w9 ⟨rfl, hg9⟩
  have hg9 := below_of' (grown_none hg1 hg9)
  clear hal
  go_wp2
  go_ret
  exact ⟨rfl, hg9⟩
set_option maxRecDepth 100000 in
set_option maxHeartbeats 8000000 in
theorem back_long (a1 : Option Addr) (cap1 : Nat) (xs : List Sp) (a2 : Option Addr) (n2 cap2 : Nat) (zs : List Int) (W : World) (hD : Dr W) (hx : Sps W.heap.size W (.slice a1 xs.length cap1) xs) (hz : C.Bts W.heap.size W (.slice a2 n2 cap2) zs) (hxl : xs.length ≤ 9223372036854775807) (hnz : n2 ≤ 9223372036854775807) (hf : fewB xs = true) (hl : 1000 < n2) :
    Calls Tryd.prog 4 #[.slice a1 xs.length cap1, .slice a2 n2 cap2] W fun e W' => e = .returned (.bool true) ∧ Below W.heap.size W W' := by
  have hfew := few_any W hx
  replace hD : Hid _ := ⟨hD⟩
  rw [hf] at hfew
  have hd : (1000 : Int) < n2 := by omega
  replace hfew : Hid _ := ⟨hfew⟩
  go_enter Tryd.func4, Tryd.ntmps4
  go_wp2_with fail
  refine hfew.out.mono ?_
  rintro e w1 ⟨rfl, hg1⟩
  clear hfew
  have hal := alive_any (hD.out.keep hg1)
  replace hal : Hid _ := ⟨hal⟩
  go_wp2_with fail
  refine hal.out.mono ?_
  rintro e w9 ⟨rfl, hg9⟩
  have hg9 := below_of' (grown_none hg1 hg9)
  clear hal
  go_wp2
  go_ret
  exact ⟨rfl, hg9⟩
set_option maxRecDepth 100000 in
set_option maxHeartbeats 8000000 in
theorem back_main (a1 : Option Addr) (cap1 : Nat) (xs : List Sp) (a2 : Option Addr) (n2 cap2 : Nat) (zs : List Int) (W : World) (hD : Dr W) (hx : Sps W.heap.size W (.slice a1 xs.length cap1) xs) (hz : C.Bts W.heap.size W (.slice a2 n2 cap2) zs) (hxl : xs.length ≤ 9223372036854775807) (hnz : n2 ≤ 9223372036854775807) (hf : fewB xs = true) (hl : n2 ≤ 1000) :
    Calls Tryd.prog 4 #[.slice a1 xs.length cap1, .slice a2 n2 cap2] W fun e W' => e = .returned (.bool true) ∧ Below W.heap.size W W' := by
  have hfew := few_any W hx
  replace hD : Hid _ := ⟨hD⟩
  rw [hf] at hfew
  have hd : (n2 : Int) ≤ 1000 := by omega
  have hd' : decide ((n2 : Int) > 1000) = false := by simp; omega
  replace hx : Hid _ := ⟨hx⟩
  replace hz : Hid _ := ⟨hz⟩
  replace hfew : Hid _ := ⟨hfew⟩
  go_enter Tryd.func4, Tryd.ntmps4
  go_wp2_with fail
  refine hfew.out.mono ?_
  rintro e w1 ⟨rfl, hg1⟩
  clear hfew
  have hz1 : C.Bts w1.heap.size w1 (.slice a2 n2 cap2) zs := (hz.out.below (below_of' hg1)).mono hg1.size
  have hdc := decA_any w1 (hD.out.keep hg1) hz1
  replace hdc : Hid _ := ⟨hdc⟩
  clear hz1
  go_wp2_with fail
  refine hdc.out.mono ?_
  rintro e w2 ⟨hA | hA, hg2⟩
  · obtain ⟨u2, ys, rfl, hs2, hy0, hye⟩ := hA
    have hG2 := grown_none hg1 hg2
    have hen := encA_any w2 (hD.out.keep hG2) hs2 ⟨hy0⟩
    simp only [if_pos] at hen
    rw [← hye] at hen
    replace hen : Hid _ := ⟨hen⟩
    clear hs2 hdc hye
    go_wp2_with fail
    refine hen.out.mono ?_
    rintro e w5 ⟨u5, rfl, hr5, hg5⟩
    have hG5 := grown_none hG2 hg5
    have hB5 : C.Bts w5.heap.size w5 u5 zs := C.Bts.of_own hr5 hz.out.2
    have cv1 := C.run_conv hB5
    have cv2 := C.run_conv (hz.out.below (below_of' hG5))
    replace hr5 : Hid _ := ⟨hr5⟩
    clear hen hB5
    go_wp2_with fail
    clear cv1 cv2 hr5
    have hx5 := hx.out.keep hG5 (Nat.le_refl _)
    have hxr5 : Sps w5.heap.size w5 (.slice a1 xs.length cap1) xs := hx5.up (hG5).size
    obtain ⟨r, hr⟩ : ∃ r, Hid (wrE xs = r) := ⟨_, ⟨rfl⟩⟩
    have hen := encA_any w5 (hD.out.keep hG5) hxr5 hr
    replace hxr5 : Hid _ := ⟨hxr5⟩
    clear hx5
    by_cases hr0 : r = 0
    · subst hr0
      simp only [if_pos] at hen
      obtain ⟨N, hN⟩ : ∃ N, (encX xs).length = N := ⟨_, rfl⟩
      rw [hN] at hen
      replace hen : Hid _ := ⟨hen⟩
      refine hen.out.mono ?_
      rintro e w6 ⟨u, rfl, hr6, hg6⟩
      have hB6 : C.Bts w6.heap.size w6 u (encX xs) := C.Bts.of_own hr6 (fun z hz => by
        simp only [encX, List.mem_flatMap] at hz
        obtain ⟨x, hx, hz⟩ := hz
        obtain ⟨j, hj⟩ := List.mem_iff_getElem?.1 hx
        obtain ⟨_, _, _, _, hok, _⟩ := hxr5.out.at hj
        have hk := rgt_kd (List.all_eq_true.1 (wr0 hr.out).2 x hx)
        have hdl := dat_len hk.2.2.1 hk.2.2.2.1 hok.2.2.2
        simp only [encP, fof, List.mem_cons, bz_len] at hz
        rcases hz with rfl | rfl | rfl | hz
        · omega
        · omega
        · omega
        · exact bz_in _ z hz)
      obtain ⟨a6, c6, rfl⟩ : ∃ a6 c6, u = .slice a6 N c6 := by
        rcases id hr6.2 with ⟨rfl, h0⟩ | ⟨g, cp, cur, e, _⟩
        · exact ⟨none, 0, by rw [h0]⟩
        · exact ⟨_, _, e⟩
      have hx6 := hxr5.out.keep hg6 (Nat.le_refl _)
      have hG6 := grown_none hG5 hg6
      have hdc := decA_any w6 (hD.out.keep hG6) hB6
      have hokx : Hid (∀ x ∈ xs, x.ok) := ⟨fun x hx => by
        obtain ⟨j, hj⟩ := List.mem_iff_getElem?.1 hx
        obtain ⟨_, _, _, _, hok, _⟩ := hxr5.out.at hj
        exact hok⟩
      replace hdc : Hid _ := ⟨hdc⟩
      replace hr6 : Hid _ := ⟨hr6⟩
      replace hB6 : Hid _ := ⟨hB6⟩
      replace hx6 : Hid _ := ⟨hx6⟩
      replace hN : Hid _ := ⟨hN⟩
      clear hen
      go_wp2_with fail
      refine hdc.out.mono ?_
      rintro e w7 ⟨hA | hA, hg7⟩
      · obtain ⟨u7, ys, rfl, hs7, hy0, hye⟩ := hA
        have hyx : ys = xs := by
          have hoy : ∀ y ∈ ys, y.ok := fun y hy => by
            obtain ⟨j, hj⟩ := List.mem_iff_getElem?.1 hy
            obtain ⟨a7, c7, rfl, _⟩ := hs7.shape
            obtain ⟨_, _, _, _, hok, _⟩ := hs7.at hj
            exact hok
          refine fofs_inj (stb_of hy0 hoy) (stb_of hr.out hokx.out) ?_
          rw [← fdo_said, ← enc_fields (ys := xs) (fs := ys.map fdo)]
          rw [encX_fdo]; exact hye.symm
        subst hyx
        have hx7 : Sps w7.heap.size w7 (.slice a1 ys.length cap1) ys := (hx6.out.keep hg7 (by exact Nat.le_trans hg6.size (Nat.le_refl _))).up (Nat.le_trans hg6.size hg7.size)
        have hsm := same_any w7 hs7 hx7
        have hG7 := grown_none hG6 hg7
        replace hsm : Hid _ := ⟨hsm⟩
        replace hx7 : Hid _ := ⟨hx7⟩
        clear hdc hs7 hye
        go_wp2_with fail
        refine hsm.out.mono ?_
        rintro e w8 ⟨rfl, hg8⟩
        have hG8 := grown_none hG7 hg8
        clear hsm
        cases N with
        | zero =>
          go_wp2_with fail
          have hal := alive_any (hD.out.keep hG8)
          replace hal : Hid _ := ⟨hal⟩
          refine hal.out.mono ?_
          rintro e w9 ⟨rfl, hg9⟩
          have hg9 := below_of' (grown_none hG8 hg9)
          clear hal
          go_wp2
          go_ret
          exact ⟨rfl, hg9⟩
        | succ n =>
          have hnp : (0 : Int) < (n : Int) + 1 := by omega
          have hB8 : C.Bts w8.heap.size w8 (.slice a6 (n + 1) c6) (encX ys) := (hB6.out.below (below_of' (grown_none hg7 hg8))).mono (Nat.le_trans hg7.size hg8.size)
          obtain ⟨g6, rfl⟩ : ∃ g6, a6 = some ⟨g6, 0, none⟩ := by
            rcases id hr6.out.2 with ⟨e, h0⟩ | ⟨g, cp, cur, e, _⟩
            · simp at h0
            · simp only [Value.slice.injEq] at e
              exact ⟨g, e.1⟩
          obtain ⟨hsl, hBc⟩ := cut_last hB8
          have hwr : wrap64 ((n : Int) + 1 - 1) = n := by
            have hl := hB8.len_le
            exact wrp _ _ (by omega) (by constructor <;> omega)
          have hwr2 : wrap64 (n : Int) = n := by
            have hl := hB8.len_le
            exact wrp _ _ (by omega) (by constructor <;> omega)
          have hd3 := decA_any w8 (hD.out.keep hG8) hBc
          replace hd3 : Hid _ := ⟨hd3⟩
          replace hB8 : Hid _ := ⟨hB8⟩
          clear hBc
          go_wp2_with fail
          refine hd3.out.mono ?_
          rintro e w10 ⟨hA | hA, hg10⟩
          · obtain ⟨u10, ys', rfl, hs10, _, hye'⟩ := hA
            obtain ⟨a10, c10, rfl, _⟩ := hs10.shape
            have hlt := enc_shorter hN.out hye'
            have hdl : decide ((ys'.length : Int) ≥ ys.length) = false := by simp; omega
            have hdl2 : (ys'.length : Int) < ys.length := by omega
            have hdl3 : decide ((ys.length : Int) ≤ ys'.length) = false := by simp; omega
            have hG10 := grown_none hG8 hg10
            clear hd3 hye' hs10 hlt
            go_wp2_with fail
            have hal := alive_any (hD.out.keep hG10)
            replace hal : Hid _ := ⟨hal⟩
            refine hal.out.mono ?_
            rintro e w9 ⟨rfl, hg9⟩
            have hg9 := below_of' (grown_none hG10 hg9)
            clear hal
            go_wp2
            go_ret
            exact ⟨rfl, hg9⟩
          · obtain ⟨rfl, _⟩ := hA
            have hG10 := grown_none hG8 hg10
            clear hd3
            go_wp2_with fail
            have hal := alive_any (hD.out.keep hG10)
            replace hal : Hid _ := ⟨hal⟩
            refine hal.out.mono ?_
            rintro e w9 ⟨rfl, hg9⟩
            have hg9 := below_of' (grown_none hG10 hg9)
            clear hal
            go_wp2
            go_ret
            exact ⟨rfl, hg9⟩
      · exact absurd rfl (hA.2 xs hokx.out hr.out)
    · have hrb : ¬ r = 0 := hr0
      rcases wr_much hr.out hr0 with ⟨hrv, hl4⟩ | ⟨hrv, hl4⟩
      · subst hrv
        have hd4 : (4 : Int) < xs.length := by omega
        have hd4' : decide ((xs.length : Int) > 4) = true := by simp; omega
        replace hen : Hid _ := ⟨hen⟩
        refine hen.out.mono ?_
        rintro e w6 ⟨u, rfl, hr6, hg6⟩
        have hG6 := grown_none hG5 hg6
        clear hr6 hen
        go_wp2_with fail
        have hal := alive_any (hD.out.keep hG6)
        replace hal : Hid _ := ⟨hal⟩
        refine hal.out.mono ?_
        rintro e w9 ⟨rfl, hg9⟩
        have hg9 := below_of' (grown_none hG6 hg9)
        clear hal
        go_wp2
        go_ret
        exact ⟨rfl, hg9⟩
      · subst hrv
        have hd4 : (xs.length : Int) ≤ 4 := by omega
        have hd4' : decide ((xs.length : Int) > 4) = false := by simp; omega
        replace hen : Hid _ := ⟨hen⟩
        refine hen.out.mono ?_
        rintro e w6 ⟨u, rfl, hr6, hg6⟩
        have hG6 := grown_none hG5 hg6
        clear hr6 hen
        go_wp2_with fail
        have hal := alive_any (hD.out.keep hG6)
        replace hal : Hid _ := ⟨hal⟩
        refine hal.out.mono ?_
        rintro e w9 ⟨rfl, hg9⟩
        have hg9 := below_of' (grown_none hG6 hg9)
        clear hal
        go_wp2
        go_ret
        exact ⟨rfl, hg9⟩

  · obtain ⟨rfl, _⟩ := hA
    have hG2 := grown_none hg1 hg2
    clear hdc
    obtain ⟨w5, hw5⟩ : ∃ w5, w5 = w2 := ⟨_, rfl⟩
    rw [← hw5] at hG2
    go_wp2_with fail
    rw [← hw5]
    clear hw5 hg2
    have hx5 := hx.out.keep hG2 (Nat.le_refl _)
    have hxr5 : Sps w5.heap.size w5 (.slice a1 xs.length cap1) xs := hx5.up (hG2).size
    obtain ⟨r, hr⟩ : ∃ r, Hid (wrE xs = r) := ⟨_, ⟨rfl⟩⟩
    have hen := encA_any w5 (hD.out.keep hG2) hxr5 hr
    replace hxr5 : Hid _ := ⟨hxr5⟩
    clear hx5
    by_cases hr0 : r = 0
    · subst hr0
      simp only [if_pos] at hen
      obtain ⟨N, hN⟩ : ∃ N, (encX xs).length = N := ⟨_, rfl⟩
      rw [hN] at hen
      replace hen : Hid _ := ⟨hen⟩
      refine hen.out.mono ?_
      rintro e w6 ⟨u, rfl, hr6, hg6⟩
      have hB6 : C.Bts w6.heap.size w6 u (encX xs) := C.Bts.of_own hr6 (fun z hz => by
        simp only [encX, List.mem_flatMap] at hz
        obtain ⟨x, hx, hz⟩ := hz
        obtain ⟨j, hj⟩ := List.mem_iff_getElem?.1 hx
        obtain ⟨_, _, _, _, hok, _⟩ := hxr5.out.at hj
        have hk := rgt_kd (List.all_eq_true.1 (wr0 hr.out).2 x hx)
        have hdl := dat_len hk.2.2.1 hk.2.2.2.1 hok.2.2.2
        simp only [encP, fof, List.mem_cons, bz_len] at hz
        rcases hz with rfl | rfl | rfl | hz
        · omega
        · omega
        · omega
        · exact bz_in _ z hz)
      obtain ⟨a6, c6, rfl⟩ : ∃ a6 c6, u = .slice a6 N c6 := by
        rcases id hr6.2 with ⟨rfl, h0⟩ | ⟨g, cp, cur, e, _⟩
        · exact ⟨none, 0, by rw [h0]⟩
        · exact ⟨_, _, e⟩
      have hx6 := hxr5.out.keep hg6 (Nat.le_refl _)
      have hG6 := grown_none hG2 hg6
      have hdc := decA_any w6 (hD.out.keep hG6) hB6
      have hokx : Hid (∀ x ∈ xs, x.ok) := ⟨fun x hx => by
        obtain ⟨j, hj⟩ := List.mem_iff_getElem?.1 hx
        obtain ⟨_, _, _, _, hok, _⟩ := hxr5.out.at hj
        exact hok⟩
      replace hdc : Hid _ := ⟨hdc⟩
      replace hr6 : Hid _ := ⟨hr6⟩
      replace hB6 : Hid _ := ⟨hB6⟩
      replace hx6 : Hid _ := ⟨hx6⟩
      replace hN : Hid _ := ⟨hN⟩
      clear hen
      go_wp2_with fail
      refine hdc.out.mono ?_
      rintro e w7 ⟨hA | hA, hg7⟩
      · obtain ⟨u7, ys, rfl, hs7, hy0, hye⟩ := hA
        have hyx : ys = xs := by
          have hoy : ∀ y ∈ ys, y.ok := fun y hy => by
            obtain ⟨j, hj⟩ := List.mem_iff_getElem?.1 hy
            obtain ⟨a7, c7, rfl, _⟩ := hs7.shape
            obtain ⟨_, _, _, _, hok, _⟩ := hs7.at hj
            exact hok
          refine fofs_inj (stb_of hy0 hoy) (stb_of hr.out hokx.out) ?_
          rw [← fdo_said, ← enc_fields (ys := xs) (fs := ys.map fdo)]
          rw [encX_fdo]; exact hye.symm
        subst hyx
        have hx7 : Sps w7.heap.size w7 (.slice a1 ys.length cap1) ys := (hx6.out.keep hg7 (by exact Nat.le_trans hg6.size (Nat.le_refl _))).up (Nat.le_trans hg6.size hg7.size)
        have hsm := same_any w7 hs7 hx7
        have hG7 := grown_none hG6 hg7
        replace hsm : Hid _ := ⟨hsm⟩
        replace hx7 : Hid _ := ⟨hx7⟩
        clear hdc hs7 hye
        go_wp2_with fail
        refine hsm.out.mono ?_
        rintro e w8 ⟨rfl, hg8⟩
        have hG8 := grown_none hG7 hg8
        clear hsm
        cases N with
        | zero =>
          go_wp2_with fail
          have hal := alive_any (hD.out.keep hG8)
          replace hal : Hid _ := ⟨hal⟩
          refine hal.out.mono ?_
          rintro e w9 ⟨rfl, hg9⟩
          have hg9 := below_of' (grown_none hG8 hg9)
          clear hal
          go_wp2
          go_ret
          exact ⟨rfl, hg9⟩
        | succ n =>
          have hnp : (0 : Int) < (n : Int) + 1 := by omega
          have hB8 : C.Bts w8.heap.size w8 (.slice a6 (n + 1) c6) (encX ys) := (hB6.out.below (below_of' (grown_none hg7 hg8))).mono (Nat.le_trans hg7.size hg8.size)
          obtain ⟨g6, rfl⟩ : ∃ g6, a6 = some ⟨g6, 0, none⟩ := by
            rcases id hr6.out.2 with ⟨e, h0⟩ | ⟨g, cp, cur, e, _⟩
            · simp at h0
            · simp only [Value.slice.injEq] at e
              exact ⟨g, e.1⟩
          obtain ⟨hsl, hBc⟩ := cut_last hB8
          have hwr : wrap64 ((n : Int) + 1 - 1) = n := by
            have hl := hB8.len_le
            exact wrp _ _ (by omega) (by constructor <;> omega)
          have hwr2 : wrap64 (n : Int) = n := by
            have hl := hB8.len_le
            exact wrp _ _ (by omega) (by constructor <;> omega)
          have hd3 := decA_any w8 (hD.out.keep hG8) hBc
          replace hd3 : Hid _ := ⟨hd3⟩
          replace hB8 : Hid _ := ⟨hB8⟩
          clear hBc
          go_wp2_with fail
          refine hd3.out.mono ?_
          rintro e w10 ⟨hA | hA, hg10⟩
          · obtain ⟨u10, ys', rfl, hs10, _, hye'⟩ := hA
            obtain ⟨a10, c10, rfl, _⟩ := hs10.shape
            have hlt := enc_shorter hN.out hye'
            have hdl : decide ((ys'.length : Int) ≥ ys.length) = false := by simp; omega
            have hdl2 : (ys'.length : Int) < ys.length := by omega
            have hdl3 : decide ((ys.length : Int) ≤ ys'.length) = false := by simp; omega
            have hG10 := grown_none hG8 hg10
            clear hd3 hye' hs10 hlt
            go_wp2_with fail
            have hal := alive_any (hD.out.keep hG10)
            replace hal : Hid _ := ⟨hal⟩
            refine hal.out.mono ?_
            rintro e w9 ⟨rfl, hg9⟩
            have hg9 := below_of' (grown_none hG10 hg9)
            clear hal
            go_wp2
            go_ret
            exact ⟨rfl, hg9⟩
          · obtain ⟨rfl, _⟩ := hA
            have hG10 := grown_none hG8 hg10
            clear hd3
            go_wp2_with fail
            have hal := alive_any (hD.out.keep hG10)
            replace hal : Hid _ := ⟨hal⟩
            refine hal.out.mono ?_
            rintro e w9 ⟨rfl, hg9⟩
            have hg9 := below_of' (grown_none hG10 hg9)
            clear hal
            go_wp2
            go_ret
            exact ⟨rfl, hg9⟩
      · exact absurd rfl (hA.2 xs hokx.out hr.out)
    · have hrb : ¬ r = 0 := hr0
      rcases wr_much hr.out hr0 with ⟨hrv, hl4⟩ | ⟨hrv, hl4⟩
      · subst hrv
        have hd4 : (4 : Int) < xs.length := by omega
        have hd4' : decide ((xs.length : Int) > 4) = true := by simp; omega
        replace hen : Hid _ := ⟨hen⟩
        refine hen.out.mono ?_
        rintro e w6 ⟨u, rfl, hr6, hg6⟩
        have hG6 := grown_none hG2 hg6
        clear hr6 hen
        go_wp2_with fail
        have hal := alive_any (hD.out.keep hG6)
        replace hal : Hid _ := ⟨hal⟩
        refine hal.out.mono ?_
        rintro e w9 ⟨rfl, hg9⟩
        have hg9 := below_of' (grown_none hG6 hg9)
        clear hal
        go_wp2
        go_ret
        exact ⟨rfl, hg9⟩
      · subst hrv
        have hd4 : (xs.length : Int) ≤ 4 := by omega
        have hd4' : decide ((xs.length : Int) > 4) = false := by simp; omega
        replace hen : Hid _ := ⟨hen⟩
        refine hen.out.mono ?_
        rintro e w6 ⟨u, rfl, hr6, hg6⟩
        have hG6 := grown_none hG2 hg6
        clear hr6 hen
        go_wp2_with fail
        have hal := alive_any (hD.out.keep hG6)
        replace hal : Hid _ := ⟨hal⟩
        refine hal.out.mono ?_
        rintro e w9 ⟨rfl, hg9⟩
        have hg9 := below_of' (grown_none hG6 hg9)
        clear hal
        go_wp2
        go_ret
        exact ⟨rfl, hg9⟩

theorem back_walk (v u : Value) (xs : List Sp) (zs : List Int) (W : World) (hD : Dr W) (hx : Sps W.heap.size W v xs) (hz : C.Bts W.heap.size W u zs) :
    Calls Tryd.prog 4 #[v, u] W fun e W' => e = .returned (.bool true) ∧ Below W.heap.size W W' := by
  obtain ⟨a1, cap1, rfl, hxl⟩ := hx.shape
  obtain ⟨a2, n2, cap2, rfl, hn⟩ := hz.form
  unfold maxLen at hxl
  have hnz := hz.len_le
  cases hf : fewB xs with
  | false => exact back_few a1 cap1 xs a2 n2 cap2 zs W hD hx hz (by omega) hnz hf
  | true =>
    by_cases hl : n2 ≤ 1000
    · exact back_main a1 cap1 xs a2 n2 cap2 zs W hD hx hz (by omega) hnz hf hl
    · exact back_long a1 cap1 xs a2 n2 cap2 zs W hD hx hz (by omega) hnz hf (by omega)
end Go.Proofs.YtmahpceokpajgaaDoor
