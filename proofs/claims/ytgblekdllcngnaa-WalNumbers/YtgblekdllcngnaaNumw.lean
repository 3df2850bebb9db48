/- The walk of WalNumbers. -/
import Derived.Test.YtgblekdllcngnaaAla
namespace Go.Proofs.Ytgblekdllcngnaa
open Go.RowKit Go.Shelf Plain Go.IntWalk
set_option linter.unusedVariables false
def Nx (W : World) (M : Nat → Prop) (gs : List (List (List Int))) (fs : Nat) (av : Value) (rs : List (List Int)) : Prop := NoE gs ∧ gs.flatten = rs.drop fs ∧ (∀ k, k < W.heap.size → M k) ∧ (∀ k, av.ownBlock = some k → W.heap.size ≤ k)
theorem lat_first {M : Nat → Prop} {w : World} {lb sb bm : Nat} {gs : List (List (List Int))} {seg fs F : Nat} (h : Lgs M w lb sb bm gs seg fs F) (p : Lat w) : Calls Try.prog 14 #[.pointer (some ⟨lb, 0, none⟩)] p.W fun e w'' => e = .returned (.int .i64 (fs : Int)) ∧ ∃ p' : Lat w, w'' = p'.W :=
  (ls_first p.W (h.keep (below_grown p.h))).mono fun e w'' ⟨he, hB⟩ => ⟨he, p, hB⟩
theorem lat_conv {w : World} {v : Value} {zs : List Int} {A : ByteArray} (h : Bts w.heap.size w v zs) (HA : Hid (A = strOfNums zs)) (p : Lat w) : (convert 32 9 v).run Try.prog p.W = .ok (.string A) p.W := by
  rw [HA.out]; exact run_conv (h.grown0 (below_grown p.h))
set_option maxRecDepth 100000 in
set_option maxHeartbeats 20000000 in
theorem numbers_walk (a : Option Addr) (cap : Nat) (xs : List Ac) (W : World) (h : Acs W (.slice a xs.length cap) xs) :
    Calls Try.prog 4 #[.slice a xs.length cap] W fun e w' => e = .returned (.bool true) ∧ Below W.heap.size W w' := by
  go_enter Try.func4, Try.ntmps4
  go_wp2_with fail
  refine (new_any W).mono ?_
  rintro e w1 ⟨sb0, bm0, rfl, hsb, hbm, hD1, hg1⟩
  have hs1 := hg1.size
  have hD1' : Dsk w1 sb0 bm0 (fun k => k ≠ sb0 ∧ k ≠ bm0) [] [] := hD1.mono (fun k hk => hk.elim) (fun e => e.1 rfl) (fun e => e.2 rfl)
  go_wp2_with fail
  refine (open_fresh w1 (fun k => k < W.heap.size) (fun k hk => by omega) (by omega) (by omega) hD1').mono ?_
  rintro e w2 ⟨lb0, sv, rfl, hlb, hL2, hK2⟩
  have hK02 : Kpt (fun k => k < W.heap.size) W w2 := (Kpt.of hg1 (fun k hk => hk) (by simp)).trans hK2
  have hG2 := lgs_fresh hL2
  clear hL2 hK2 hD1 hD1' hg1
  go_wp2_with fail
  refine (alive_any _).mono ?_
  rintro e w3 ⟨rfl, hB3⟩
  have hG3 := hG2.keep (below_grown hB3)
  have hB03 : Below W.heap.size W w3 := (hK02.trans (hG2.kpt0 (below_grown hB3))).below fun k hk => hk
  clear hG2 hK02 hB3
  go_wp2_with fail
  go_loopw [3, 4, 6, 7] (fun d l av i wr => ∃ (j sb bm lb : Nat) (M : Nat → Prop) (gs : List (List (List Int))) (seg fs F : Nat) (ca : Option Addr) (cc : Nat) (rs : List (List Int)), j ≤ 40 ∧ d = .pointer (some ⟨sb, 0, none⟩) ∧ l = .pointer (some ⟨lb, 0, none⟩) ∧ av = .slice ca rs.length cc ∧ i = .int .i64 j ∧
    Lgs M wr lb sb bm gs seg fs F ∧ All M wr (.slice ca rs.length cc) rs ∧ Hid (Nx W M gs fs (.slice ca rs.length cc) rs) ∧ rs.length = fs + (cs gs).sum ∧ rs.length ≤ j ∧ Below W.heap.size W wr) (fun _ _ _ i _ => 40 - (intOf i).toNat)
  case atStart => exact ⟨0, sb0, bm0, lb0, _, [], 0, 0, 0, none, 0, [], by omega, rfl, rfl, rfl, rfl, hG3, All.nil _ _, ⟨(fun g hg => by cases hg), rfl, fun k hk => hk, fun k hk => by simp [Value.ownBlock] at hk⟩, by simp [cs], by simp, hB03⟩
  case round =>
    obtain ⟨j, sb, bm, lb, M, gs, seg, fs, F, ca, cc, rs, hj, rfl, rfl, rfl, rfl, hG, hA, HX, hE, hT, hBw⟩ := hrel
    have HE : Hid (rs.length = fs + (cs gs).sum) := hE
    clear hE
    by_cases hin : j < xs.length ∧ j < 40
    · have hdj : decide ((j : Int) < (xs.length : Int)) = true := by simp; omega
      have hdj2 : decide ((j : Int) < 40) = true := by simp; omega
      have hjl : (j : Int) < (xs.length : Int) := by omega
      have hj40 : j < 40 := hin.2
      obtain ⟨y, hy⟩ : ∃ y, xs[j]? = some y := ⟨_, List.getElem?_eq_getElem hin.1⟩
      obtain ⟨b, off, rfl, hbl, hyo, hyc⟩ := h.at hy
      have hc0 : wr.cell? ⟨b, off + j * 5, none⟩ = some (.int .i64 y.kd) := (hBw.cell (p := ⟨b, off + j * 5, none⟩) hbl).trans (by simpa using hyc 0 _ rfl)
      have hc1 : wr.cell? ⟨b, off + j * 5 + 1, none⟩ = some (.int .i64 y.s) := (hBw.cell (p := ⟨b, off + j * 5 + 1, none⟩) hbl).trans (by simpa using hyc 1 _ rfl)
      have hc2 : wr.cell? ⟨b, off + j * 5 + 2, none⟩ = some (.int .i64 y.n) := (hBw.cell (p := ⟨b, off + j * 5 + 2, none⟩) hbl).trans (by simpa using hyc 2 _ rfl)
      have hc3 : wr.cell? ⟨b, off + j * 5 + 3, none⟩ = some (.slice y.ba y.b.length y.bc) := (hBw.cell (p := ⟨b, off + j * 5 + 3, none⟩) hbl).trans (by simpa using hyc 3 _ rfl)
      have hc4 : wr.cell? ⟨b, off + j * 5 + 4, none⟩ = some (.slice y.ka y.k.length y.kc) := (hBw.cell (p := ⟨b, off + j * 5 + 4, none⟩) hbl).trans (by simpa using hyc 4 _ rfl)
      have hyb := hyo.2.2.2.1
      have hyn := hyo.2.2.1
      have hys := hyo.2.1
      obtain ⟨wA, hwA⟩ : ∃ wA, wr.alloc (.cells #[.int .i64 y.kd, .int .i64 y.s, .int .i64 y.n, .slice y.ba y.b.length y.bc, .slice y.ka y.k.length y.kc] 34) = wA := ⟨_, rfl⟩
      have hgA : wr.grownBy wA none := by rw [← hwA]; exact World.grownBy_alloc wr _ none
      have q0 : wA.cell? ⟨wr.heap.size, 0, none⟩ = some (.int .i64 y.kd) := by rw [← hwA]; simp
      have q1 : wA.cell? ⟨wr.heap.size, 1, none⟩ = some (.int .i64 y.s) := by rw [← hwA]; simp
      have q2 : wA.cell? ⟨wr.heap.size, 2, none⟩ = some (.int .i64 y.n) := by rw [← hwA]; simp
      have q3 : wA.cell? ⟨wr.heap.size, 3, none⟩ = some (.slice y.ba y.b.length y.bc) := by rw [← hwA]; simp
      have q4 : wA.cell? ⟨wr.heap.size, 4, none⟩ = some (.slice y.ka y.k.length y.kc) := by rw [← hwA]; simp
      have hszA : wA.heap.size = wr.heap.size + 1 := by rw [← hwA]; simp
      have hybA : Bts wA.heap.size wA (.slice y.ba y.b.length y.bc) y.b := ((hyb.below hBw).mono hBw.size).grown0 hgA
      have hGA := hG.keep hgA
      have hKA := hG.kpt0 hgA
      have hAA := hA.kept hKA
      have HML := hG.mlt
      have hSw := hBw.size
      have hBA : Below W.heap.size W wA := hBw.trans (below_own hgA hSw (by simp))
      clear hyo hyc hyb
      by_cases hlong : y.b.length > 300
      · have hdl : decide ((y.b.length : Int) > 300) = true := by simp; omega
        clear HML
        go_wp2
        go_roundw
        case rel => exact ⟨j + 1, sb, bm, lb, M, gs, seg, fs, F, ca, cc, rs, by omega, rfl, rfl, rfl, by go_num, hGA, hAA, HX, HE.out, by omega, hBA⟩
        case measure => simp [intOf]; omega
      · have hdl : decide ((y.b.length : Int) > 300) = false := by simp; omega
        have HMLT : Hid (∀ k, M k → k < wr.heap.size) := HML
        clear HML
        obtain ⟨f, hf⟩ : ∃ f : Int, (fs : Int) = f := ⟨_, rfl⟩
        have kF := ls_first wA hGA
        rw [hf] at kF
        have HF : Hid ((fs : Int) = f) := hf
        clear hf
        go_wp2_with fail
        refine kF.mono ?_
        rintro e w4 ⟨rfl, rfl⟩
        clear kF
        by_cases hk1 : y.kd = 1
        · have hd1 : (y.kd == 1) = true := beq_iff_eq.2 hk1
          clear hk1
          go_wp2_with fail
          refine (body_any _ y.kd y.s y.n y.ba y.bc y.b _ hyn.1 hyn.2 hybA (by omega)).mono ?_
          rintro e w5 ⟨v5, zs, rfl, hb5, hz5, hg5⟩
          obtain ⟨a5, cap5, rfl⟩ := hb5.1.shape
          have hg05 := grown_none hgA hg5
          have hG5 := hG.more hg05
          have hA5 := (hAA.kept (hGA.kpt0 hg5)).wider (M' := And_ M wr w5) fun k hk => .inl hk
          have hB5 : Below W.heap.size W w5 := hBA.trans (below_own hg5 hBA.size (by simp))
          have HB5 : Hid (Btx (fun k => And_ M wr w5 k ∧ (Value.slice ca rs.length cc).ownBlock ≠ some k) w5 (.slice a5 zs.length cap5) zs) := by
            refine ⟨hb5.1, fun b off len cap e hz => ?_⟩
            have h1 := hb5.2 b off len cap e hz
            have h2 : b < w5.heap.size := by
              obtain ⟨⟨e2, e3⟩ | ⟨b', off', cap', e2, hb', _⟩, _⟩ := hb5.1
              · exact absurd e3 hz
              · rw [e] at e2; cases e2; exact hb'
            refine ⟨.inr ⟨by omega, h2⟩, fun e4 => ?_⟩
            have := HMLT.out b (hA.mb b e4)
            omega
          by_cases hr : 1 ≤ zs.length ∧ zs.length ≤ 1000
          · have hok : okR zs := ⟨hr.1, hr.2, hb5.1.2⟩
            have hAp := ls_append w5 hG5 HX.out.1 (by have := HE.out; omega) a5 zs.length cap5 zs hb5.1 hok
            rw [← HE.out] at hAp
            have l1 : decide ((zs.length : Int) < 1) = false := by simp; omega
            have l2 : decide ((zs.length : Int) > 1000) = false := by simp; omega
            have HOK : Hid (okR zs) := hok
            clear hok
            go_wp2_with fail
            refine hAp.mono ?_
            rintro e w6 ⟨rfl, ⟨gs8, F8, hG6, hN6, hf6⟩, hK6⟩
            have hA6 := hA5.kept hK6
            have hb6 : Btx (fun k => And_ M wr w5 k ∧ (Value.slice ca rs.length cc).ownBlock ≠ some k) w6 (.slice a5 zs.length cap5) zs := HB5.out.kept (okR_ne HOK.out) (hK6.mono fun k hk => hk.1)
            have hB6 : Below W.heap.size W w6 := hB5.trans (hK6.below fun k hk => .inl (HX.out.2.2.1 k hk))
            obtain ⟨ca8, cc8, w8, hrun, hA8, hg8, hbl8⟩ := hA6.snoc (by omega) a5 cap5 zs hb6 HOK.out hG6.mlt 46
            have hG8 := hG6.foreign hg8 fun k hk => .inl (hA.mb k hk)
            obtain ⟨rs8, hrs8⟩ : ∃ rs8, rs ++ [zs] = rs8 := ⟨_, rfl⟩
            rw [hrs8] at hrun hA8 hbl8
            have HE8 : Hid (rs8.length = fs + (cs gs8).sum) := by
              show _ = _
              have := HE.out
              rw [← hrs8, List.length_append, cs_sum, hf6, List.length_append, ← cs_sum]; simp only [List.length_cons, List.length_nil]; omega
            have hj8 : rs8.length ≤ j + 1 := by rw [← hrs8]; simp; omega
            have hS6 := hB6.size
            have hB8 : Below W.heap.size W w8 := hB6.trans (below_own hg8 hS6 fun k hk => HX.out.2.2.2 k hk)
            have HX8 : Hid (Nx W (And_ (And_ M wr w5) w6 w8) gs8 fs (.slice ca8 rs8.length cc8) rs8) := by
              refine ⟨hN6, ?_, fun k hk => .inl (.inl (HX.out.2.2.1 k hk)), fun k hk => ?_⟩
              · rw [hf6, HX.out.2.1, ← hrs8, List.drop_append_of_le_length (by have := HE.out; omega)]
              · rcases hbl8 k hk with e | e
                · exact HX.out.2.2.2 k e
                · omega
            obtain ⟨M8, hM8⟩ : ∃ M8, And_ (And_ M wr w5) w6 w8 = M8 := ⟨_, rfl⟩
            rw [hM8] at hG8 hA8 HX8
            clear hAp hN6 hf6 hbl8 hA6 hA5 hG5 hG6 hrs8 hM8
            go_wp2_with (at_builtin; go_must (refine wpList_append_run rfl (.tmp 101) (.tmp 103) rfl _ _ rfl rfl hrun ?_))
            as_aux_lemma =>
              have kn := ls_next _ hG8
              rw [← HE8.out] at kn
              go_wp2_with fail
              refine kn.mono ?_
              rintro e w9 ⟨rfl, rfl⟩
              clear kn
              go_wp2_with fail
              go_loopw [15] (fun n wz => ∃ m : Nat, m ≤ rs8.length ∧ n = .int .i64 m ∧ Lgs M8 wz lb sb bm gs8 seg fs F8 ∧ All M8 wz (.slice ca8 rs8.length cc8) rs8 ∧ Below W.heap.size W wz) (fun n _ => rs8.length - (intOf n).toNat)
              case atStart => exact ⟨0, by omega, rfl, hG8, hA8, hB8⟩
              case round =>
                obtain ⟨m, hm, rfl, hGz, hAz, hBz⟩ := hrel
                by_cases hml : m < rs8.length
                · have dm : decide ((m : Int) < (rs8.length : Int)) = true := by simp; omega
                  have hmi : (m : Int) < (rs8.length : Int) := by omega
                  obtain ⟨r, hr⟩ : ∃ r, rs8[m]? = some r := ⟨_, List.getElem?_eq_getElem hml⟩
                  by_cases hlow : m < fs
                  · have kr := ls_read_low wr hGz (m : Int) (by omega)
                    have dg : decide ((m : Int) ≥ (fs : Int)) = false := by simp; omega
                    have dg' : decide (m ≥ fs) = false := by simp; omega
                    have dg'' : decide (fs ≤ m) = false := by simp; omega
                    clear hr
                    go_wp2_with fail
                    refine kr.mono ?_
                    rintro e w9 ⟨rfl, hB9⟩
                    have hGz9 := hGz.keep (below_grown hB9)
                    have hAz9 := hAz.kept (hGz.kpt0 (below_grown hB9))
                    have hBz9 : Below W.heap.size W w9 := hBz.trans (below_own (below_grown hB9) hBz.size (by simp))
                    haveI := lat_nonempty w9
                    have kf := fun p : Lat w9 => lat_first hGz9 p
                    go_wp2_with fail
                    refine wp_region_lat (by kernel_rfl) (by kernel_rfl) ?_
                    repeat (go_big_quiet_step (fail))
                    go_big_quiet_step ((go_at_call 14; exact kf _))
                    repeat (go_big_quiet_step (fail))
                    refine wpQuiet_nil ?_
                    intro _ hw'
                    obtain ⟨p, hw''⟩ := hw'
                    subst hw''
                    have hgp := below_grown p.h
                    have hGzd := hGz9.keep hgp
                    have hAzd := hAz9.kept (hGz9.kpt0 hgp)
                    have hBzd : Below W.heap.size W p.W := hBz9.trans (below_own hgp hBz9.size (by simp))
                    clear kf
                    go_wp2
                    go_roundw
                    case rel => exact ⟨m + 1, by omega, by go_num, hGzd, hAzd, hBzd⟩
                    case measure => simp [intOf]; omega
                  · have hE9 : Hid ((m : Int) = ((fs + (m - fs) : Nat) : Int)) := by show _ = _; omega
                    have hfr : gs8.flatten[m - fs]? = some r := by
                      rw [HX8.out.2.1, List.getElem?_drop, ← hr]; congr 1; omega
                    have kr := ls_read wr hGz (m - fs) r hfr (m : Int) hE9
                    have dg : decide ((m : Int) ≥ (fs : Int)) = true := by simp; omega
                    have dg' : decide (m ≥ fs) = true := by simp; omega
                    have dg'' : decide (fs ≤ m) = true := by simp; omega
                    have HR : Hid (rs8[m]? = some r) := hr
                    clear hr hfr
                    go_wp2_with fail
                    refine kr.mono ?_
                    rintro e w9 ⟨v9, rfl, hb9, hB9⟩
                    have hGz9 := hGz.keep (below_grown hB9)
                    have hAz9 := hAz.kept (hGz.kpt0 (below_grown hB9))
                    have hBz9 : Below W.heap.size W w9 := hBz.trans (below_own (below_grown hB9) hBz.size (by simp))
                    haveI := lat_nonempty w9
                    have kf := fun p : Lat w9 => lat_first hGz9 p
                    obtain ⟨g, v, eca, hcv, hbv⟩ := hAz9.cell HR.out
                    obtain ⟨Z, HZ⟩ : ∃ Z, Hid (Z = strOfNums r) := ⟨_, rfl⟩
                    have kc := lat_cell hcv
                    have cv9 := fun p : Lat w9 => lat_conv (A := Z) hb9.1 HZ p
                    have cvv := fun p : Lat w9 => lat_conv (A := Z) hbv HZ p
                    subst eca
                    go_wp2_with fail
                    refine wp_region_lat (by kernel_rfl) (by kernel_rfl) ?_
                    repeat (go_big_quiet_step (fail))
                    go_big_quiet_step ((go_at_call 14; exact kf _))
                    repeat (go_big_quiet_step (fail))
                    refine wpQuiet_nil ?_
                    intro _ hw'
                    obtain ⟨p, hw''⟩ := hw'
                    subst hw''
                    have hgp := below_grown p.h
                    have hGzd := hGz9.keep hgp
                    have hAzd := hAz9.kept (hGz9.kpt0 hgp)
                    have hBzd : Below W.heap.size W p.W := hBz9.trans (below_own hgp hBz9.size (by simp))
                    clear kf kc cv9 cvv
                    go_wp2
                    go_roundw
                    case rel => exact ⟨m + 1, by omega, by go_num, hGzd, hAzd, hBzd⟩
                    case measure => simp [intOf]; omega
                · obtain rfl : m = rs8.length := by omega
                  have dm : decide ((rs8.length : Int) < (rs8.length : Int)) = false := by simp
                  go_wp2
                  go_roundw
                  case rel => exact ⟨j + 1, sb, bm, lb, M8, gs8, seg, fs, F8, ca8, cc8, rs8, by omega, rfl, rfl, rfl, by go_num, hGz, hAz, HX8, HE8.out, hj8, hBz⟩
                  case measure => simp [intOf]; omega
          · have l3 : (decide ((zs.length : Int) < 1) = true) ∨ (decide ((zs.length : Int) < 1) = false ∧ decide ((zs.length : Int) > 1000) = true) := by
              by_cases h1 : zs.length < 1
              · left; simp; omega
              · right; simp; omega
            have hG8 := hG5.less (M' := M) fun k hk => .inl hk
            have hA8 := hAA.kept (hGA.kpt0 hg5)
            have HX8 := HX
            have HE8 := HE
            have hj8 : rs.length ≤ j + 1 := by omega
            have hAp := lappend_bad lb a5 zs.length cap5 (by omega) w5
            obtain ⟨w8, hw8⟩ : ∃ w8, w8 = w5 := ⟨_, rfl⟩
            have hB8 := hB5
            rw [← hw8] at hG8 hA8 hAp hB8
            rw [← hw8]
            clear hw8 hG5 hA5 HB5 hb5
            rcases l3 with l3 | ⟨l3, l4⟩
            all_goals
              go_wp2_with fail
              refine hAp.mono ?_
              rintro e w6 ⟨rfl, rfl⟩
              as_aux_lemma =>
                have kn := ls_next _ hG8
                rw [← HE8.out] at kn
                go_wp2_with fail
                refine kn.mono ?_
                rintro e w9 ⟨rfl, rfl⟩
                clear kn
                go_wp2_with fail
                go_loopw [15] (fun n wz => ∃ m : Nat, m ≤ rs.length ∧ n = .int .i64 m ∧ Lgs M wz lb sb bm gs seg fs F ∧ All M wz (.slice ca rs.length cc) rs ∧ Below W.heap.size W wz) (fun n _ => rs.length - (intOf n).toNat)
                case atStart => exact ⟨0, by omega, rfl, hG8, hA8, hB8⟩
                case round =>
                  obtain ⟨m, hm, rfl, hGz, hAz, hBz⟩ := hrel
                  by_cases hml : m < rs.length
                  · have dm : decide ((m : Int) < (rs.length : Int)) = true := by simp; omega
                    have hmi : (m : Int) < (rs.length : Int) := by omega
                    obtain ⟨r, hr⟩ : ∃ r, rs[m]? = some r := ⟨_, List.getElem?_eq_getElem hml⟩
                    by_cases hlow : m < fs
                    · have kr := ls_read_low wr hGz (m : Int) (by omega)
                      have dg : decide ((m : Int) ≥ (fs : Int)) = false := by simp; omega
                      have dg' : decide (m ≥ fs) = false := by simp; omega
                      have dg'' : decide (fs ≤ m) = false := by simp; omega
                      clear hr
                      go_wp2_with fail
                      refine kr.mono ?_
                      rintro e w9 ⟨rfl, hB9⟩
                      have hGz9 := hGz.keep (below_grown hB9)
                      have hAz9 := hAz.kept (hGz.kpt0 (below_grown hB9))
                      have hBz9 : Below W.heap.size W w9 := hBz.trans (below_own (below_grown hB9) hBz.size (by simp))
                      haveI := lat_nonempty w9
                      have kf := fun p : Lat w9 => lat_first hGz9 p
                      go_wp2_with fail
                      refine wp_region_lat (by kernel_rfl) (by kernel_rfl) ?_
                      repeat (go_big_quiet_step (fail))
                      go_big_quiet_step ((go_at_call 14; exact kf _))
                      repeat (go_big_quiet_step (fail))
                      refine wpQuiet_nil ?_
                      intro _ hw'
                      obtain ⟨p, hw''⟩ := hw'
                      subst hw''
                      have hgp := below_grown p.h
                      have hGzd := hGz9.keep hgp
                      have hAzd := hAz9.kept (hGz9.kpt0 hgp)
                      have hBzd : Below W.heap.size W p.W := hBz9.trans (below_own hgp hBz9.size (by simp))
                      clear kf
                      go_wp2
                      go_roundw
                      case rel => exact ⟨m + 1, by omega, by go_num, hGzd, hAzd, hBzd⟩
                      case measure => simp [intOf]; omega
                    · have hE9 : Hid ((m : Int) = ((fs + (m - fs) : Nat) : Int)) := by show _ = _; omega
                      have hfr : gs.flatten[m - fs]? = some r := by
                        rw [HX8.out.2.1, List.getElem?_drop, ← hr]; congr 1; omega
                      have kr := ls_read wr hGz (m - fs) r hfr (m : Int) hE9
                      have dg : decide ((m : Int) ≥ (fs : Int)) = true := by simp; omega
                      have dg' : decide (m ≥ fs) = true := by simp; omega
                      have dg'' : decide (fs ≤ m) = true := by simp; omega
                      have HR : Hid (rs[m]? = some r) := hr
                      clear hr hfr
                      go_wp2_with fail
                      refine kr.mono ?_
                      rintro e w9 ⟨v9, rfl, hb9, hB9⟩
                      have hGz9 := hGz.keep (below_grown hB9)
                      have hAz9 := hAz.kept (hGz.kpt0 (below_grown hB9))
                      have hBz9 : Below W.heap.size W w9 := hBz.trans (below_own (below_grown hB9) hBz.size (by simp))
                      haveI := lat_nonempty w9
                      have kf := fun p : Lat w9 => lat_first hGz9 p
                      obtain ⟨g, v, eca, hcv, hbv⟩ := hAz9.cell HR.out
                      obtain ⟨Z, HZ⟩ : ∃ Z, Hid (Z = strOfNums r) := ⟨_, rfl⟩
                      have kc := lat_cell hcv
                      have cv9 := fun p : Lat w9 => lat_conv (A := Z) hb9.1 HZ p
                      have cvv := fun p : Lat w9 => lat_conv (A := Z) hbv HZ p
                      subst eca
                      go_wp2_with fail
                      refine wp_region_lat (by kernel_rfl) (by kernel_rfl) ?_
                      repeat (go_big_quiet_step (fail))
                      go_big_quiet_step ((go_at_call 14; exact kf _))
                      repeat (go_big_quiet_step (fail))
                      refine wpQuiet_nil ?_
                      intro _ hw'
                      obtain ⟨p, hw''⟩ := hw'
                      subst hw''
                      have hgp := below_grown p.h
                      have hGzd := hGz9.keep hgp
                      have hAzd := hAz9.kept (hGz9.kpt0 hgp)
                      have hBzd : Below W.heap.size W p.W := hBz9.trans (below_own hgp hBz9.size (by simp))
                      clear kf kc cv9 cvv
                      go_wp2
                      go_roundw
                      case rel => exact ⟨m + 1, by omega, by go_num, hGzd, hAzd, hBzd⟩
                      case measure => simp [intOf]; omega
                  · obtain rfl : m = rs.length := by omega
                    have dm : decide ((rs.length : Int) < (rs.length : Int)) = false := by simp
                    go_wp2
                    go_roundw
                    case rel => exact ⟨j + 1, sb, bm, lb, M, gs, seg, fs, F, ca, cc, rs, by omega, rfl, rfl, rfl, by go_num, hGz, hAz, HX8, HE8.out, hj8, hBz⟩
                    case measure => simp [intOf]; omega
        · have hd1 : (y.kd == 1) = false := beq_eq_false_iff_ne.2 hk1
          clear hk1
          by_cases hk2 : y.kd = 2
          · have hd2 : (y.kd == 2) = true := beq_iff_eq.2 hk2
            clear hk2
            go_wp2_with fail
            refine (ls_force _ hGA).mono ?_
            rintro e w8 ⟨rfl, hG8, hK8⟩
            have hA8 := hAA.kept hK8
            have HX8 := HX
            have HE8 := HE
            have hj8 : rs.length ≤ j + 1 := by omega
            have hB8 : Below W.heap.size W w8 := hBA.trans (hK8.below HX.out.2.2.1)
            obtain ⟨F8, hF8⟩ : ∃ F8, fs + (cs gs).sum = F8 := ⟨_, rfl⟩
            have kfo := ls_forced w8 hG8
            rw [← HE.out] at kfo
            rw [hF8] at hG8
            clear hF8
            go_wp2_with fail
            refine kfo.mono ?_
            rintro e w9 ⟨rfl, rfl⟩
            clear kfo
            as_aux_lemma =>
              have kn := ls_next _ hG8
              rw [← HE8.out] at kn
              go_wp2_with fail
              refine kn.mono ?_
              rintro e w9 ⟨rfl, rfl⟩
              clear kn
              go_wp2_with fail
              go_loopw [15] (fun n wz => ∃ m : Nat, m ≤ rs.length ∧ n = .int .i64 m ∧ Lgs M wz lb sb bm gs seg fs F8 ∧ All M wz (.slice ca rs.length cc) rs ∧ Below W.heap.size W wz) (fun n _ => rs.length - (intOf n).toNat)
              case atStart => exact ⟨0, by omega, rfl, hG8, hA8, hB8⟩
              case round =>
                obtain ⟨m, hm, rfl, hGz, hAz, hBz⟩ := hrel
                by_cases hml : m < rs.length
                · have dm : decide ((m : Int) < (rs.length : Int)) = true := by simp; omega
                  have hmi : (m : Int) < (rs.length : Int) := by omega
                  obtain ⟨r, hr⟩ : ∃ r, rs[m]? = some r := ⟨_, List.getElem?_eq_getElem hml⟩
                  by_cases hlow : m < fs
                  · have kr := ls_read_low wr hGz (m : Int) (by omega)
                    have dg : decide ((m : Int) ≥ (fs : Int)) = false := by simp; omega
                    have dg' : decide (m ≥ fs) = false := by simp; omega
                    have dg'' : decide (fs ≤ m) = false := by simp; omega
                    clear hr
                    go_wp2_with fail
                    refine kr.mono ?_
                    rintro e w9 ⟨rfl, hB9⟩
                    have hGz9 := hGz.keep (below_grown hB9)
                    have hAz9 := hAz.kept (hGz.kpt0 (below_grown hB9))
                    have hBz9 : Below W.heap.size W w9 := hBz.trans (below_own (below_grown hB9) hBz.size (by simp))
                    haveI := lat_nonempty w9
                    have kf := fun p : Lat w9 => lat_first hGz9 p
                    go_wp2_with fail
                    refine wp_region_lat (by kernel_rfl) (by kernel_rfl) ?_
                    repeat (go_big_quiet_step (fail))
                    go_big_quiet_step ((go_at_call 14; exact kf _))
                    repeat (go_big_quiet_step (fail))
                    refine wpQuiet_nil ?_
                    intro _ hw'
                    obtain ⟨p, hw''⟩ := hw'
                    subst hw''
                    have hgp := below_grown p.h
                    have hGzd := hGz9.keep hgp
                    have hAzd := hAz9.kept (hGz9.kpt0 hgp)
                    have hBzd : Below W.heap.size W p.W := hBz9.trans (below_own hgp hBz9.size (by simp))
                    clear kf
                    go_wp2
                    go_roundw
                    case rel => exact ⟨m + 1, by omega, by go_num, hGzd, hAzd, hBzd⟩
                    case measure => simp [intOf]; omega
                  · have hE9 : Hid ((m : Int) = ((fs + (m - fs) : Nat) : Int)) := by show _ = _; omega
                    have hfr : gs.flatten[m - fs]? = some r := by
                      rw [HX8.out.2.1, List.getElem?_drop, ← hr]; congr 1; omega
                    have kr := ls_read wr hGz (m - fs) r hfr (m : Int) hE9
                    have dg : decide ((m : Int) ≥ (fs : Int)) = true := by simp; omega
                    have dg' : decide (m ≥ fs) = true := by simp; omega
                    have dg'' : decide (fs ≤ m) = true := by simp; omega
                    have HR : Hid (rs[m]? = some r) := hr
                    clear hr hfr
                    go_wp2_with fail
                    refine kr.mono ?_
                    rintro e w9 ⟨v9, rfl, hb9, hB9⟩
                    have hGz9 := hGz.keep (below_grown hB9)
                    have hAz9 := hAz.kept (hGz.kpt0 (below_grown hB9))
                    have hBz9 : Below W.heap.size W w9 := hBz.trans (below_own (below_grown hB9) hBz.size (by simp))
                    haveI := lat_nonempty w9
                    have kf := fun p : Lat w9 => lat_first hGz9 p
                    obtain ⟨g, v, eca, hcv, hbv⟩ := hAz9.cell HR.out
                    obtain ⟨Z, HZ⟩ : ∃ Z, Hid (Z = strOfNums r) := ⟨_, rfl⟩
                    have kc := lat_cell hcv
                    have cv9 := fun p : Lat w9 => lat_conv (A := Z) hb9.1 HZ p
                    have cvv := fun p : Lat w9 => lat_conv (A := Z) hbv HZ p
                    subst eca
                    go_wp2_with fail
                    refine wp_region_lat (by kernel_rfl) (by kernel_rfl) ?_
                    repeat (go_big_quiet_step (fail))
                    go_big_quiet_step ((go_at_call 14; exact kf _))
                    repeat (go_big_quiet_step (fail))
                    refine wpQuiet_nil ?_
                    intro _ hw'
                    obtain ⟨p, hw''⟩ := hw'
                    subst hw''
                    have hgp := below_grown p.h
                    have hGzd := hGz9.keep hgp
                    have hAzd := hAz9.kept (hGz9.kpt0 hgp)
                    have hBzd : Below W.heap.size W p.W := hBz9.trans (below_own hgp hBz9.size (by simp))
                    clear kf kc cv9 cvv
                    go_wp2
                    go_roundw
                    case rel => exact ⟨m + 1, by omega, by go_num, hGzd, hAzd, hBzd⟩
                    case measure => simp [intOf]; omega
                · obtain rfl : m = rs.length := by omega
                  have dm : decide ((rs.length : Int) < (rs.length : Int)) = false := by simp
                  go_wp2
                  go_roundw
                  case rel => exact ⟨j + 1, sb, bm, lb, M, gs, seg, fs, F8, ca, cc, rs, by omega, rfl, rfl, rfl, by go_num, hGz, hAz, HX8, HE8.out, hj8, hBz⟩
                  case measure => simp [intOf]; omega
          · have hd2 : (y.kd == 2) = false := beq_eq_false_iff_ne.2 hk2
            clear hk2
            by_cases hk3 : y.kd = 3
            · have hd3 : (y.kd == 3) = true := beq_iff_eq.2 hk3
              clear hk3
              obtain ⟨N, hN⟩ : ∃ N : Int, ((fs + (cs gs).sum : Nat) : Int) = N := ⟨_, rfl⟩
              have htp := hGA.top
              have hFl := hGA.F_le
              have hGd := hGA.keep (grown_drew w4)
              have hAd := hAA.kept (hGA.kpt0 (grown_drew w4))
              have hBd : Below W.heap.size W w4.drew := hBA.trans (below_own (grown_drew w4) hBA.size (by simp))
              have kN := ls_next w4.drew hGd
              rw [hN] at kN
              have hfN : 0 ≤ f ∧ f ≤ N ∧ N ≤ 1000 := by have := HF.out; omega
              clear hN
              have hws : IntKind.i64.wrap (N - f) = N - f := by rw [IntKind.wrap_i64]; omega
              have hw1 : IntKind.i64.wrap (N - f + 1) = N - f + 1 := by rw [IntKind.wrap_i64]; omega
              go_wp2_with fail
              go_region_held3 (fun w' => w'.cell? ⟨wr.heap.size, 1, none⟩ = some (.int .i64 y.s))
                (first
                  | go_keep
                  | assumption)
                (first
                  | (go_at_call 16
                     refine kN.mono ?_
                     rintro e w6 ⟨rfl, rfl⟩)
                  | (go_at_call 15
                     refine (pick_any y.s (N - f + 1) hys.1 hys.2 (by omega) (by omega) _).mono ?_
                     rintro e w6 ⟨k, rfl, hk0, hk1, rfl⟩
                     have hwk : IntKind.i64.wrap (f + k) = f + k := by rw [IntKind.wrap_i64]; omega))
              all_goals
                obtain ⟨x, hx⟩ : ∃ x, f + k = x := ⟨_, rfl⟩
                have hxf : f ≤ x := by omega
                rw [hx]
                clear hx hwk
                by_cases hxF : x ≤ (F : Int)
                · have dF : decide (x ≤ (F : Int)) = true := by simpa using hxF
                  go_wp2_with fail
                  refine (ls_truncate _ hGd x (by rw [HF.out]; exact hxf) hxF).mono ?_
                  rintro e w8 ⟨rfl, ⟨gs8, seg8, fs8, hG8, hN8, hfs8, hx8, hfl8, hsum8⟩, hK8⟩
                  have hA8 := hAd.kept hK8
                  have HE8 : Hid (rs.length = fs8 + (cs gs8).sum) := by show _ = _; have := HE.out; omega
                  have hj8 : rs.length ≤ j + 1 := by omega
                  have hB8 : Below W.heap.size W w8 := hBd.trans (hK8.below HX.out.2.2.1)
                  have HX8 : Hid (Nx W M gs8 fs8 (.slice ca rs.length cc) rs) := by
                    refine ⟨hN8 HX.out.1, ?_, HX.out.2.2.1, HX.out.2.2.2⟩
                    rw [hfl8, HX.out.2.1, List.drop_drop]; congr 1; omega
                  have kf1 := ls_forced w8 hG8
                  have kf2 := ls_first w8 hG8
                  have g1 : decide ((fs8 : Int) > x) = false := by simp; omega
                  have g2 : decide ((fs8 : Int) < f) = false := by have := HF.out; simp; omega
                  clear hN8 hfl8 hGd hAd
                  go_wp2_with fail
                  refine kf1.mono ?_
                  rintro e w9 ⟨rfl, rfl⟩
                  go_wp2_with fail
                  refine kf2.mono ?_
                  rintro e w9 ⟨rfl, rfl⟩
                  go_wp2_with fail
                  refine kf2.mono ?_
                  rintro e w9 ⟨rfl, rfl⟩
                  clear kf1 kf2
                  as_aux_lemma =>
                    have kn := ls_next _ hG8
                    rw [← HE8.out] at kn
                    go_wp2_with fail
                    refine kn.mono ?_
                    rintro e w9 ⟨rfl, rfl⟩
                    clear kn
                    go_wp2_with fail
                    go_loopw [15] (fun n wz => ∃ m : Nat, m ≤ rs.length ∧ n = .int .i64 m ∧ Lgs M wz lb sb bm gs8 seg8 fs8 F ∧ All M wz (.slice ca rs.length cc) rs ∧ Below W.heap.size W wz) (fun n _ => rs.length - (intOf n).toNat)
                    case atStart => exact ⟨0, by omega, rfl, hG8, hA8, hB8⟩
                    case round =>
                      obtain ⟨m, hm, rfl, hGz, hAz, hBz⟩ := hrel
                      by_cases hml : m < rs.length
                      · have dm : decide ((m : Int) < (rs.length : Int)) = true := by simp; omega
                        have hmi : (m : Int) < (rs.length : Int) := by omega
                        obtain ⟨r, hr⟩ : ∃ r, rs[m]? = some r := ⟨_, List.getElem?_eq_getElem hml⟩
                        by_cases hlow : m < fs8
                        · have kr := ls_read_low wr hGz (m : Int) (by omega)
                          have dg : decide ((m : Int) ≥ (fs8 : Int)) = false := by simp; omega
                          have dg' : decide (m ≥ fs8) = false := by simp; omega
                          have dg'' : decide (fs8 ≤ m) = false := by simp; omega
                          clear hr
                          go_wp2_with fail
                          refine kr.mono ?_
                          rintro e w9 ⟨rfl, hB9⟩
                          have hGz9 := hGz.keep (below_grown hB9)
                          have hAz9 := hAz.kept (hGz.kpt0 (below_grown hB9))
                          have hBz9 : Below W.heap.size W w9 := hBz.trans (below_own (below_grown hB9) hBz.size (by simp))
                          haveI := lat_nonempty w9
                          have kf := fun p : Lat w9 => lat_first hGz9 p
                          go_wp2_with fail
                          refine wp_region_lat (by kernel_rfl) (by kernel_rfl) ?_
                          repeat (go_big_quiet_step (fail))
                          go_big_quiet_step ((go_at_call 14; exact kf _))
                          repeat (go_big_quiet_step (fail))
                          refine wpQuiet_nil ?_
                          intro _ hw'
                          obtain ⟨p, hw''⟩ := hw'
                          subst hw''
                          have hgp := below_grown p.h
                          have hGzd := hGz9.keep hgp
                          have hAzd := hAz9.kept (hGz9.kpt0 hgp)
                          have hBzd : Below W.heap.size W p.W := hBz9.trans (below_own hgp hBz9.size (by simp))
                          clear kf
                          go_wp2
                          go_roundw
                          case rel => exact ⟨m + 1, by omega, by go_num, hGzd, hAzd, hBzd⟩
                          case measure => simp [intOf]; omega
                        · have hE9 : Hid ((m : Int) = ((fs8 + (m - fs8) : Nat) : Int)) := by show _ = _; omega
                          have hfr : gs8.flatten[m - fs8]? = some r := by
                            rw [HX8.out.2.1, List.getElem?_drop, ← hr]; congr 1; omega
                          have kr := ls_read wr hGz (m - fs8) r hfr (m : Int) hE9
                          have dg : decide ((m : Int) ≥ (fs8 : Int)) = true := by simp; omega
                          have dg' : decide (m ≥ fs8) = true := by simp; omega
                          have dg'' : decide (fs8 ≤ m) = true := by simp; omega
                          have HR : Hid (rs[m]? = some r) := hr
                          clear hr hfr
                          go_wp2_with fail
                          refine kr.mono ?_
                          rintro e w9 ⟨v9, rfl, hb9, hB9⟩
                          have hGz9 := hGz.keep (below_grown hB9)
                          have hAz9 := hAz.kept (hGz.kpt0 (below_grown hB9))
                          have hBz9 : Below W.heap.size W w9 := hBz.trans (below_own (below_grown hB9) hBz.size (by simp))
                          haveI := lat_nonempty w9
                          have kf := fun p : Lat w9 => lat_first hGz9 p
                          obtain ⟨g, v, eca, hcv, hbv⟩ := hAz9.cell HR.out
                          obtain ⟨Z, HZ⟩ : ∃ Z, Hid (Z = strOfNums r) := ⟨_, rfl⟩
                          have kc := lat_cell hcv
                          have cv9 := fun p : Lat w9 => lat_conv (A := Z) hb9.1 HZ p
                          have cvv := fun p : Lat w9 => lat_conv (A := Z) hbv HZ p
                          subst eca
                          go_wp2_with fail
                          refine wp_region_lat (by kernel_rfl) (by kernel_rfl) ?_
                          repeat (go_big_quiet_step (fail))
                          go_big_quiet_step ((go_at_call 14; exact kf _))
                          repeat (go_big_quiet_step (fail))
                          refine wpQuiet_nil ?_
                          intro _ hw'
                          obtain ⟨p, hw''⟩ := hw'
                          subst hw''
                          have hgp := below_grown p.h
                          have hGzd := hGz9.keep hgp
                          have hAzd := hAz9.kept (hGz9.kpt0 hgp)
                          have hBzd : Below W.heap.size W p.W := hBz9.trans (below_own hgp hBz9.size (by simp))
                          clear kf kc cv9 cvv
                          go_wp2
                          go_roundw
                          case rel => exact ⟨m + 1, by omega, by go_num, hGzd, hAzd, hBzd⟩
                          case measure => simp [intOf]; omega
                      · obtain rfl : m = rs.length := by omega
                        have dm : decide ((rs.length : Int) < (rs.length : Int)) = false := by simp
                        go_wp2
                        go_roundw
                        case rel => exact ⟨j + 1, sb, bm, lb, M, gs8, seg8, fs8, F, ca, cc, rs, by omega, rfl, rfl, rfl, by go_num, hGz, hAz, HX8, HE8.out, hj8, hBz⟩
                        case measure => simp [intOf]; omega
                · have dF : decide (x ≤ (F : Int)) = false := by simpa using hxF
                  go_wp2_with fail
                  refine (ls_truncate_bad _ hGd x (by rw [HF.out]; exact hxf) (by omega)).mono ?_
                  rintro e w7 ⟨rfl, rfl⟩
                  have HX8 := HX
                  have HE8 := HE
                  have hj8 : rs.length ≤ j + 1 := by omega
                  have kf1 := ls_forced _ hGd
                  have kf2 := ls_first _ hGd
                  rw [HF.out] at kf2
                  have g1 : decide (f > x) = false := by simp; omega
                  obtain ⟨w8, hw8⟩ : ∃ w8, w4.drew = w8 := ⟨_, rfl⟩
                  have hG8 := hGd
                  have hA8 := hAd
                  have hB8 := hBd
                  rw [hw8] at hG8 hA8 hB8 kf1 kf2
                  rw [hw8]
                  clear hGd hAd hBd kN
                  go_wp2_with fail
                  refine kf1.mono ?_
                  rintro e w9 ⟨rfl, rfl⟩
                  go_wp2_with fail
                  refine kf2.mono ?_
                  rintro e w9 ⟨rfl, rfl⟩
                  go_wp2_with fail
                  refine kf2.mono ?_
                  rintro e w9 ⟨rfl, rfl⟩
                  clear kf1 kf2
                  as_aux_lemma =>
                    have kn := ls_next _ hG8
                    rw [← HE8.out] at kn
                    go_wp2_with fail
                    refine kn.mono ?_
                    rintro e w9 ⟨rfl, rfl⟩
                    clear kn
                    go_wp2_with fail
                    go_loopw [15] (fun n wz => ∃ m : Nat, m ≤ rs.length ∧ n = .int .i64 m ∧ Lgs M wz lb sb bm gs seg fs F ∧ All M wz (.slice ca rs.length cc) rs ∧ Below W.heap.size W wz) (fun n _ => rs.length - (intOf n).toNat)
                    case atStart => exact ⟨0, by omega, rfl, hG8, hA8, hB8⟩
                    case round =>
                      obtain ⟨m, hm, rfl, hGz, hAz, hBz⟩ := hrel
                      by_cases hml : m < rs.length
                      · have dm : decide ((m : Int) < (rs.length : Int)) = true := by simp; omega
                        have hmi : (m : Int) < (rs.length : Int) := by omega
                        obtain ⟨r, hr⟩ : ∃ r, rs[m]? = some r := ⟨_, List.getElem?_eq_getElem hml⟩
                        by_cases hlow : m < fs
                        · have kr := ls_read_low wr hGz (m : Int) (by omega)
                          have dg : decide ((m : Int) ≥ (fs : Int)) = false := by simp; omega
                          have dg' : decide (m ≥ fs) = false := by simp; omega
                          have dg'' : decide (fs ≤ m) = false := by simp; omega
                          clear hr
                          go_wp2_with fail
                          refine kr.mono ?_
                          rintro e w9 ⟨rfl, hB9⟩
                          have hGz9 := hGz.keep (below_grown hB9)
                          have hAz9 := hAz.kept (hGz.kpt0 (below_grown hB9))
                          have hBz9 : Below W.heap.size W w9 := hBz.trans (below_own (below_grown hB9) hBz.size (by simp))
                          haveI := lat_nonempty w9
                          have kf := fun p : Lat w9 => lat_first hGz9 p
                          go_wp2_with fail
                          refine wp_region_lat (by kernel_rfl) (by kernel_rfl) ?_
                          repeat (go_big_quiet_step (fail))
                          go_big_quiet_step ((go_at_call 14; exact kf _))
                          repeat (go_big_quiet_step (fail))
                          refine wpQuiet_nil ?_
                          intro _ hw'
                          obtain ⟨p, hw''⟩ := hw'
                          subst hw''
                          have hgp := below_grown p.h
                          have hGzd := hGz9.keep hgp
                          have hAzd := hAz9.kept (hGz9.kpt0 hgp)
                          have hBzd : Below W.heap.size W p.W := hBz9.trans (below_own hgp hBz9.size (by simp))
                          clear kf
                          go_wp2
                          go_roundw
                          case rel => exact ⟨m + 1, by omega, by go_num, hGzd, hAzd, hBzd⟩
                          case measure => simp [intOf]; omega
                        · have hE9 : Hid ((m : Int) = ((fs + (m - fs) : Nat) : Int)) := by show _ = _; omega
                          have hfr : gs.flatten[m - fs]? = some r := by
                            rw [HX8.out.2.1, List.getElem?_drop, ← hr]; congr 1; omega
                          have kr := ls_read wr hGz (m - fs) r hfr (m : Int) hE9
                          have dg : decide ((m : Int) ≥ (fs : Int)) = true := by simp; omega
                          have dg' : decide (m ≥ fs) = true := by simp; omega
                          have dg'' : decide (fs ≤ m) = true := by simp; omega
                          have HR : Hid (rs[m]? = some r) := hr
                          clear hr hfr
                          go_wp2_with fail
                          refine kr.mono ?_
                          rintro e w9 ⟨v9, rfl, hb9, hB9⟩
                          have hGz9 := hGz.keep (below_grown hB9)
                          have hAz9 := hAz.kept (hGz.kpt0 (below_grown hB9))
                          have hBz9 : Below W.heap.size W w9 := hBz.trans (below_own (below_grown hB9) hBz.size (by simp))
                          haveI := lat_nonempty w9
                          have kf := fun p : Lat w9 => lat_first hGz9 p
                          obtain ⟨g, v, eca, hcv, hbv⟩ := hAz9.cell HR.out
                          obtain ⟨Z, HZ⟩ : ∃ Z, Hid (Z = strOfNums r) := ⟨_, rfl⟩
                          have kc := lat_cell hcv
                          have cv9 := fun p : Lat w9 => lat_conv (A := Z) hb9.1 HZ p
                          have cvv := fun p : Lat w9 => lat_conv (A := Z) hbv HZ p
                          subst eca
                          go_wp2_with fail
                          refine wp_region_lat (by kernel_rfl) (by kernel_rfl) ?_
                          repeat (go_big_quiet_step (fail))
                          go_big_quiet_step ((go_at_call 14; exact kf _))
                          repeat (go_big_quiet_step (fail))
                          refine wpQuiet_nil ?_
                          intro _ hw'
                          obtain ⟨p, hw''⟩ := hw'
                          subst hw''
                          have hgp := below_grown p.h
                          have hGzd := hGz9.keep hgp
                          have hAzd := hAz9.kept (hGz9.kpt0 hgp)
                          have hBzd : Below W.heap.size W p.W := hBz9.trans (below_own hgp hBz9.size (by simp))
                          clear kf kc cv9 cvv
                          go_wp2
                          go_roundw
                          case rel => exact ⟨m + 1, by omega, by go_num, hGzd, hAzd, hBzd⟩
                          case measure => simp [intOf]; omega
                      · obtain rfl : m = rs.length := by omega
                        have dm : decide ((rs.length : Int) < (rs.length : Int)) = false := by simp
                        go_wp2
                        go_roundw
                        case rel => exact ⟨j + 1, sb, bm, lb, M, gs, seg, fs, F, ca, cc, rs, by omega, rfl, rfl, rfl, by go_num, hGz, hAz, HX8, HE8.out, hj8, hBz⟩
                        case measure => simp [intOf]; omega
            · have hd3 : (y.kd == 3) = false := beq_eq_false_iff_ne.2 hk3
              clear hk3
              by_cases hk5 : y.kd = 5
              · have hd5 : (y.kd == 5) = true := beq_iff_eq.2 hk5
                clear hk5
                go_wp2_with fail
                refine (ls_force _ hGA).mono ?_
                rintro e w5 ⟨rfl, hG5, hK5⟩
                have hA5 := hAA.kept hK5
                have hB5 : Below W.heap.size W w5 := hBA.trans (hK5.below HX.out.2.2.1)
                have htp := hG5.top
                have hfl : fs + gs.flatten.length ≤ 1000 := by rw [← cs_sum]; exact htp
                have kp := ls_power w5 hG5 none 0 [] (ins_nil w5)
                simp only [List.length_nil] at kp
                go_wp2_with fail
                refine kp.mono ?_
                rintro e w6 ⟨sb2, bm2, l2, root2, bs2, gs0, rfl, hs2, hb2, hD2, hrt2, hq2, hsf2, hbs2, hok2, _, _, hfull, hg6⟩
                obtain rfl := hfull trivial HX.out.1
                have hOp := open_any w6 (fun k => k < w5.heap.size) (fun k hk => Nat.lt_of_lt_of_le hk hg6.size) (by omega) (by omega) (hD2.mono (fun k hk => ⟨hk.2.1, hk.2.2, fun e => by have := hk.1; omega⟩) (fun e => e.1 rfl) (fun e => e.2.1 rfl)) seg fs hG5.le hrt2 bs2 hq2 hsf2 gs0 hbs2 hok2 hfl
                clear hD2 hrt2 hq2 hsf2 hbs2 hok2 hfull kp
                go_wp2_with fail
                refine hOp.mono ?_
                rintro e w7 ⟨lb3, gs3, rfl, hlb3, _, _, _, hK7⟩
                have hB57 : Below w5.heap.size w5 w7 := ((Kpt.of (M := fun k => k < w5.heap.size) hg6 (fun k hk => hk) (by simp)).trans hK7).below fun k hk => hk
                have hG7 := hG5.keep (below_grown hB57)
                have hA7 := hA5.kept (hG5.kpt0 (below_grown hB57))
                have hB7 : Below W.heap.size W w7 := hB5.trans (below_own (below_grown hB57) hB5.size (by simp))
                clear hOp hK7
                have kp := ls_power w7 hG7 none 0 [] (ins_nil w7)
                simp only [List.length_nil] at kp
                go_wp2_with fail
                refine kp.mono ?_
                rintro e w9 ⟨sb8, bm8, l2, root2, bs2, gs1, rfl, hs2, hb2, hD2, hrt2, hq2, hsf2, hbs2, hok2, _, _, hfull, hg9⟩
                obtain rfl := hfull trivial HX.out.1
                have hOp := open_any w9 (fun k => k < w7.heap.size) (fun k hk => Nat.lt_of_lt_of_le hk hg9.size) (by omega) (by omega) (hD2.mono (fun k hk => ⟨hk.2.1, hk.2.2, fun e => by have := hk.1; omega⟩) (fun e => e.1 rfl) (fun e => e.2.1 rfl)) seg fs hG5.le hrt2 bs2 hq2 hsf2 _ hbs2 hok2 hfl
                clear hD2 hrt2 hq2 hsf2 hbs2 hok2 hfull kp
                go_wp2_with fail
                refine hOp.mono ?_
                rintro e w8 ⟨lb8, gs4, rfl, hlb8, hG8, _, hg4, hK8⟩
                obtain rfl := hg4 HX.out.1
                have hB78 : Below w7.heap.size w7 w8 := ((Kpt.of (M := fun k => k < w7.heap.size) hg9 (fun k hk => hk) (by simp)).trans hK8).below fun k hk => hk
                have hA78 := hA7.kept (hG7.kpt0 (below_grown hB78))
                have HM7 := hG7.mlt
                have hA8 := hA78.wider (M' := fun k => k < w7.heap.size) HM7
                have hB8 : Below W.heap.size W w8 := hB7.trans (below_own (below_grown hB78) hB7.size (by simp))
                have HX8 : Hid (Nx W (fun k => k < w7.heap.size) gs4 fs (.slice ca rs.length cc) rs) := ⟨HX.out.1, HX.out.2.1, fun k hk => HM7 k (HX.out.2.2.1 k hk), HX.out.2.2.2⟩
                have HE8 := HE
                have hj8 : rs.length ≤ j + 1 := by omega
                obtain ⟨M8, hM8⟩ : ∃ M8 : Nat → Prop, (fun k => k < w7.heap.size) = M8 := ⟨_, rfl⟩
                obtain ⟨F8, hF8⟩ : ∃ F8, fs + (cs gs4).sum = F8 := ⟨_, rfl⟩
                rw [hM8] at hG8 hA8 HX8
                rw [hF8] at hG8
                clear hM8 hF8 HM7 hOp hK8 hA78 hA7 hG7 hA5 hG5 hg4
                as_aux_lemma =>
                  have kn := ls_next _ hG8
                  rw [← HE8.out] at kn
                  go_wp2_with fail
                  refine kn.mono ?_
                  rintro e w9 ⟨rfl, rfl⟩
                  clear kn
                  go_wp2_with fail
                  go_loopw [15] (fun n wz => ∃ m : Nat, m ≤ rs.length ∧ n = .int .i64 m ∧ Lgs M8 wz lb8 sb8 bm8 gs4 seg fs F8 ∧ All M8 wz (.slice ca rs.length cc) rs ∧ Below W.heap.size W wz) (fun n _ => rs.length - (intOf n).toNat)
                  case atStart => exact ⟨0, by omega, rfl, hG8, hA8, hB8⟩
                  case round =>
                    obtain ⟨m, hm, rfl, hGz, hAz, hBz⟩ := hrel
                    by_cases hml : m < rs.length
                    · have dm : decide ((m : Int) < (rs.length : Int)) = true := by simp; omega
                      have hmi : (m : Int) < (rs.length : Int) := by omega
                      obtain ⟨r, hr⟩ : ∃ r, rs[m]? = some r := ⟨_, List.getElem?_eq_getElem hml⟩
                      by_cases hlow : m < fs
                      · have kr := ls_read_low wr hGz (m : Int) (by omega)
                        have dg : decide ((m : Int) ≥ (fs : Int)) = false := by simp; omega
                        have dg' : decide (m ≥ fs) = false := by simp; omega
                        have dg'' : decide (fs ≤ m) = false := by simp; omega
                        clear hr
                        go_wp2_with fail
                        refine kr.mono ?_
                        rintro e w9 ⟨rfl, hB9⟩
                        have hGz9 := hGz.keep (below_grown hB9)
                        have hAz9 := hAz.kept (hGz.kpt0 (below_grown hB9))
                        have hBz9 : Below W.heap.size W w9 := hBz.trans (below_own (below_grown hB9) hBz.size (by simp))
                        haveI := lat_nonempty w9
                        have kf := fun p : Lat w9 => lat_first hGz9 p
                        go_wp2_with fail
                        refine wp_region_lat (by kernel_rfl) (by kernel_rfl) ?_
                        repeat (go_big_quiet_step (fail))
                        go_big_quiet_step ((go_at_call 14; exact kf _))
                        repeat (go_big_quiet_step (fail))
                        refine wpQuiet_nil ?_
                        intro _ hw'
                        obtain ⟨p, hw''⟩ := hw'
                        subst hw''
                        have hgp := below_grown p.h
                        have hGzd := hGz9.keep hgp
                        have hAzd := hAz9.kept (hGz9.kpt0 hgp)
                        have hBzd : Below W.heap.size W p.W := hBz9.trans (below_own hgp hBz9.size (by simp))
                        clear kf
                        go_wp2
                        go_roundw
                        case rel => exact ⟨m + 1, by omega, by go_num, hGzd, hAzd, hBzd⟩
                        case measure => simp [intOf]; omega
                      · have hE9 : Hid ((m : Int) = ((fs + (m - fs) : Nat) : Int)) := by show _ = _; omega
                        have hfr : gs4.flatten[m - fs]? = some r := by
                          rw [HX8.out.2.1, List.getElem?_drop, ← hr]; congr 1; omega
                        have kr := ls_read wr hGz (m - fs) r hfr (m : Int) hE9
                        have dg : decide ((m : Int) ≥ (fs : Int)) = true := by simp; omega
                        have dg' : decide (m ≥ fs) = true := by simp; omega
                        have dg'' : decide (fs ≤ m) = true := by simp; omega
                        have HR : Hid (rs[m]? = some r) := hr
                        clear hr hfr
                        go_wp2_with fail
                        refine kr.mono ?_
                        rintro e w9 ⟨v9, rfl, hb9, hB9⟩
                        have hGz9 := hGz.keep (below_grown hB9)
                        have hAz9 := hAz.kept (hGz.kpt0 (below_grown hB9))
                        have hBz9 : Below W.heap.size W w9 := hBz.trans (below_own (below_grown hB9) hBz.size (by simp))
                        haveI := lat_nonempty w9
                        have kf := fun p : Lat w9 => lat_first hGz9 p
                        obtain ⟨g, v, eca, hcv, hbv⟩ := hAz9.cell HR.out
                        obtain ⟨Z, HZ⟩ : ∃ Z, Hid (Z = strOfNums r) := ⟨_, rfl⟩
                        have kc := lat_cell hcv
                        have cv9 := fun p : Lat w9 => lat_conv (A := Z) hb9.1 HZ p
                        have cvv := fun p : Lat w9 => lat_conv (A := Z) hbv HZ p
                        subst eca
                        go_wp2_with fail
                        refine wp_region_lat (by kernel_rfl) (by kernel_rfl) ?_
                        repeat (go_big_quiet_step (fail))
                        go_big_quiet_step ((go_at_call 14; exact kf _))
                        repeat (go_big_quiet_step (fail))
                        refine wpQuiet_nil ?_
                        intro _ hw'
                        obtain ⟨p, hw''⟩ := hw'
                        subst hw''
                        have hgp := below_grown p.h
                        have hGzd := hGz9.keep hgp
                        have hAzd := hAz9.kept (hGz9.kpt0 hgp)
                        have hBzd : Below W.heap.size W p.W := hBz9.trans (below_own hgp hBz9.size (by simp))
                        clear kf kc cv9 cvv
                        go_wp2
                        go_roundw
                        case rel => exact ⟨m + 1, by omega, by go_num, hGzd, hAzd, hBzd⟩
                        case measure => simp [intOf]; omega
                    · obtain rfl : m = rs.length := by omega
                      have dm : decide ((rs.length : Int) < (rs.length : Int)) = false := by simp
                      go_wp2
                      go_roundw
                      case rel => exact ⟨j + 1, sb8, bm8, lb8, M8, gs4, seg, fs, F8, ca, cc, rs, by omega, rfl, rfl, rfl, by go_num, hGz, hAz, HX8, HE8.out, hj8, hBz⟩
                      case measure => simp [intOf]; omega
              · have hd5 : (y.kd == 5) = false := beq_eq_false_iff_ne.2 hk5
                clear hk5
                obtain ⟨w8, hw8⟩ : ∃ w8, w4 = w8 := ⟨_, rfl⟩
                have hG8 := hGA
                have hA8 := hAA
                have hB8 := hBA
                have HX8 := HX
                have HE8 := HE
                have hj8 : rs.length ≤ j + 1 := by omega
                subst hw8
                as_aux_lemma =>
                  have kn := ls_next _ hG8
                  rw [← HE8.out] at kn
                  go_wp2_with fail
                  refine kn.mono ?_
                  rintro e w9 ⟨rfl, rfl⟩
                  clear kn
                  go_wp2_with fail
                  go_loopw [15] (fun n wz => ∃ m : Nat, m ≤ rs.length ∧ n = .int .i64 m ∧ Lgs M wz lb sb bm gs seg fs F ∧ All M wz (.slice ca rs.length cc) rs ∧ Below W.heap.size W wz) (fun n _ => rs.length - (intOf n).toNat)
                  case atStart => exact ⟨0, by omega, rfl, hG8, hA8, hB8⟩
                  case round =>
                    obtain ⟨m, hm, rfl, hGz, hAz, hBz⟩ := hrel
                    by_cases hml : m < rs.length
                    · have dm : decide ((m : Int) < (rs.length : Int)) = true := by simp; omega
                      have hmi : (m : Int) < (rs.length : Int) := by omega
                      obtain ⟨r, hr⟩ : ∃ r, rs[m]? = some r := ⟨_, List.getElem?_eq_getElem hml⟩
                      by_cases hlow : m < fs
                      · have kr := ls_read_low wr hGz (m : Int) (by omega)
                        have dg : decide ((m : Int) ≥ (fs : Int)) = false := by simp; omega
                        have dg' : decide (m ≥ fs) = false := by simp; omega
                        have dg'' : decide (fs ≤ m) = false := by simp; omega
                        clear hr
                        go_wp2_with fail
                        refine kr.mono ?_
                        rintro e w9 ⟨rfl, hB9⟩
                        have hGz9 := hGz.keep (below_grown hB9)
                        have hAz9 := hAz.kept (hGz.kpt0 (below_grown hB9))
                        have hBz9 : Below W.heap.size W w9 := hBz.trans (below_own (below_grown hB9) hBz.size (by simp))
                        haveI := lat_nonempty w9
                        have kf := fun p : Lat w9 => lat_first hGz9 p
                        go_wp2_with fail
                        refine wp_region_lat (by kernel_rfl) (by kernel_rfl) ?_
                        repeat (go_big_quiet_step (fail))
                        go_big_quiet_step ((go_at_call 14; exact kf _))
                        repeat (go_big_quiet_step (fail))
                        refine wpQuiet_nil ?_
                        intro _ hw'
                        obtain ⟨p, hw''⟩ := hw'
                        subst hw''
                        have hgp := below_grown p.h
                        have hGzd := hGz9.keep hgp
                        have hAzd := hAz9.kept (hGz9.kpt0 hgp)
                        have hBzd : Below W.heap.size W p.W := hBz9.trans (below_own hgp hBz9.size (by simp))
                        clear kf
                        go_wp2
                        go_roundw
                        case rel => exact ⟨m + 1, by omega, by go_num, hGzd, hAzd, hBzd⟩
                        case measure => simp [intOf]; omega
                      · have hE9 : Hid ((m : Int) = ((fs + (m - fs) : Nat) : Int)) := by show _ = _; omega
                        have hfr : gs.flatten[m - fs]? = some r := by
                          rw [HX8.out.2.1, List.getElem?_drop, ← hr]; congr 1; omega
                        have kr := ls_read wr hGz (m - fs) r hfr (m : Int) hE9
                        have dg : decide ((m : Int) ≥ (fs : Int)) = true := by simp; omega
                        have dg' : decide (m ≥ fs) = true := by simp; omega
                        have dg'' : decide (fs ≤ m) = true := by simp; omega
                        have HR : Hid (rs[m]? = some r) := hr
                        clear hr hfr
                        go_wp2_with fail
                        refine kr.mono ?_
                        rintro e w9 ⟨v9, rfl, hb9, hB9⟩
                        have hGz9 := hGz.keep (below_grown hB9)
                        have hAz9 := hAz.kept (hGz.kpt0 (below_grown hB9))
                        have hBz9 : Below W.heap.size W w9 := hBz.trans (below_own (below_grown hB9) hBz.size (by simp))
                        haveI := lat_nonempty w9
                        have kf := fun p : Lat w9 => lat_first hGz9 p
                        obtain ⟨g, v, eca, hcv, hbv⟩ := hAz9.cell HR.out
                        obtain ⟨Z, HZ⟩ : ∃ Z, Hid (Z = strOfNums r) := ⟨_, rfl⟩
                        have kc := lat_cell hcv
                        have cv9 := fun p : Lat w9 => lat_conv (A := Z) hb9.1 HZ p
                        have cvv := fun p : Lat w9 => lat_conv (A := Z) hbv HZ p
                        subst eca
                        go_wp2_with fail
                        refine wp_region_lat (by kernel_rfl) (by kernel_rfl) ?_
                        repeat (go_big_quiet_step (fail))
                        go_big_quiet_step ((go_at_call 14; exact kf _))
                        repeat (go_big_quiet_step (fail))
                        refine wpQuiet_nil ?_
                        intro _ hw'
                        obtain ⟨p, hw''⟩ := hw'
                        subst hw''
                        have hgp := below_grown p.h
                        have hGzd := hGz9.keep hgp
                        have hAzd := hAz9.kept (hGz9.kpt0 hgp)
                        have hBzd : Below W.heap.size W p.W := hBz9.trans (below_own hgp hBz9.size (by simp))
                        clear kf kc cv9 cvv
                        go_wp2
                        go_roundw
                        case rel => exact ⟨m + 1, by omega, by go_num, hGzd, hAzd, hBzd⟩
                        case measure => simp [intOf]; omega
                    · obtain rfl : m = rs.length := by omega
                      have dm : decide ((rs.length : Int) < (rs.length : Int)) = false := by simp
                      go_wp2
                      go_roundw
                      case rel => exact ⟨j + 1, sb, bm, lb, M, gs, seg, fs, F, ca, cc, rs, by omega, rfl, rfl, rfl, by go_num, hGz, hAz, HX8, HE8.out, hj8, hBz⟩
                      case measure => simp [intOf]; omega
    · have hex : (decide ((j : Int) < (xs.length : Int)) = false ∧ decide (j < xs.length) = false) ∨ ((decide ((j : Int) < (xs.length : Int)) = true ∧ decide (j < xs.length) = true) ∧ decide ((j : Int) < 40) = false ∧ decide (j < 40) = false) := by
        by_cases h1 : j < xs.length
        · right; simp; omega
        · left; simp; omega
      clear hin h
      rcases hex with ⟨hd1, hd1'⟩ | ⟨⟨hd1, hd1'⟩, hd2, hd2'⟩
      all_goals
        go_wp2
        go_ret
        exact ⟨rfl, hBw⟩
end Go.Proofs.Ytgblekdllcngnaa
