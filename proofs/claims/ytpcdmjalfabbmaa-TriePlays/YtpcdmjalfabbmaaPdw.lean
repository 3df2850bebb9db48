/- pdqsort of bytes. -/
import Derived.Test.YtpcdmjalfabbmaaPdl
namespace Go.Proofs.Ytpcdmjalfabbmaa
open Go.RowKit Go.Shelf Go.IntWalk Go.Maps
set_option linter.unusedVariables false
set_option maxRecDepth 100000 in
set_option maxHeartbeats 8000000 in
theorem pdq_b (n : Nat) : ∀ (w : World) (base : Nat) (v : Value) (es : List UInt8) (a b l : Nat), Br w base v es → es.length ≤ 256 → a ≤ b → b ≤ es.length → b - a ≤ n → Low es a b → l ≤ 64 →
    Calls Try.prog 54 #[v, .int .i64 a, .int .i64 b, .int .i64 l] w fun r w' => r = .returned (.tuple #[]) ∧ ∃ es', Br w' base v es' ∧ Pm a b es es' ∧ Sd es' a b ∧ w.grownBy w' v.ownBlock := by
  induction n using Nat.strongRecOn with
  | _ n ih =>
  intro w base v es a b l h hl hab hb hn hlow hl64
  obtain ⟨ad, cap, rfl⟩ := h.shape
  have hst : Hid (Br w base (.slice ad es.length cap) es ∧ Pm a b es es ∧ Low es a b ∧ Fin es a b a b ∧ w.grownBy w (Value.slice ad es.length cap).ownBlock) := ⟨h, Pm.refl _ _ _, hlow, Fin.start _ _ _, (grown_refl w).but _⟩
  clear h hlow
  have hb6 : b ≤ 256 := by omega
  go_enter Try.func54, Try.ntmps54
  go_wp2_with fail
  go_loopw [1, 2, 3, 8, 9] (fun s1 s2 s3 s8 s9 wr => ∃ (c d l' : Nat) (fs : List UInt8) (wb wp : Bool), s1 = .int .i64 c ∧ s2 = .int .i64 d ∧ s3 = .int .i64 l' ∧ s8 = .bool wb ∧ s9 = .bool wp ∧ a ≤ c ∧ c ≤ d ∧ d ≤ b ∧ l' ≤ 64 ∧ Hid (Br wr base (.slice ad es.length cap) fs ∧ Pm a b es fs ∧ Low fs c d ∧ Fin fs a b c d ∧ w.grownBy wr (Value.slice ad es.length cap).ownBlock))
    (fun s1 s2 _ _ _ _ => (intOf s2 - intOf s1).toNat)
  case atStart => exact ⟨a, b, l, es, true, true, rfl, rfl, rfl, rfl, rfl, by omega, hab, by omega, hl64, hst⟩
  case round =>
    clear hst
    obtain ⟨c, d, l', fs, wb, wp, rfl, rfl, rfl, rfl, rfl, hac, hcd, hdb, hl', hst⟩ := hrel
    have hfl := hst.out.2.1.len
    have hcd' : ((d : Int) - c) = ((d - c : Nat) : Int) := by omega
    obtain ⟨k, hk⟩ : ∃ k, Hid (k = d - c) := ⟨_, ⟨rfl⟩⟩
    have hk' := hk.out
    rw [← hk'] at hcd'
    by_cases h12 : k ≤ 12
    · have hd12 : (k : Int) ≤ 12 := by omega
      have hc := isort_any wr hst.out.1 c d hcd (by omega) (by omega)
      replace hc : Hid _ := ⟨hc⟩
      clear hfl hk' h12
      go_wp2_with fail
      refine hc.out.mono ?_
      rintro r w1 ⟨rfl, gs, hB, hP, hS, hG⟩
      have hfin : Hid (Br w1 base (.slice ad es.length cap) gs ∧ Pm a b es gs ∧ Sd gs a b ∧ w.grownBy w1 (Value.slice ad es.length cap).ownBlock) := ⟨hB, hst.out.2.1.trans (hP.mono hac hdb), hst.out.2.2.2.1 gs hP hS, hst.out.2.2.2.2.trans hG⟩
      clear hc hB hP hS hG
      go_wp2
      refine bodyPost_ret (results_none rfl _ _ _) rfl ?_
      exact ⟨rfl, gs, hfin.out⟩
    · have hd12 : decide ((k : Int) ≤ 12) = false := by simp; omega
      have hd12' : decide (k ≤ 12) = false := by simp; omega
      by_cases hl0 : l' = 0
      · subst hl0
        have hc := heap_b wr hst.out.1 (by omega) c d (by omega) (by omega)
        replace hc : Hid _ := ⟨hc⟩
        clear hfl hk' h12
        go_wp2_with fail
        refine hc.out.mono ?_
        rintro r w1 ⟨rfl, gs, hB, hP, hS, hG⟩
        have hfin : Hid (Br w1 base (.slice ad es.length cap) gs ∧ Pm a b es gs ∧ Sd gs a b ∧ w.grownBy w1 (Value.slice ad es.length cap).ownBlock) := ⟨hB, hst.out.2.1.trans (hP.mono hac hdb), hst.out.2.2.2.1 gs hP hS, hst.out.2.2.2.2.trans hG⟩
        clear hc hB hP hS hG
        go_wp2
        refine bodyPost_ret (results_none rfl _ _ _) rfl ?_
        exact ⟨rfl, gs, hfin.out⟩
      · have hll : ((l' : Int) == 0) = false := by simp; omega
        have h13 : c + 12 < d := by omega
        have hb7 : d ≤ 256 ∧ c ≤ 256 ∧ k ≤ 256 ∧ d ≤ es.length ∧ c < es.length := by omega
        obtain ⟨l1, hl1⟩ : ∃ l1, Hid (l1 = l' - 1) := ⟨_, ⟨rfl⟩⟩
        have hl1' := hl1.out
        have e1 : (l' : Int) - 1 = (l1 : Nat) := by omega
        have hl1b : l1 ≤ 64 := by omega
        clear hfl hk' h12 hl1' hl0
        go_upto_if 35 with fail
        go_cut [3] from 19 to 133 (fun s wx => ∃ (l2 : Nat) (fs : List UInt8), s = .int .i64 l2 ∧ l2 ≤ 64 ∧ Hid (Br wx base (.slice ad es.length cap) fs ∧ Pm a b es fs ∧ Low fs c d ∧ Fin fs a b c d ∧ w.grownBy wx (Value.slice ad es.length cap).ownBlock))
        case first =>
          cases wb with
          | true =>
            go_wp2_with fail
            go_meet
            case rel => exact ⟨l', fs, rfl, hl', hst⟩
          | false =>
            have hc := break_any wr hst.out.1 (by rw [hst.out.2.1.len]; exact hl) c d h13 (by rw [hst.out.2.1.len]; exact hb7.2.2.2.1)
            replace hc : Hid _ := ⟨hc⟩
            go_wp2_with fail
            refine hc.out.mono ?_
            rintro r w1 ⟨rfl, gs, hB, hP, hG⟩
            have hst2 : Hid (Br w1 base (.slice ad es.length cap) gs ∧ Pm a b es gs ∧ Low gs c d ∧ Fin gs a b c d ∧ w.grownBy w1 (Value.slice ad es.length cap).ownBlock) := ⟨hB, hst.out.2.1.trans (hP.mono hac hdb), hst.out.2.2.1.pm hcd hP, hst.out.2.2.2.1.pm hP, hst.out.2.2.2.2.trans hG⟩
            clear hc hB hP hG hst
            go_wp2_with fail
            go_meet
            case rel => exact ⟨l1, gs, by first | rfl | simp, hl1b, hst2⟩
        case rest =>
          clear hst
          obtain ⟨l2, fs2, rfl, hl2, hst⟩ := hcut
          have hc := pivot_any wc hst.out.1 (by rw [hst.out.2.1.len]; exact hl) c d h13 (by rw [hst.out.2.1.len]; exact hb7.2.2.2.1)
          replace hc : Hid _ := ⟨hc⟩
          go_wp2_with fail
          refine hc.out.mono ?_
          rintro r w3 ⟨p, hint, rfl, hp, hh, hG3⟩
          have hst3 : Hid (Br w3 base (.slice ad es.length cap) fs2 ∧ Pm a b es fs2 ∧ Low fs2 c d ∧ Fin fs2 a b c d ∧ w.grownBy w3 (Value.slice ad es.length cap).ownBlock) := ⟨hst.out.1.keep0 hG3, hst.out.2.1, hst.out.2.2.1, hst.out.2.2.2.1, grown_add hst.out.2.2.2.2 hG3⟩
          clear hc hst hG3
          go_upto_if 50 with fail
          go_cut [11, 12] from 19 to 133 (fun s t wx => ∃ (p hint : Nat) (fs : List UInt8), s = .int .i64 p ∧ t = .int .i64 hint ∧ c ≤ p ∧ p < d ∧ hint ≤ 2 ∧ Hid (Br wx base (.slice ad es.length cap) fs ∧ Pm a b es fs ∧ Low fs c d ∧ Fin fs a b c d ∧ w.grownBy wx (Value.slice ad es.length cap).ownBlock))
          case first =>
            by_cases h2 : hint = 2
            · subst h2
              have hc := reverse_any w3 hst3.out.1 (by rw [hst3.out.2.1.len]; exact hl) c d hcd (by rw [hst3.out.2.1.len]; exact hb7.2.2.2.1)
              replace hc : Hid _ := ⟨hc⟩
              obtain ⟨p2, hp2⟩ : ∃ p2, Hid (p2 = (d - 1) - (p - c)) := ⟨_, ⟨rfl⟩⟩
              have hp2' := hp2.out
              have e2 : ((d : Int) - 1 - ((p : Int) - c)) = (p2 : Nat) := by omega
              have hp3 : c ≤ p2 ∧ p2 < d := by omega
              clear hp2'
              go_wp2_with fail
              refine hc.out.mono ?_
              rintro r w4 ⟨rfl, gs, hB, hP, hG⟩
              have hst4 : Hid (Br w4 base (.slice ad es.length cap) gs ∧ Pm a b es gs ∧ Low gs c d ∧ Fin gs a b c d ∧ w.grownBy w4 (Value.slice ad es.length cap).ownBlock) := ⟨hB, hst3.out.2.1.trans (hP.mono hac hdb), hst3.out.2.2.1.pm hcd hP, hst3.out.2.2.2.1.pm hP, hst3.out.2.2.2.2.trans hG⟩
              clear hc hB hP hG hst3
              go_wp2_with fail
              go_meet
              case rel => exact ⟨p2, 1, gs, by first | rfl | simp, by first | rfl | simp, hp3.1, hp3.2, by omega, hst4⟩
            · have h22 : ((hint : Int) == 2) = false := by simp; omega
              clear h2
              go_wp2_with fail
              go_meet
              case rel => exact ⟨p, hint, fs2, rfl, rfl, hp.1, hp.2, hh, hst3⟩
          case rest =>
            clear hst3 hp hh
            obtain ⟨p3, hint3, fs3, rfl, rfl, hp1, hp2, hh3, hst⟩ := hcut
            have hfl := hst.out.2.1.len
            go_upto_region 15 with fail
            go_cut [68] from 19 to 133 (fun s wx => ∃ tt : Bool, s = .bool tt ∧ Hid (Br wx base (.slice ad es.length cap) fs3 ∧ Pm a b es fs3 ∧ Low fs3 c d ∧ Fin fs3 a b c d ∧ w.grownBy wx (Value.slice ad es.length cap).ownBlock))
            case first =>
              have hno : wb = false ∨ (wb = true ∧ wp = false) ∨ (wb = true ∧ wp = true ∧ ((hint3 : Int) == 1) = false) ∨ (wb = true ∧ wp = true ∧ ((hint3 : Int) == 1) = true) := by
                cases wb <;> cases wp <;> cases h9 : ((hint3 : Int) == 1) <;> simp
              clear hfl
              rcases hno with rfl | ⟨rfl, rfl⟩ | ⟨rfl, rfl, h1⟩ | ⟨rfl, rfl, h1⟩
              all_goals
                go_wp2_with fail
                go_meet
                case rel => exact ⟨_, rfl, hst⟩
            case rest =>
            clear hst
            obtain ⟨tt, rfl, hst⟩ := hcut
            go_upto_if 68 with fail
            go_cut [] from 19 to 133 (fun wx => ∃ fs : List UInt8, Hid (Br wx base (.slice ad es.length cap) fs ∧ Pm a b es fs ∧ Low fs c d ∧ Fin fs a b c d ∧ w.grownBy wx (Value.slice ad es.length cap).ownBlock))
            case first =>
              cases tt with
              | true =>
                have hc := partial_b wc hst.out.1 (by omega) c d h13 (by omega) hst.out.2.2.1
                replace hc : Hid _ := ⟨hc⟩
                clear hfl
                go_wp2_with fail
                refine hc.out.mono ?_
                rintro r w4 ⟨dd, gs, rfl, hB, hP, hS, hG⟩
                cases dd with
                | true =>
                  have hfin : Hid (Br w4 base (.slice ad es.length cap) gs ∧ Pm a b es gs ∧ Sd gs a b ∧ w.grownBy w4 (Value.slice ad es.length cap).ownBlock) := ⟨hB, hst.out.2.1.trans (hP.mono hac hdb), hst.out.2.2.2.1 gs hP (hS rfl), hst.out.2.2.2.2.trans hG⟩
                  clear hc hB hP hS hG
                  go_wp2
                  refine bodyPost_ret (results_none rfl _ _ _) rfl ?_
                  exact ⟨rfl, gs, hfin.out⟩
                | false =>
                  have hst4 : Hid (Br w4 base (.slice ad es.length cap) gs ∧ Pm a b es gs ∧ Low gs c d ∧ Fin gs a b c d ∧ w.grownBy w4 (Value.slice ad es.length cap).ownBlock) := ⟨hB, hst.out.2.1.trans (hP.mono hac hdb), hst.out.2.2.1.pm hcd hP, hst.out.2.2.2.1.pm hP, hst.out.2.2.2.2.trans hG⟩
                  clear hc hB hP hG hst hS
                  go_wp2_with fail
                  go_meet
                  case rel => exact ⟨gs, hst4⟩
              | false =>
                clear hfl
                go_wp2_with fail
                go_meet
                case rel => exact ⟨fs3, hst⟩
            case rest =>
              clear hst hfl
              obtain ⟨fs4, hst⟩ := hcut
              have hfl := hst.out.2.1.len
              go_upto_region 17 with fail
              go_cut [87] from 19 to 133 (fun s wx => ∃ tt : Bool, s = .bool tt ∧ Hid (Br wx base (.slice ad es.length cap) fs4 ∧ Pm a b es fs4 ∧ Low fs4 c d ∧ Fin fs4 a b c d ∧ w.grownBy wx (Value.slice ad es.length cap).ownBlock) ∧ Hid (tt = true → 0 < c ∧ ∃ y z, fs4[p3]? = some y ∧ fs4[c - 1]? = some z ∧ y.toNat ≤ z.toNat))
              case first =>
                haveI := lat_nonempty wc
                by_cases hc0 : c = 0
                · have hd0 : decide ((0 : Int) < c) = false := by simp; omega
                  have hd00 : decide (0 < c) = false := by simp; omega
                  clear hc0 hfl
                  go_wp2_with fail
                  refine wp_region_lat (by kernel_rfl) (by kernel_rfl) ?_
                  repeat (go_big_quiet_step (fail))
                  refine wpQuiet_nil ?_
                  intro _ hw'
                  obtain ⟨x0, hw''⟩ := hw'
                  subst hw''
                  have hst5 : Hid (Br x0.W base (.slice ad es.length cap) fs4 ∧ Pm a b es fs4 ∧ Low fs4 c d ∧ Fin fs4 a b c d ∧ w.grownBy x0.W (Value.slice ad es.length cap).ownBlock) := ⟨hst.out.1.keep0 x0.h, hst.out.2.1, hst.out.2.2.1, hst.out.2.2.2.1, grown_add hst.out.2.2.2.2 x0.h⟩
                  clear hst
                  go_wp2_with fail
                  go_meet
                  case rel => exact ⟨false, rfl, hst5, ⟨fun e => by cases e⟩⟩
                · have hd0 : (0 : Int) < c := by omega
                  have hd01 : 0 < c := by omega
                  obtain ⟨c1, hc1⟩ : ∃ c1, Hid (c1 = c - 1) := ⟨_, ⟨rfl⟩⟩
                  have hc1' := hc1.out
                  have e7 : (c : Int) - 1 = (c1 : Nat) := by omega
                  obtain ⟨z, hz⟩ := some8 (es := fs4) (k := c1) (by omega)
                  obtain ⟨y, hy⟩ := some8 (es := fs4) (k := p3) (by omega)
                  have hB := hst.out.1
                  obtain ⟨g, rfl, -, -, k1, f1⟩ := hB.at hz
                  obtain ⟨_, e9, -, -, k2, -⟩ := hB.at hy
                  cases e9
                  have kk1 := lat_cell k1
                  have kk2 := lat_cell k2
                  have hcl : c1 < es.length := by omega
                  have hpl : p3 < es.length := by omega
                  have hc6 : c1 ≤ 256 := by omega
                  by_cases hzy : z < y
                  · have hdx : decide (z < y) = true := by simpa using hzy
                    have ka := fun q : Lat wc => lat_less q z y hdx
                    clear hB hz hy hc1' hfl hc0
                    go_wp2_with fail
                    refine wp_region_lat (by kernel_rfl) (by kernel_rfl) ?_
                    repeat (go_big_quiet_step (fail))
                    go_big_quiet_step ((go_at_call 62; exact ka _))
                    repeat (go_big_quiet_step (fail))
                    refine wpQuiet_nil ?_
                    intro _ hw'
                    obtain ⟨x0, hw''⟩ := hw'
                    subst hw''
                    have hst5 : Hid (Br x0.W base (.slice (some ⟨g, 0, none⟩) es.length cap) fs4 ∧ Pm a b es fs4 ∧ Low fs4 c d ∧ Fin fs4 a b c d ∧ w.grownBy x0.W (Value.slice (some ⟨g, 0, none⟩) es.length cap).ownBlock) := ⟨hst.out.1.keep0 x0.h, hst.out.2.1, hst.out.2.2.1, hst.out.2.2.2.1, grown_add hst.out.2.2.2.2 x0.h⟩
                    clear hst
                    go_wp2_with fail
                    go_meet
                    case rel => exact ⟨false, rfl, hst5, ⟨fun e => by cases e⟩⟩
                  · have hdx : decide (z < y) = false := by simpa using hzy
                    have ka := fun q : Lat wc => lat_less q z y hdx
                    have hpz : y.toNat ≤ z.toNat := by rw [UInt8.lt_iff_toNat_lt] at hzy; omega
                    have hpos : 0 < c := by omega
                    have hq : Hid (true = true → 0 < c ∧ ∃ y z, fs4[p3]? = some y ∧ fs4[c - 1]? = some z ∧ y.toNat ≤ z.toNat) := ⟨fun _ => ⟨hpos, y, z, hy, by rw [← hc1']; exact hz, hpz⟩⟩
                    clear hB hz hy hc1' hfl hc0
                    go_wp2_with fail
                    refine wp_region_lat (by kernel_rfl) (by kernel_rfl) ?_
                    repeat (go_big_quiet_step (fail))
                    go_big_quiet_step ((go_at_call 62; exact ka _))
                    repeat (go_big_quiet_step (fail))
                    refine wpQuiet_nil ?_
                    intro _ hw'
                    obtain ⟨x0, hw''⟩ := hw'
                    subst hw''
                    have hst5 : Hid (Br x0.W base (.slice (some ⟨g, 0, none⟩) es.length cap) fs4 ∧ Pm a b es fs4 ∧ Low fs4 c d ∧ Fin fs4 a b c d ∧ w.grownBy x0.W (Value.slice (some ⟨g, 0, none⟩) es.length cap).ownBlock) := ⟨hst.out.1.keep0 x0.h, hst.out.2.1, hst.out.2.2.1, hst.out.2.2.2.1, grown_add hst.out.2.2.2.2 x0.h⟩
                    clear hst
                    go_wp2_with fail
                    go_meet
                    case rel => exact ⟨true, rfl, hst5, ⟨fun _ => hq.out trivial⟩⟩
              case rest =>
                clear hst
                obtain ⟨tt, rfl, hst, hq⟩ := hcut
                replace hfl : Hid _ := ⟨hfl⟩
                cases tt with
                | true =>
                  obtain ⟨hpos, y, z, hy, hz, hpz⟩ := hq.out rfl
                  have hc := parteq_b wc hst.out.1 (by rw [hfl.out]; exact hl) c d p3 ⟨hp1, hp2⟩ (by rw [hfl.out]; exact hb7.2.2.2.1) hy
                  replace hc : Hid _ := ⟨hc⟩
                  replace hz : Hid _ := ⟨hz⟩
                  replace hy : Hid _ := ⟨hy⟩
                  go_wp2_with fail
                  refine hc.out.mono ?_
                  rintro r w6 ⟨m, gs, rfl, hB6, hP6, hG6⟩
                  have hm := hP6.am
                  have hm2 := hP6.mb
                  have hst5 : Hid (Br w6 base (.slice ad es.length cap) gs ∧ Pm a b es gs ∧ Low gs m d ∧ Fin gs a b m d ∧ w.grownBy w6 (Value.slice ad es.length cap).ownBlock) := ⟨hB6, hst.out.2.1.trans (hP6.pm.mono hac hdb), hP6.low, Fin.eq hst.out.2.2.2.1 hP6 hpos hst.out.2.2.1 hz.out hpz, hst.out.2.2.2.2.trans hG6⟩
                  clear hc hB6 hP6 hG6 hst
                  go_wp2_with fail
                  exact ⟨⟨m, d, l2, gs, wb, wp, rfl, rfl, rfl, rfl, rfl, by omega, by omega, by omega, hl2, hst5⟩, by simp [intOf]; omega⟩
                | false =>
                have hc := part_b wc hst.out.1 (by rw [hfl.out]; exact hl) c d p3 ⟨hp1, hp2⟩ (by rw [hfl.out]; exact hb7.2.2.2.1)
                replace hc : Hid _ := ⟨hc⟩
                go_wp2_with fail
                refine hc.out.mono ?_
                rintro r w5 ⟨m, pd, gs, rfl, hB, hPd, hG⟩
                have hm1 := hPd.am
                have hm2 := hPd.mb
                obtain ⟨x1, hx1⟩ : ∃ x1, Hid (x1 = m - c) := ⟨_, ⟨rfl⟩⟩
                obtain ⟨x2, hx2⟩ : ∃ x2, Hid (x2 = d - m) := ⟨_, ⟨rfl⟩⟩
                obtain ⟨x3, hx3⟩ : ∃ x3, Hid (x3 = k / 8) := ⟨_, ⟨rfl⟩⟩
                have hx1' := hx1.out
                have hx2' := hx2.out
                have hx3' := hx3.out
                have f1 : (m : Int) - c = (x1 : Nat) := by omega
                have f2 : (d : Int) - m = (x2 : Nat) := by omega
                have f3 : (k : Int) / 8 = (x3 : Nat) := by omega
                have f4 : (m : Int) + 1 = ((m + 1 : Nat) : Int) := by omega
                have hPm := hst.out.2.1.trans (hPd.pm.mono hac hdb)
                have hgl := hPm.len
                have hlw := hst.out.2.2.1.pm hcd hPd.pm
                have hFin := hst.out.2.2.2.1
                have hgg := hst.out.2.2.2.2.trans hG
                have hkn : k ≤ n := by have := hk.out; omega
                by_cases hlt : x1 < x2
                · have hd1 : (x1 : Int) < x2 := by omega
                  have hr := ih (m - c) (by have := hk.out; omega) w5 base _ gs c m l2 hB (by omega) hm1 (by omega) (Nat.le_refl _) (hlw.sub (by omega)) hl2
                  have hnext : Hid (∀ hs w6, Br w6 base (.slice ad es.length cap) hs → Pm c m gs hs → Sd hs c m → w5.grownBy w6 (Value.slice ad es.length cap).ownBlock → (Br w6 base (.slice ad es.length cap) hs ∧ Pm a b es hs ∧ Low hs (m + 1) d ∧ Fin hs a b (m + 1) d ∧ w.grownBy w6 (Value.slice ad es.length cap).ownBlock)) := ⟨fun hs w6 q1 q2 q3 q4 => ⟨q1, hPm.trans (q2.mono hac (by omega)), fun h0 kk xx zz t1 t2 t3 t4 => hPd.lowr h0 kk xx zz t1 t2 (by rw [← q2.out kk (by omega)]; exact t3) (by rw [← q2.out _ (by omega)]; exact t4), Fin.right hFin hPd q2 q3 (by rw [q2.len]; omega), hgg.trans q4⟩⟩
                  replace hr : Hid _ := ⟨hr⟩
                  have hmb : m ≤ 256 ∧ m + 1 ≤ d ∧ a ≤ m + 1 := by omega
                  clear hc hB hPd hG hx1' hx2' hx3' hPm hgl hlw hFin hgg hst hfl f4
                  go_wp2_with fail
                  refine hr.out.mono ?_
                  rintro r w6 ⟨rfl, hs, q1, q2, q3, q4⟩
                  have hst5 : Hid (Br w6 base (.slice ad es.length cap) hs ∧ Pm a b es hs ∧ Low hs (m + 1) d ∧ Fin hs a b (m + 1) d ∧ w.grownBy w6 (Value.slice ad es.length cap).ownBlock) := ⟨hnext.out hs w6 q1 q2 q3 q4⟩
                  clear hr q1 q2 q3 q4 hnext
                  go_wp2_with fail
                  exact ⟨⟨m + 1, d, l2, hs, _, pd, by first | rfl | go_num | simp, rfl, rfl, rfl, rfl, by omega, by omega, by omega, hl2, hst5⟩, by simp [intOf]; omega⟩
                · have hd1 : decide ((x1 : Int) < x2) = false := by simp; omega
                  have hd11 : decide (x1 < x2) = false := by simp; omega
                  have hr := ih (d - (m + 1)) (by have := hk.out; omega) w5 base _ gs (m + 1) d l2 hB (by omega) (by omega) (by omega) (Nat.le_refl _) ((hPd.lowr)) hl2
                  have hnext : Hid (∀ hs w6, Br w6 base (.slice ad es.length cap) hs → Pm (m + 1) d gs hs → Sd hs (m + 1) d → w5.grownBy w6 (Value.slice ad es.length cap).ownBlock → (Br w6 base (.slice ad es.length cap) hs ∧ Pm a b es hs ∧ Low hs c m ∧ Fin hs a b c m ∧ w.grownBy w6 (Value.slice ad es.length cap).ownBlock)) := ⟨fun hs w6 q1 q2 q3 q4 => ⟨q1, hPm.trans (q2.mono (by omega) hdb), (hlw.sub (by omega)).outl q2 (by omega), Fin.left hFin hPd q2 q3 (by rw [q2.len]; omega), hgg.trans q4⟩⟩
                  rw [← f4] at hr
                  replace hr : Hid _ := ⟨hr⟩
                  have hmb : m ≤ 256 ∧ m + 1 ≤ d ∧ a ≤ m + 1 := by omega
                  clear hc hB hPd hG hx1' hx2' hx3' hPm hgl hlw hFin hgg hst hfl f4
                  go_wp2_with fail
                  refine hr.out.mono ?_
                  rintro r w6 ⟨rfl, hs, q1, q2, q3, q4⟩
                  have hst5 : Hid (Br w6 base (.slice ad es.length cap) hs ∧ Pm a b es hs ∧ Low hs c m ∧ Fin hs a b c m ∧ w.grownBy w6 (Value.slice ad es.length cap).ownBlock) := ⟨hnext.out hs w6 q1 q2 q3 q4⟩
                  clear hr q1 q2 q3 q4 hnext
                  go_wp2_with fail
                  exact ⟨⟨c, m, l2, hs, _, pd, rfl, rfl, rfl, rfl, rfl, by omega, by omega, by omega, hl2, hst5⟩, by simp [intOf]; omega⟩
/-- slices.Sort sorts any bytes (each at most once: at most 256). -/
theorem pdq256 : Pdq 256 := by
  intro w base v es h hl l hl2
  refine (pdq_b es.length w base v es 0 es.length l h hl (by omega) (Nat.le_refl _) (by omega) (fun h0 => by omega) hl2).mono ?_
  rintro r w' ⟨h1, es', h2, h3, h4, h5⟩
  exact ⟨h1, es', h2, h3.perm, by rw [h3.len]; exact h4, h5⟩
end Go.Proofs.Ytpcdmjalfabbmaa
