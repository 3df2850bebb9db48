/- The walk of WheelPlays. -/
import Derived.Test.YtlljfgpmjpmoiaaPld
namespace Go.Proofs.Ytlljfgpmjpmoiaa
open Go.RowKit Go.IntWalk Go.Maps Go.Shelf
set_option linter.unusedVariables false
set_option maxRecDepth 100000 in
set_option maxHeartbeats 16000000 in
theorem plays_law (now : Int) (hnow : 0 ≤ now ∧ now < 18446744073709551616) (a : Option Addr) (cap : Nat) (xs : List Ac) (W : World) (ha : Acs W.heap.size W (.slice a xs.length cap) xs) (hxl : xs.length ≤ maxLen) :
    Calls Try.prog 3 #[.int .u64 now, .slice a xs.length cap] W fun e W' => e = .returned (.bool true) ∧ Below W.heap.size W W' := by
  unfold maxLen at hxl
  go_enter Try.func3, Try.ntmps3
  go_wp2_with fail
  refine (new_s (St.start W) now hnow).mono ?_
  rintro r w1 ⟨wb, rfl, hs1⟩
  have hD0 : Hid (Dw W (w1.alloc (.cells #[.int .u64 now, .slice none 0 0] 29)) w1.heap.size now [] [.q wb now []]) := ⟨Dw.start (hs1.box (.cells #[.int .u64 now, .slice none 0 0] 29))⟩
  clear hs1
  go_wp2_with fail
  obtain ⟨mb, hmb⟩ : ∃ mb, mb = w1.heap.size := ⟨_, rfl⟩
  rw [← hmb] at hD0 ⊢
  clear hmb
  go_loopw [7] (fun i wr => ∃ (k : Nat) (nw : Int) (L : List E), k ≤ xs.length ∧ k ≤ 100 ∧ i = .int .i64 k ∧ Hid (Dw W wr mb nw L [.q wb nw L]) ∧ Hid (L.length ≤ k))
    (fun i _ => 100 - (intOf i).toNat)
  case atStart => exact ⟨0, now, [], by omega, by omega, rfl, hD0, ⟨by simp⟩⟩
  case round =>
    clear hD0
    obtain ⟨k, nw, L, hk, hk2, rfl, hS, hLk⟩ := hrel
    by_cases hgo : k < xs.length ∧ k < 100
    · obtain ⟨hlt, h100⟩ := hgo
      have hd1 : decide ((k : Int) < xs.length) = true := by simp; omega
      have hd2 : decide ((k : Int) < 100) = true := by simp; omega
      obtain ⟨x, hx⟩ : ∃ x, xs[k]? = some x := ⟨xs[k], List.getElem?_eq_getElem hlt⟩
      obtain ⟨b, off, rfl, hb, hok, c0, c1, c2, c3⟩ := (ha.below hS.out.below).at hx
      replace hx : Hid _ := ⟨hx⟩
      have hSb : Hid _ := ⟨(hS.out.box (.cells #[.int .i64 x.kd, .string x.nm, .int .u64 x.at_, .int .u64 x.by_] 31)).swap⟩
      have hga := World.grownBy_alloc wr (.cells #[.int .i64 x.kd, .string x.nm, .int .u64 x.at_, .int .u64 x.by_] 31) none
      obtain ⟨hsr, hll, hab, hoks, hnw⟩ := hS.out.mq List.mem_cons_self
      have hLl : L.length < 100000 := by have := hLk.out; omega
      replace hoks : Hid _ := ⟨hoks⟩
      replace hab : Hid _ := ⟨hab⟩
      replace hLl : Hid _ := ⟨hLl⟩
      clear hll
      by_cases hsz : x.nm.size ≤ 40
      · have hds : decide ((x.nm.size : Int) > 40) = false := by simp; omega
        have hds2 : decide (40 < x.nm.size) = false := by simp; omega
        obtain ⟨t, ht⟩ : ∃ t, Hid (x.tk nw L = t) := ⟨_, ⟨rfl⟩⟩
        have htb : 0 ≤ t ∧ t < 18446744073709551616 := by rw [← ht.out]; exact x.tk_bd hok hnw hoks.out
        clear hS hga
        go_wp2_with fail
        refine (tick_d hSb.out List.mem_cons_self x hok ht).mono ?_
        rintro r w2 ⟨rfl, hD2⟩
        obtain ⟨b0, b1, -, -⟩ := hD2.mb4 (List.mem_cons_of_mem _ List.mem_cons_self)
        replace hD2 : Hid _ := ⟨hD2⟩
        clear hSb
        by_cases hk12 : x.kd = 1 ∨ x.kd = 2
        · obtain ⟨pb, hpb⟩ : ∃ pb, Hid (decide (nw < t) = pb) := ⟨_, ⟨rfl⟩⟩
          obtain ⟨T, hT⟩ : ∃ T, Hid (putA nw ⟨x.nm, t⟩ L = T) := ⟨_, ⟨rfl⟩⟩
          have hTl : Hid (T.length ≤ k + 1) := ⟨by rw [← hT.out]; have := putA_le (now := nw) hsr ⟨x.nm, t⟩; have := hLk.out; omega⟩
          rcases hk12 with hk1 | hk1
          · have e1 : (x.kd == 1) = true := by simp [hk1]
            clear hk1
            go_wp2_with fail
            go_region_held3 (fun w' => w'.cell? ⟨wr.heap.size, 1, none⟩ = some (.string x.nm))
              (first
                | go_keep
                | exact (hD4.mb4 (List.mem_cons_of_mem _ List.mem_cons_self)).2.1
                | exact (hD3.mb4 (List.mem_cons_of_mem _ List.mem_cons_self)).2.1
                | exact (hD2.out.mb4 (List.mem_cons_of_mem _ List.mem_cons_self)).2.1)
              (first
                | (go_at_call 11
                   refine (put_d (hD2.out.grown (grown_drew _)) x.nm t hok.2.1 htb hLl.out hpb hT).mono ?_
                   rintro r w3 ⟨rfl, hD3⟩)
                | (go_at_call 12
                   refine (rwput_s hD3 hsr (by have := hLl.out; omega) x.nm t hpb hT).mono ?_
                   rintro r w4 ⟨rfl, hD4⟩))
            replace hD4 : Hid _ := ⟨hD4⟩
            clear hD3 hD2
            clear c0 c1 c2 c3
            have hLb : T.length ≤ 100000 := by have := hTl.out; omega
            by_cases hpos : 0 < T.length
            · have hz1 : decide ((T.length : Int) > 0) = true := decide_eq_true (by omega)
              have hz2 : decide (0 < T.length) = true := decide_eq_true (by omega)
              have hz3 : decide ((0 : Int) < T.length) = true := decide_eq_true (by omega)
              obtain ⟨f, hf⟩ := some_at (es := T) (k := 0) hpos
              have hsb : Hid (soonB T = true) := ⟨by cases T with | nil => simp at hf | cons y ys => rfl⟩
              have hst : Hid (soonT T = f.at_) := ⟨by cases T with | nil => simp at hf | cons y ys => simp at hf; subst hf; rfl⟩
              replace hf : Hid _ := ⟨hf⟩
              go_wp2_with fail
              refine (soon_d hD4.out List.mem_cons_self hst hsb).mono ?_
              rintro r v1 ⟨rfl, hV1⟩
              replace hV1 : Hid _ := ⟨hV1⟩
              clear hD4
              go_wp2_with fail
              refine (stands_e hV1.out List.mem_cons_self).mono ?_
              rintro r v2 ⟨rfl, hV2⟩
              obtain ⟨la, lc, hLc, z0, z1, -⟩ := hV2.cells
              obtain ⟨lb, lo, rfl, -, -, y1⟩ := hLc.at hf.out
              have y2 : v2.cell? ⟨lb, lo + 1, none⟩ = some (.int .u64 f.at_) := by simpa using y1
              replace hV2 : Hid _ := ⟨hV2⟩
              clear hV1 hLc
              haveI := lat_nonempty v2
              have kc0 := lat_cell z0
              have kc1 := lat_cell z1
              have kc2 := lat_cell y2
              clear y1 y2
              have ka := fun p : Lat v2 => lat_clock_d hV2.out List.mem_cons_self p
              have kb := fun p : Lat v2 => lat_len_d hV2.out List.mem_cons_self p
              have hne1 : (nw != nw) = false := by simp
              have hne2 : ((T.length : Int) != (T.length : Int)) = false := by simp
              clear z0 z1
              go_wp2_with fail
              refine wp_region_lat (by kernel_rfl) (by kernel_rfl) ?_
              repeat (go_big_quiet_step (fail))
              go_big_quiet_step ((go_at_call 20; exact ka _))
              repeat (go_big_quiet_step (fail))
              go_big_quiet_step ((go_at_call 21; exact kb _))
              repeat (go_big_quiet_step (fail))
              refine wpQuiet_nil ?_
              intro _ hw'
              obtain ⟨pw, hw''⟩ := hw'
              subst hw''
              have hV3 : Hid (Dw W pw.W mb nw T [.q wb nw T]) := ⟨(hV2.out.grown pw.h).sub (by simp)⟩
              clear ka kb kc0 kc1 hV2
              go_wp2_with fail
              go_roundw
              case rel => exact ⟨k + 1, nw, T, by omega, by omega, by go_num, hV3, hTl⟩
              case measure => simp [intOf]; omega
            · have hz1 : decide ((T.length : Int) > 0) = false := decide_eq_false (by omega)
              have hz2 : decide (0 < T.length) = false := decide_eq_false (by omega)
              have hz3 : decide ((0 : Int) < T.length) = false := decide_eq_false (by omega)
              have hsb : Hid (soonB T = false) := ⟨by rw [List.eq_nil_of_length_eq_zero (by omega : T.length = 0)]; rfl⟩
              obtain ⟨s, hst⟩ : ∃ s, Hid (soonT T = s) := ⟨_, ⟨rfl⟩⟩
              go_wp2_with fail
              refine (soon_d hD4.out List.mem_cons_self hst hsb).mono ?_
              rintro r v1 ⟨rfl, hV1⟩
              replace hV1 : Hid _ := ⟨hV1⟩
              clear hD4
              go_wp2_with fail
              refine (stands_e hV1.out List.mem_cons_self).mono ?_
              rintro r v2 ⟨rfl, hV2⟩
              obtain ⟨la, lc, hLc, z0, z1, -⟩ := hV2.cells
              replace hV2 : Hid _ := ⟨hV2⟩
              clear hV1 hLc
              haveI := lat_nonempty v2
              have kc0 := lat_cell z0
              have kc1 := lat_cell z1
              have ka := fun p : Lat v2 => lat_clock_d hV2.out List.mem_cons_self p
              have kb := fun p : Lat v2 => lat_len_d hV2.out List.mem_cons_self p
              have hne1 : (nw != nw) = false := by simp
              have hne2 : ((T.length : Int) != (T.length : Int)) = false := by simp
              clear z0 z1
              go_wp2_with fail
              refine wp_region_lat (by kernel_rfl) (by kernel_rfl) ?_
              repeat (go_big_quiet_step (fail))
              go_big_quiet_step ((go_at_call 20; exact ka _))
              repeat (go_big_quiet_step (fail))
              go_big_quiet_step ((go_at_call 21; exact kb _))
              repeat (go_big_quiet_step (fail))
              refine wpQuiet_nil ?_
              intro _ hw'
              obtain ⟨pw, hw''⟩ := hw'
              subst hw''
              have hV3 : Hid (Dw W pw.W mb nw T [.q wb nw T]) := ⟨(hV2.out.grown pw.h).sub (by simp)⟩
              clear ka kb kc0 kc1 hV2
              go_wp2_with fail
              go_roundw
              case rel => exact ⟨k + 1, nw, T, by omega, by omega, by go_num, hV3, hTl⟩
              case measure => simp [intOf]; omega
          · have e1 : (x.kd == 1) = false := by simp [hk1]
            have e2 : (x.kd == 2) = true := by simp [hk1]
            clear hk1
            go_wp2_with fail
            go_region_held3 (fun w' => w'.cell? ⟨wr.heap.size, 1, none⟩ = some (.string x.nm))
              (first
                | go_keep
                | exact (hD4.mb4 (List.mem_cons_of_mem _ List.mem_cons_self)).2.1
                | exact (hD3.mb4 (List.mem_cons_of_mem _ List.mem_cons_self)).2.1
                | exact (hD2.out.mb4 (List.mem_cons_of_mem _ List.mem_cons_self)).2.1)
              (first
                | (go_at_call 11
                   refine (put_d (hD2.out.grown (grown_drew _)) x.nm t hok.2.1 htb hLl.out hpb hT).mono ?_
                   rintro r w3 ⟨rfl, hD3⟩)
                | (go_at_call 12
                   refine (rwput_s hD3 hsr (by have := hLl.out; omega) x.nm t hpb hT).mono ?_
                   rintro r w4 ⟨rfl, hD4⟩))
            replace hD4 : Hid _ := ⟨hD4⟩
            clear hD3 hD2
            clear c0 c1 c2 c3
            have hLb : T.length ≤ 100000 := by have := hTl.out; omega
            by_cases hpos : 0 < T.length
            · have hz1 : decide ((T.length : Int) > 0) = true := decide_eq_true (by omega)
              have hz2 : decide (0 < T.length) = true := decide_eq_true (by omega)
              have hz3 : decide ((0 : Int) < T.length) = true := decide_eq_true (by omega)
              obtain ⟨f, hf⟩ := some_at (es := T) (k := 0) hpos
              have hsb : Hid (soonB T = true) := ⟨by cases T with | nil => simp at hf | cons y ys => rfl⟩
              have hst : Hid (soonT T = f.at_) := ⟨by cases T with | nil => simp at hf | cons y ys => simp at hf; subst hf; rfl⟩
              replace hf : Hid _ := ⟨hf⟩
              go_wp2_with fail
              refine (soon_d hD4.out List.mem_cons_self hst hsb).mono ?_
              rintro r v1 ⟨rfl, hV1⟩
              replace hV1 : Hid _ := ⟨hV1⟩
              clear hD4
              go_wp2_with fail
              refine (stands_e hV1.out List.mem_cons_self).mono ?_
              rintro r v2 ⟨rfl, hV2⟩
              obtain ⟨la, lc, hLc, z0, z1, -⟩ := hV2.cells
              obtain ⟨lb, lo, rfl, -, -, y1⟩ := hLc.at hf.out
              have y2 : v2.cell? ⟨lb, lo + 1, none⟩ = some (.int .u64 f.at_) := by simpa using y1
              replace hV2 : Hid _ := ⟨hV2⟩
              clear hV1 hLc
              haveI := lat_nonempty v2
              have kc0 := lat_cell z0
              have kc1 := lat_cell z1
              have kc2 := lat_cell y2
              clear y1 y2
              have ka := fun p : Lat v2 => lat_clock_d hV2.out List.mem_cons_self p
              have kb := fun p : Lat v2 => lat_len_d hV2.out List.mem_cons_self p
              have hne1 : (nw != nw) = false := by simp
              have hne2 : ((T.length : Int) != (T.length : Int)) = false := by simp
              clear z0 z1
              go_wp2_with fail
              refine wp_region_lat (by kernel_rfl) (by kernel_rfl) ?_
              repeat (go_big_quiet_step (fail))
              go_big_quiet_step ((go_at_call 20; exact ka _))
              repeat (go_big_quiet_step (fail))
              go_big_quiet_step ((go_at_call 21; exact kb _))
              repeat (go_big_quiet_step (fail))
              refine wpQuiet_nil ?_
              intro _ hw'
              obtain ⟨pw, hw''⟩ := hw'
              subst hw''
              have hV3 : Hid (Dw W pw.W mb nw T [.q wb nw T]) := ⟨(hV2.out.grown pw.h).sub (by simp)⟩
              clear ka kb kc0 kc1 hV2
              go_wp2_with fail
              go_roundw
              case rel => exact ⟨k + 1, nw, T, by omega, by omega, by go_num, hV3, hTl⟩
              case measure => simp [intOf]; omega
            · have hz1 : decide ((T.length : Int) > 0) = false := decide_eq_false (by omega)
              have hz2 : decide (0 < T.length) = false := decide_eq_false (by omega)
              have hz3 : decide ((0 : Int) < T.length) = false := decide_eq_false (by omega)
              have hsb : Hid (soonB T = false) := ⟨by rw [List.eq_nil_of_length_eq_zero (by omega : T.length = 0)]; rfl⟩
              obtain ⟨s, hst⟩ : ∃ s, Hid (soonT T = s) := ⟨_, ⟨rfl⟩⟩
              go_wp2_with fail
              refine (soon_d hD4.out List.mem_cons_self hst hsb).mono ?_
              rintro r v1 ⟨rfl, hV1⟩
              replace hV1 : Hid _ := ⟨hV1⟩
              clear hD4
              go_wp2_with fail
              refine (stands_e hV1.out List.mem_cons_self).mono ?_
              rintro r v2 ⟨rfl, hV2⟩
              obtain ⟨la, lc, hLc, z0, z1, -⟩ := hV2.cells
              replace hV2 : Hid _ := ⟨hV2⟩
              clear hV1 hLc
              haveI := lat_nonempty v2
              have kc0 := lat_cell z0
              have kc1 := lat_cell z1
              have ka := fun p : Lat v2 => lat_clock_d hV2.out List.mem_cons_self p
              have kb := fun p : Lat v2 => lat_len_d hV2.out List.mem_cons_self p
              have hne1 : (nw != nw) = false := by simp
              have hne2 : ((T.length : Int) != (T.length : Int)) = false := by simp
              clear z0 z1
              go_wp2_with fail
              refine wp_region_lat (by kernel_rfl) (by kernel_rfl) ?_
              repeat (go_big_quiet_step (fail))
              go_big_quiet_step ((go_at_call 20; exact ka _))
              repeat (go_big_quiet_step (fail))
              go_big_quiet_step ((go_at_call 21; exact kb _))
              repeat (go_big_quiet_step (fail))
              refine wpQuiet_nil ?_
              intro _ hw'
              obtain ⟨pw, hw''⟩ := hw'
              subst hw''
              have hV3 : Hid (Dw W pw.W mb nw T [.q wb nw T]) := ⟨(hV2.out.grown pw.h).sub (by simp)⟩
              clear ka kb kc0 kc1 hV2
              go_wp2_with fail
              go_roundw
              case rel => exact ⟨k + 1, nw, T, by omega, by omega, by go_num, hV3, hTl⟩
              case measure => simp [intOf]; omega
        · have e1 : (x.kd == 1) = false := by simp; omega
          have e2 : (x.kd == 2) = false := by simp; omega
          by_cases hk3 : x.kd = 3
          · have e3 : (x.kd == 3) = true := by simp [hk3]
            obtain ⟨hb', hhb⟩ : ∃ pb, Hid (hasN x.nm L = pb) := ⟨_, ⟨rfl⟩⟩
            obtain ⟨T, hT⟩ : ∃ T, Hid (delN x.nm L = T) := ⟨_, ⟨rfl⟩⟩
            have hTl : Hid (T.length ≤ k + 1) := ⟨by rw [← hT.out]; have := delN_le x.nm L; have := hLk.out; omega⟩
            clear hk3 hk12
            go_wp2_with fail
            go_region_held3 (fun w' => w'.cell? ⟨wr.heap.size, 1, none⟩ = some (.string x.nm))
              (first
                | go_keep
                | exact (hD4.mb4 (List.mem_cons_of_mem _ List.mem_cons_self)).2.1
                | exact (hD3.mb4 (List.mem_cons_of_mem _ List.mem_cons_self)).2.1
                | exact (hD2.out.mb4 (List.mem_cons_of_mem _ List.mem_cons_self)).2.1)
              (first
                | (go_at_call 13
                   refine (drop_d (hD2.out.grown (grown_drew _)) x.nm hok.2.1 hhb hT).mono ?_
                   rintro r w3 ⟨rfl, hD3⟩)
                | (go_at_call 14
                   refine (rwdrop_s hD3 (by have := hLl.out; omega) x.nm hhb hT).mono ?_
                   rintro r w4 ⟨rfl, hD4⟩))
            replace hD4 : Hid _ := ⟨hD4⟩
            clear hD3 hD2
            clear c0 c1 c2 c3
            have hLb : T.length ≤ 100000 := by have := hTl.out; omega
            by_cases hpos : 0 < T.length
            · have hz1 : decide ((T.length : Int) > 0) = true := decide_eq_true (by omega)
              have hz2 : decide (0 < T.length) = true := decide_eq_true (by omega)
              have hz3 : decide ((0 : Int) < T.length) = true := decide_eq_true (by omega)
              obtain ⟨f, hf⟩ := some_at (es := T) (k := 0) hpos
              have hsb : Hid (soonB T = true) := ⟨by cases T with | nil => simp at hf | cons y ys => rfl⟩
              have hst : Hid (soonT T = f.at_) := ⟨by cases T with | nil => simp at hf | cons y ys => simp at hf; subst hf; rfl⟩
              replace hf : Hid _ := ⟨hf⟩
              go_wp2_with fail
              refine (soon_d hD4.out List.mem_cons_self hst hsb).mono ?_
              rintro r v1 ⟨rfl, hV1⟩
              replace hV1 : Hid _ := ⟨hV1⟩
              clear hD4
              go_wp2_with fail
              refine (stands_e hV1.out List.mem_cons_self).mono ?_
              rintro r v2 ⟨rfl, hV2⟩
              obtain ⟨la, lc, hLc, z0, z1, -⟩ := hV2.cells
              obtain ⟨lb, lo, rfl, -, -, y1⟩ := hLc.at hf.out
              have y2 : v2.cell? ⟨lb, lo + 1, none⟩ = some (.int .u64 f.at_) := by simpa using y1
              replace hV2 : Hid _ := ⟨hV2⟩
              clear hV1 hLc
              haveI := lat_nonempty v2
              have kc0 := lat_cell z0
              have kc1 := lat_cell z1
              have kc2 := lat_cell y2
              clear y1 y2
              have ka := fun p : Lat v2 => lat_clock_d hV2.out List.mem_cons_self p
              have kb := fun p : Lat v2 => lat_len_d hV2.out List.mem_cons_self p
              have hne1 : (nw != nw) = false := by simp
              have hne2 : ((T.length : Int) != (T.length : Int)) = false := by simp
              clear z0 z1
              go_wp2_with fail
              refine wp_region_lat (by kernel_rfl) (by kernel_rfl) ?_
              repeat (go_big_quiet_step (fail))
              go_big_quiet_step ((go_at_call 20; exact ka _))
              repeat (go_big_quiet_step (fail))
              go_big_quiet_step ((go_at_call 21; exact kb _))
              repeat (go_big_quiet_step (fail))
              refine wpQuiet_nil ?_
              intro _ hw'
              obtain ⟨pw, hw''⟩ := hw'
              subst hw''
              have hV3 : Hid (Dw W pw.W mb nw T [.q wb nw T]) := ⟨(hV2.out.grown pw.h).sub (by simp)⟩
              clear ka kb kc0 kc1 hV2
              go_wp2_with fail
              go_roundw
              case rel => exact ⟨k + 1, nw, T, by omega, by omega, by go_num, hV3, hTl⟩
              case measure => simp [intOf]; omega
            · have hz1 : decide ((T.length : Int) > 0) = false := decide_eq_false (by omega)
              have hz2 : decide (0 < T.length) = false := decide_eq_false (by omega)
              have hz3 : decide ((0 : Int) < T.length) = false := decide_eq_false (by omega)
              have hsb : Hid (soonB T = false) := ⟨by rw [List.eq_nil_of_length_eq_zero (by omega : T.length = 0)]; rfl⟩
              obtain ⟨s, hst⟩ : ∃ s, Hid (soonT T = s) := ⟨_, ⟨rfl⟩⟩
              go_wp2_with fail
              refine (soon_d hD4.out List.mem_cons_self hst hsb).mono ?_
              rintro r v1 ⟨rfl, hV1⟩
              replace hV1 : Hid _ := ⟨hV1⟩
              clear hD4
              go_wp2_with fail
              refine (stands_e hV1.out List.mem_cons_self).mono ?_
              rintro r v2 ⟨rfl, hV2⟩
              obtain ⟨la, lc, hLc, z0, z1, -⟩ := hV2.cells
              replace hV2 : Hid _ := ⟨hV2⟩
              clear hV1 hLc
              haveI := lat_nonempty v2
              have kc0 := lat_cell z0
              have kc1 := lat_cell z1
              have ka := fun p : Lat v2 => lat_clock_d hV2.out List.mem_cons_self p
              have kb := fun p : Lat v2 => lat_len_d hV2.out List.mem_cons_self p
              have hne1 : (nw != nw) = false := by simp
              have hne2 : ((T.length : Int) != (T.length : Int)) = false := by simp
              clear z0 z1
              go_wp2_with fail
              refine wp_region_lat (by kernel_rfl) (by kernel_rfl) ?_
              repeat (go_big_quiet_step (fail))
              go_big_quiet_step ((go_at_call 20; exact ka _))
              repeat (go_big_quiet_step (fail))
              go_big_quiet_step ((go_at_call 21; exact kb _))
              repeat (go_big_quiet_step (fail))
              refine wpQuiet_nil ?_
              intro _ hw'
              obtain ⟨pw, hw''⟩ := hw'
              subst hw''
              have hV3 : Hid (Dw W pw.W mb nw T [.q wb nw T]) := ⟨(hV2.out.grown pw.h).sub (by simp)⟩
              clear ka kb kc0 kc1 hV2
              go_wp2_with fail
              go_roundw
              case rel => exact ⟨k + 1, nw, T, by omega, by omega, by go_num, hV3, hTl⟩
              case measure => simp [intOf]; omega
          · have e3 : (x.kd == 3) = false := by simp; omega
            by_cases hk56 : x.kd = 4 ∨ x.kd = 5 ∨ x.kd = 6
            · obtain ⟨T, hT⟩ : ∃ T, Hid (rst t L = T) := ⟨_, ⟨rfl⟩⟩
              obtain ⟨A, hA⟩ : ∃ A, Hid (due t L = A) := ⟨_, ⟨rfl⟩⟩
              obtain ⟨nn, hnn⟩ : ∃ nn, Hid ((if nw < t then t else nw) = nn) := ⟨_, ⟨rfl⟩⟩
              have hTl : Hid (T.length ≤ k + 1) := ⟨by rw [← hT.out]; have := rst_le t L; have := hLk.out; omega⟩
              have hAl : A.length ≤ 100000 := by rw [← hA.out]; have : (due t L).length ≤ L.length := List.length_filter_le _ _; have := hLk.out; omega
              rcases hk56 with hk5 | hk5 | hk5
              · have e4 : (x.kd == 4) = true := by simp [hk5]
                clear hk3 hk12 hk5
                go_wp2_with fail
                refine (adv_d hD2.out t htb hA hT hnn).mono ?_
                rintro r w3 ⟨da, dc, rfl, hD3⟩
                replace hD3 : Hid _ := ⟨hD3⟩
                clear hD2
                go_wp2_with fail
                refine (rwadv_s hD3.out hsr hab.out (by have := hLl.out; omega) t hA hT hnn).mono ?_
                rintro r w4 ⟨ea, ec, rfl, hLA, hD4⟩
                replace hD4 : Hid _ := ⟨hD4⟩
                replace hLA : Hid _ := ⟨hLA⟩
                clear hD3
                go_wp2_with fail
                refine (same_d hD4.out (List.mem_cons_of_mem _ List.mem_cons_self) hLA.out hAl).mono ?_
                rintro r w5 ⟨rfl, hD5⟩
                replace hD5 : Hid _ := ⟨hD5⟩
                clear hD4 hLA
                clear c0 c1 c2 c3
                have hLb : T.length ≤ 100000 := by have := hTl.out; omega
                by_cases hpos : 0 < T.length
                · have hz1 : decide ((T.length : Int) > 0) = true := decide_eq_true (by omega)
                  have hz2 : decide (0 < T.length) = true := decide_eq_true (by omega)
                  have hz3 : decide ((0 : Int) < T.length) = true := decide_eq_true (by omega)
                  obtain ⟨f, hf⟩ := some_at (es := T) (k := 0) hpos
                  have hsb : Hid (soonB T = true) := ⟨by cases T with | nil => simp at hf | cons y ys => rfl⟩
                  have hst : Hid (soonT T = f.at_) := ⟨by cases T with | nil => simp at hf | cons y ys => simp at hf; subst hf; rfl⟩
                  replace hf : Hid _ := ⟨hf⟩
                  go_wp2_with fail
                  refine (soon_d hD5.out List.mem_cons_self hst hsb).mono ?_
                  rintro r v1 ⟨rfl, hV1⟩
                  replace hV1 : Hid _ := ⟨hV1⟩
                  clear hD5
                  go_wp2_with fail
                  refine (stands_e hV1.out List.mem_cons_self).mono ?_
                  rintro r v2 ⟨rfl, hV2⟩
                  obtain ⟨la, lc, hLc, z0, z1, -⟩ := hV2.cells
                  obtain ⟨lb, lo, rfl, -, -, y1⟩ := hLc.at hf.out
                  have y2 : v2.cell? ⟨lb, lo + 1, none⟩ = some (.int .u64 f.at_) := by simpa using y1
                  replace hV2 : Hid _ := ⟨hV2⟩
                  clear hV1 hLc
                  haveI := lat_nonempty v2
                  have kc0 := lat_cell z0
                  have kc1 := lat_cell z1
                  have kc2 := lat_cell y2
                  clear y1 y2
                  have ka := fun p : Lat v2 => lat_clock_d hV2.out List.mem_cons_self p
                  have kb := fun p : Lat v2 => lat_len_d hV2.out List.mem_cons_self p
                  have hne1 : (nn != nn) = false := by simp
                  have hne2 : ((T.length : Int) != (T.length : Int)) = false := by simp
                  clear z0 z1
                  go_wp2_with fail
                  refine wp_region_lat (by kernel_rfl) (by kernel_rfl) ?_
                  repeat (go_big_quiet_step (fail))
                  go_big_quiet_step ((go_at_call 20; exact ka _))
                  repeat (go_big_quiet_step (fail))
                  go_big_quiet_step ((go_at_call 21; exact kb _))
                  repeat (go_big_quiet_step (fail))
                  refine wpQuiet_nil ?_
                  intro _ hw'
                  obtain ⟨pw, hw''⟩ := hw'
                  subst hw''
                  have hV3 : Hid (Dw W pw.W mb nn T [.q wb nn T]) := ⟨(hV2.out.grown pw.h).sub (by simp)⟩
                  clear ka kb kc0 kc1 hV2
                  go_wp2_with fail
                  go_roundw
                  case rel => exact ⟨k + 1, nn, T, by omega, by omega, by go_num, hV3, hTl⟩
                  case measure => simp [intOf]; omega
                · have hz1 : decide ((T.length : Int) > 0) = false := decide_eq_false (by omega)
                  have hz2 : decide (0 < T.length) = false := decide_eq_false (by omega)
                  have hz3 : decide ((0 : Int) < T.length) = false := decide_eq_false (by omega)
                  have hsb : Hid (soonB T = false) := ⟨by rw [List.eq_nil_of_length_eq_zero (by omega : T.length = 0)]; rfl⟩
                  obtain ⟨s, hst⟩ : ∃ s, Hid (soonT T = s) := ⟨_, ⟨rfl⟩⟩
                  go_wp2_with fail
                  refine (soon_d hD5.out List.mem_cons_self hst hsb).mono ?_
                  rintro r v1 ⟨rfl, hV1⟩
                  replace hV1 : Hid _ := ⟨hV1⟩
                  clear hD5
                  go_wp2_with fail
                  refine (stands_e hV1.out List.mem_cons_self).mono ?_
                  rintro r v2 ⟨rfl, hV2⟩
                  obtain ⟨la, lc, hLc, z0, z1, -⟩ := hV2.cells
                  replace hV2 : Hid _ := ⟨hV2⟩
                  clear hV1 hLc
                  haveI := lat_nonempty v2
                  have kc0 := lat_cell z0
                  have kc1 := lat_cell z1
                  have ka := fun p : Lat v2 => lat_clock_d hV2.out List.mem_cons_self p
                  have kb := fun p : Lat v2 => lat_len_d hV2.out List.mem_cons_self p
                  have hne1 : (nn != nn) = false := by simp
                  have hne2 : ((T.length : Int) != (T.length : Int)) = false := by simp
                  clear z0 z1
                  go_wp2_with fail
                  refine wp_region_lat (by kernel_rfl) (by kernel_rfl) ?_
                  repeat (go_big_quiet_step (fail))
                  go_big_quiet_step ((go_at_call 20; exact ka _))
                  repeat (go_big_quiet_step (fail))
                  go_big_quiet_step ((go_at_call 21; exact kb _))
                  repeat (go_big_quiet_step (fail))
                  refine wpQuiet_nil ?_
                  intro _ hw'
                  obtain ⟨pw, hw''⟩ := hw'
                  subst hw''
                  have hV3 : Hid (Dw W pw.W mb nn T [.q wb nn T]) := ⟨(hV2.out.grown pw.h).sub (by simp)⟩
                  clear ka kb kc0 kc1 hV2
                  go_wp2_with fail
                  go_roundw
                  case rel => exact ⟨k + 1, nn, T, by omega, by omega, by go_num, hV3, hTl⟩
                  case measure => simp [intOf]; omega
              · have e4 : (x.kd == 4) = false := by simp [hk5]
                have e5 : (x.kd == 5) = true := by simp [hk5]
                clear hk3 hk12 hk5
                go_wp2_with fail
                refine (adv_d hD2.out t htb hA hT hnn).mono ?_
                rintro r w3 ⟨da, dc, rfl, hD3⟩
                replace hD3 : Hid _ := ⟨hD3⟩
                clear hD2
                go_wp2_with fail
                refine (rwadv_s hD3.out hsr hab.out (by have := hLl.out; omega) t hA hT hnn).mono ?_
                rintro r w4 ⟨ea, ec, rfl, hLA, hD4⟩
                replace hD4 : Hid _ := ⟨hD4⟩
                replace hLA : Hid _ := ⟨hLA⟩
                clear hD3
                go_wp2_with fail
                refine (same_d hD4.out (List.mem_cons_of_mem _ List.mem_cons_self) hLA.out hAl).mono ?_
                rintro r w5 ⟨rfl, hD5⟩
                replace hD5 : Hid _ := ⟨hD5⟩
                clear hD4 hLA
                clear c0 c1 c2 c3
                have hLb : T.length ≤ 100000 := by have := hTl.out; omega
                by_cases hpos : 0 < T.length
                · have hz1 : decide ((T.length : Int) > 0) = true := decide_eq_true (by omega)
                  have hz2 : decide (0 < T.length) = true := decide_eq_true (by omega)
                  have hz3 : decide ((0 : Int) < T.length) = true := decide_eq_true (by omega)
                  obtain ⟨f, hf⟩ := some_at (es := T) (k := 0) hpos
                  have hsb : Hid (soonB T = true) := ⟨by cases T with | nil => simp at hf | cons y ys => rfl⟩
                  have hst : Hid (soonT T = f.at_) := ⟨by cases T with | nil => simp at hf | cons y ys => simp at hf; subst hf; rfl⟩
                  replace hf : Hid _ := ⟨hf⟩
                  go_wp2_with fail
                  refine (soon_d hD5.out List.mem_cons_self hst hsb).mono ?_
                  rintro r v1 ⟨rfl, hV1⟩
                  replace hV1 : Hid _ := ⟨hV1⟩
                  clear hD5
                  go_wp2_with fail
                  refine (stands_e hV1.out List.mem_cons_self).mono ?_
                  rintro r v2 ⟨rfl, hV2⟩
                  obtain ⟨la, lc, hLc, z0, z1, -⟩ := hV2.cells
                  obtain ⟨lb, lo, rfl, -, -, y1⟩ := hLc.at hf.out
                  have y2 : v2.cell? ⟨lb, lo + 1, none⟩ = some (.int .u64 f.at_) := by simpa using y1
                  replace hV2 : Hid _ := ⟨hV2⟩
                  clear hV1 hLc
                  haveI := lat_nonempty v2
                  have kc0 := lat_cell z0
                  have kc1 := lat_cell z1
                  have kc2 := lat_cell y2
                  clear y1 y2
                  have ka := fun p : Lat v2 => lat_clock_d hV2.out List.mem_cons_self p
                  have kb := fun p : Lat v2 => lat_len_d hV2.out List.mem_cons_self p
                  have hne1 : (nn != nn) = false := by simp
                  have hne2 : ((T.length : Int) != (T.length : Int)) = false := by simp
                  clear z0 z1
                  go_wp2_with fail
                  refine wp_region_lat (by kernel_rfl) (by kernel_rfl) ?_
                  repeat (go_big_quiet_step (fail))
                  go_big_quiet_step ((go_at_call 20; exact ka _))
                  repeat (go_big_quiet_step (fail))
                  go_big_quiet_step ((go_at_call 21; exact kb _))
                  repeat (go_big_quiet_step (fail))
                  refine wpQuiet_nil ?_
                  intro _ hw'
                  obtain ⟨pw, hw''⟩ := hw'
                  subst hw''
                  have hV3 : Hid (Dw W pw.W mb nn T [.q wb nn T]) := ⟨(hV2.out.grown pw.h).sub (by simp)⟩
                  clear ka kb kc0 kc1 hV2
                  go_wp2_with fail
                  go_roundw
                  case rel => exact ⟨k + 1, nn, T, by omega, by omega, by go_num, hV3, hTl⟩
                  case measure => simp [intOf]; omega
                · have hz1 : decide ((T.length : Int) > 0) = false := decide_eq_false (by omega)
                  have hz2 : decide (0 < T.length) = false := decide_eq_false (by omega)
                  have hz3 : decide ((0 : Int) < T.length) = false := decide_eq_false (by omega)
                  have hsb : Hid (soonB T = false) := ⟨by rw [List.eq_nil_of_length_eq_zero (by omega : T.length = 0)]; rfl⟩
                  obtain ⟨s, hst⟩ : ∃ s, Hid (soonT T = s) := ⟨_, ⟨rfl⟩⟩
                  go_wp2_with fail
                  refine (soon_d hD5.out List.mem_cons_self hst hsb).mono ?_
                  rintro r v1 ⟨rfl, hV1⟩
                  replace hV1 : Hid _ := ⟨hV1⟩
                  clear hD5
                  go_wp2_with fail
                  refine (stands_e hV1.out List.mem_cons_self).mono ?_
                  rintro r v2 ⟨rfl, hV2⟩
                  obtain ⟨la, lc, hLc, z0, z1, -⟩ := hV2.cells
                  replace hV2 : Hid _ := ⟨hV2⟩
                  clear hV1 hLc
                  haveI := lat_nonempty v2
                  have kc0 := lat_cell z0
                  have kc1 := lat_cell z1
                  have ka := fun p : Lat v2 => lat_clock_d hV2.out List.mem_cons_self p
                  have kb := fun p : Lat v2 => lat_len_d hV2.out List.mem_cons_self p
                  have hne1 : (nn != nn) = false := by simp
                  have hne2 : ((T.length : Int) != (T.length : Int)) = false := by simp
                  clear z0 z1
                  go_wp2_with fail
                  refine wp_region_lat (by kernel_rfl) (by kernel_rfl) ?_
                  repeat (go_big_quiet_step (fail))
                  go_big_quiet_step ((go_at_call 20; exact ka _))
                  repeat (go_big_quiet_step (fail))
                  go_big_quiet_step ((go_at_call 21; exact kb _))
                  repeat (go_big_quiet_step (fail))
                  refine wpQuiet_nil ?_
                  intro _ hw'
                  obtain ⟨pw, hw''⟩ := hw'
                  subst hw''
                  have hV3 : Hid (Dw W pw.W mb nn T [.q wb nn T]) := ⟨(hV2.out.grown pw.h).sub (by simp)⟩
                  clear ka kb kc0 kc1 hV2
                  go_wp2_with fail
                  go_roundw
                  case rel => exact ⟨k + 1, nn, T, by omega, by omega, by go_num, hV3, hTl⟩
                  case measure => simp [intOf]; omega
              · have e4 : (x.kd == 4) = false := by simp [hk5]
                have e5 : (x.kd == 5) = false := by simp [hk5]
                have e6 : (x.kd == 6) = true := by simp [hk5]
                clear hk3 hk12 hk5
                go_wp2_with fail
                refine (adv_d hD2.out t htb hA hT hnn).mono ?_
                rintro r w3 ⟨da, dc, rfl, hD3⟩
                replace hD3 : Hid _ := ⟨hD3⟩
                clear hD2
                go_wp2_with fail
                refine (rwadv_s hD3.out hsr hab.out (by have := hLl.out; omega) t hA hT hnn).mono ?_
                rintro r w4 ⟨ea, ec, rfl, hLA, hD4⟩
                replace hD4 : Hid _ := ⟨hD4⟩
                replace hLA : Hid _ := ⟨hLA⟩
                clear hD3
                go_wp2_with fail
                refine (same_d hD4.out (List.mem_cons_of_mem _ List.mem_cons_self) hLA.out hAl).mono ?_
                rintro r w5 ⟨rfl, hD5⟩
                replace hD5 : Hid _ := ⟨hD5⟩
                clear hD4 hLA
                clear c0 c1 c2 c3
                have hLb : T.length ≤ 100000 := by have := hTl.out; omega
                by_cases hpos : 0 < T.length
                · have hz1 : decide ((T.length : Int) > 0) = true := decide_eq_true (by omega)
                  have hz2 : decide (0 < T.length) = true := decide_eq_true (by omega)
                  have hz3 : decide ((0 : Int) < T.length) = true := decide_eq_true (by omega)
                  obtain ⟨f, hf⟩ := some_at (es := T) (k := 0) hpos
                  have hsb : Hid (soonB T = true) := ⟨by cases T with | nil => simp at hf | cons y ys => rfl⟩
                  have hst : Hid (soonT T = f.at_) := ⟨by cases T with | nil => simp at hf | cons y ys => simp at hf; subst hf; rfl⟩
                  replace hf : Hid _ := ⟨hf⟩
                  go_wp2_with fail
                  refine (soon_d hD5.out List.mem_cons_self hst hsb).mono ?_
                  rintro r v1 ⟨rfl, hV1⟩
                  replace hV1 : Hid _ := ⟨hV1⟩
                  clear hD5
                  go_wp2_with fail
                  refine (stands_e hV1.out List.mem_cons_self).mono ?_
                  rintro r v2 ⟨rfl, hV2⟩
                  obtain ⟨la, lc, hLc, z0, z1, -⟩ := hV2.cells
                  obtain ⟨lb, lo, rfl, -, -, y1⟩ := hLc.at hf.out
                  have y2 : v2.cell? ⟨lb, lo + 1, none⟩ = some (.int .u64 f.at_) := by simpa using y1
                  replace hV2 : Hid _ := ⟨hV2⟩
                  clear hV1 hLc
                  haveI := lat_nonempty v2
                  have kc0 := lat_cell z0
                  have kc1 := lat_cell z1
                  have kc2 := lat_cell y2
                  clear y1 y2
                  have ka := fun p : Lat v2 => lat_clock_d hV2.out List.mem_cons_self p
                  have kb := fun p : Lat v2 => lat_len_d hV2.out List.mem_cons_self p
                  have hne1 : (nn != nn) = false := by simp
                  have hne2 : ((T.length : Int) != (T.length : Int)) = false := by simp
                  clear z0 z1
                  go_wp2_with fail
                  refine wp_region_lat (by kernel_rfl) (by kernel_rfl) ?_
                  repeat (go_big_quiet_step (fail))
                  go_big_quiet_step ((go_at_call 20; exact ka _))
                  repeat (go_big_quiet_step (fail))
                  go_big_quiet_step ((go_at_call 21; exact kb _))
                  repeat (go_big_quiet_step (fail))
                  refine wpQuiet_nil ?_
                  intro _ hw'
                  obtain ⟨pw, hw''⟩ := hw'
                  subst hw''
                  have hV3 : Hid (Dw W pw.W mb nn T [.q wb nn T]) := ⟨(hV2.out.grown pw.h).sub (by simp)⟩
                  clear ka kb kc0 kc1 hV2
                  go_wp2_with fail
                  go_roundw
                  case rel => exact ⟨k + 1, nn, T, by omega, by omega, by go_num, hV3, hTl⟩
                  case measure => simp [intOf]; omega
                · have hz1 : decide ((T.length : Int) > 0) = false := decide_eq_false (by omega)
                  have hz2 : decide (0 < T.length) = false := decide_eq_false (by omega)
                  have hz3 : decide ((0 : Int) < T.length) = false := decide_eq_false (by omega)
                  have hsb : Hid (soonB T = false) := ⟨by rw [List.eq_nil_of_length_eq_zero (by omega : T.length = 0)]; rfl⟩
                  obtain ⟨s, hst⟩ : ∃ s, Hid (soonT T = s) := ⟨_, ⟨rfl⟩⟩
                  go_wp2_with fail
                  refine (soon_d hD5.out List.mem_cons_self hst hsb).mono ?_
                  rintro r v1 ⟨rfl, hV1⟩
                  replace hV1 : Hid _ := ⟨hV1⟩
                  clear hD5
                  go_wp2_with fail
                  refine (stands_e hV1.out List.mem_cons_self).mono ?_
                  rintro r v2 ⟨rfl, hV2⟩
                  obtain ⟨la, lc, hLc, z0, z1, -⟩ := hV2.cells
                  replace hV2 : Hid _ := ⟨hV2⟩
                  clear hV1 hLc
                  haveI := lat_nonempty v2
                  have kc0 := lat_cell z0
                  have kc1 := lat_cell z1
                  have ka := fun p : Lat v2 => lat_clock_d hV2.out List.mem_cons_self p
                  have kb := fun p : Lat v2 => lat_len_d hV2.out List.mem_cons_self p
                  have hne1 : (nn != nn) = false := by simp
                  have hne2 : ((T.length : Int) != (T.length : Int)) = false := by simp
                  clear z0 z1
                  go_wp2_with fail
                  refine wp_region_lat (by kernel_rfl) (by kernel_rfl) ?_
                  repeat (go_big_quiet_step (fail))
                  go_big_quiet_step ((go_at_call 20; exact ka _))
                  repeat (go_big_quiet_step (fail))
                  go_big_quiet_step ((go_at_call 21; exact kb _))
                  repeat (go_big_quiet_step (fail))
                  refine wpQuiet_nil ?_
                  intro _ hw'
                  obtain ⟨pw, hw''⟩ := hw'
                  subst hw''
                  have hV3 : Hid (Dw W pw.W mb nn T [.q wb nn T]) := ⟨(hV2.out.grown pw.h).sub (by simp)⟩
                  clear ka kb kc0 kc1 hV2
                  go_wp2_with fail
                  go_roundw
                  case rel => exact ⟨k + 1, nn, T, by omega, by omega, by go_num, hV3, hTl⟩
                  case measure => simp [intOf]; omega
            · have e4 : (x.kd == 4) = false := by simp; omega
              have e5 : (x.kd == 5) = false := by simp; omega
              have e6 : (x.kd == 6) = false := by simp; omega
              clear hk3 hk12 hk56
              clear c0 c1 c2 c3
              have hLb : L.length ≤ 100000 := by have := hLl.out; omega
              by_cases hpos : 0 < L.length
              · have hz1 : decide ((L.length : Int) > 0) = true := decide_eq_true (by omega)
                have hz2 : decide (0 < L.length) = true := decide_eq_true (by omega)
                have hz3 : decide ((0 : Int) < L.length) = true := decide_eq_true (by omega)
                obtain ⟨f, hf⟩ := some_at (es := L) (k := 0) hpos
                have hsb : Hid (soonB L = true) := ⟨by cases L with | nil => simp at hf | cons y ys => rfl⟩
                have hst : Hid (soonT L = f.at_) := ⟨by cases L with | nil => simp at hf | cons y ys => simp at hf; subst hf; rfl⟩
                replace hf : Hid _ := ⟨hf⟩
                go_wp2_with fail
                refine (soon_d hD2.out List.mem_cons_self hst hsb).mono ?_
                rintro r v1 ⟨rfl, hV1⟩
                replace hV1 : Hid _ := ⟨hV1⟩
                clear hD2
                go_wp2_with fail
                refine (stands_e hV1.out List.mem_cons_self).mono ?_
                rintro r v2 ⟨rfl, hV2⟩
                obtain ⟨la, lc, hLc, z0, z1, -⟩ := hV2.cells
                obtain ⟨lb, lo, rfl, -, -, y1⟩ := hLc.at hf.out
                have y2 : v2.cell? ⟨lb, lo + 1, none⟩ = some (.int .u64 f.at_) := by simpa using y1
                replace hV2 : Hid _ := ⟨hV2⟩
                clear hV1 hLc
                haveI := lat_nonempty v2
                have kc0 := lat_cell z0
                have kc1 := lat_cell z1
                have kc2 := lat_cell y2
                clear y1 y2
                have ka := fun p : Lat v2 => lat_clock_d hV2.out List.mem_cons_self p
                have kb := fun p : Lat v2 => lat_len_d hV2.out List.mem_cons_self p
                have hne1 : (nw != nw) = false := by simp
                have hne2 : ((L.length : Int) != (L.length : Int)) = false := by simp
                clear z0 z1
                go_wp2_with fail
                refine wp_region_lat (by kernel_rfl) (by kernel_rfl) ?_
                repeat (go_big_quiet_step (fail))
                go_big_quiet_step ((go_at_call 20; exact ka _))
                repeat (go_big_quiet_step (fail))
                go_big_quiet_step ((go_at_call 21; exact kb _))
                repeat (go_big_quiet_step (fail))
                refine wpQuiet_nil ?_
                intro _ hw'
                obtain ⟨pw, hw''⟩ := hw'
                subst hw''
                have hV3 : Hid (Dw W pw.W mb nw L [.q wb nw L]) := ⟨(hV2.out.grown pw.h).sub (by simp)⟩
                clear ka kb kc0 kc1 hV2
                go_wp2_with fail
                go_roundw
                case rel => exact ⟨k + 1, nw, L, by omega, by omega, by go_num, hV3, ⟨by have := hLk.out; omega⟩⟩
                case measure => simp [intOf]; omega
              · have hz1 : decide ((L.length : Int) > 0) = false := decide_eq_false (by omega)
                have hz2 : decide (0 < L.length) = false := decide_eq_false (by omega)
                have hz3 : decide ((0 : Int) < L.length) = false := decide_eq_false (by omega)
                have hsb : Hid (soonB L = false) := ⟨by rw [List.eq_nil_of_length_eq_zero (by omega : L.length = 0)]; rfl⟩
                obtain ⟨s, hst⟩ : ∃ s, Hid (soonT L = s) := ⟨_, ⟨rfl⟩⟩
                go_wp2_with fail
                refine (soon_d hD2.out List.mem_cons_self hst hsb).mono ?_
                rintro r v1 ⟨rfl, hV1⟩
                replace hV1 : Hid _ := ⟨hV1⟩
                clear hD2
                go_wp2_with fail
                refine (stands_e hV1.out List.mem_cons_self).mono ?_
                rintro r v2 ⟨rfl, hV2⟩
                obtain ⟨la, lc, hLc, z0, z1, -⟩ := hV2.cells
                replace hV2 : Hid _ := ⟨hV2⟩
                clear hV1 hLc
                haveI := lat_nonempty v2
                have kc0 := lat_cell z0
                have kc1 := lat_cell z1
                have ka := fun p : Lat v2 => lat_clock_d hV2.out List.mem_cons_self p
                have kb := fun p : Lat v2 => lat_len_d hV2.out List.mem_cons_self p
                have hne1 : (nw != nw) = false := by simp
                have hne2 : ((L.length : Int) != (L.length : Int)) = false := by simp
                clear z0 z1
                go_wp2_with fail
                refine wp_region_lat (by kernel_rfl) (by kernel_rfl) ?_
                repeat (go_big_quiet_step (fail))
                go_big_quiet_step ((go_at_call 20; exact ka _))
                repeat (go_big_quiet_step (fail))
                go_big_quiet_step ((go_at_call 21; exact kb _))
                repeat (go_big_quiet_step (fail))
                refine wpQuiet_nil ?_
                intro _ hw'
                obtain ⟨pw, hw''⟩ := hw'
                subst hw''
                have hV3 : Hid (Dw W pw.W mb nw L [.q wb nw L]) := ⟨(hV2.out.grown pw.h).sub (by simp)⟩
                clear ka kb kc0 kc1 hV2
                go_wp2_with fail
                go_roundw
                case rel => exact ⟨k + 1, nw, L, by omega, by omega, by go_num, hV3, ⟨by have := hLk.out; omega⟩⟩
                case measure => simp [intOf]; omega
      · have hds : decide ((x.nm.size : Int) > 40) = true := by simp; omega
        have hds2 : decide (40 < x.nm.size) = true := by simp; omega
        clear hSb
        go_wp2_with fail
        go_roundw
        case rel => exact ⟨k + 1, nw, L, by omega, by omega, by go_num, ⟨(hS.out.grown hga).sub (by simp)⟩, ⟨by have := hLk.out; omega⟩⟩
        case measure => simp [intOf]; omega
    · have hout : (¬ k < xs.length ∧ decide ((k : Int) < xs.length) = false ∧ decide (k < xs.length) = false) ∨ (k < xs.length ∧ ¬ k < 100 ∧ decide ((k : Int) < xs.length) = true ∧ decide ((k : Int) < 100) = false) := by
        by_cases h : k < xs.length
        · exact .inr ⟨h, by omega, by simp; omega, by simp; omega⟩
        · exact .inl ⟨h, by simp; omega, by simp; omega⟩
      clear hgo
      rcases hout with ⟨hnl, hd1, hd2⟩ | ⟨hnl, hn1, hd1, hd2⟩
      · go_wp2_with fail
        refine (slot_none _ wb (-1) 0 (by omega)).mono ?_
        rintro r w2 ⟨rfl, rfl⟩
        go_wp2_with fail
        refine (slot_none _ wb 4 0 (by omega)).mono ?_
        rintro r w2 ⟨rfl, rfl⟩
        go_wp2_with fail
        refine (slot_none _ wb 0 16 (by omega)).mono ?_
        rintro r w2 ⟨rfl, rfl⟩
        go_wp2_with fail
        refine (slot_none _ wb 0 (-1) (by omega)).mono ?_
        rintro r w2 ⟨rfl, rfl⟩
        go_wp2_with fail
        refine (alive_d hS.out).mono ?_
        rintro r w3 ⟨rfl, hB⟩
        replace hB : Hid _ := ⟨hB⟩
        go_wp2_with fail
        go_ret
        exact ⟨rfl, hB.out⟩
      · go_wp2_with fail
        refine (slot_none _ wb (-1) 0 (by omega)).mono ?_
        rintro r w2 ⟨rfl, rfl⟩
        go_wp2_with fail
        refine (slot_none _ wb 4 0 (by omega)).mono ?_
        rintro r w2 ⟨rfl, rfl⟩
        go_wp2_with fail
        refine (slot_none _ wb 0 16 (by omega)).mono ?_
        rintro r w2 ⟨rfl, rfl⟩
        go_wp2_with fail
        refine (slot_none _ wb 0 (-1) (by omega)).mono ?_
        rintro r w2 ⟨rfl, rfl⟩
        go_wp2_with fail
        refine (alive_d hS.out).mono ?_
        rintro r w3 ⟨rfl, hB⟩
        replace hB : Hid _ := ⟨hB⟩
        go_wp2_with fail
        go_ret
        exact ⟨rfl, hB.out⟩
theorem plays_walk (now : Int) (hnow : 0 ≤ now ∧ now < 18446744073709551616) (a : Option Addr) (len cap : Nat) (xs : List Ac) (W : World) (ha : Acs W.heap.size W (.slice a len cap) xs) :
    Calls Try.prog 3 #[.int .u64 now, .slice a len cap] W fun e W' => e = .returned (.bool true) ∧ Below W.heap.size W W' := by
  obtain ⟨a', cap', e, hxl⟩ := ha.shape
  simp only [Value.slice.injEq] at e
  obtain ⟨rfl, rfl, rfl⟩ := e
  exact plays_law now hnow a cap xs W ha hxl
end Go.Proofs.Ytlljfgpmjpmoiaa
