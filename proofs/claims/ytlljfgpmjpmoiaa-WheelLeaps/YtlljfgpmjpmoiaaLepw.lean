/- The walk of WheelLeaps. -/
import Derived.Test.YtlljfgpmjpmoiaaLep
namespace Go.Proofs.Ytlljfgpmjpmoiaa
open Go.RowKit Go.IntWalk Go.Maps Go.Shelf
set_option linter.unusedVariables false
set_option maxRecDepth 100000 in
set_option maxHeartbeats 8000000 in
theorem leaps_law (now : Int) (hnow : 0 ≤ now ∧ now < 18446744073709551616) (a : Option Addr) (cap : Nat) (xs : List Ac) (W : World) (ha : Acs W.heap.size W (.slice a xs.length cap) xs) (hxl : xs.length ≤ maxLen) (n0 n1 : Int) (h0 : 0 ≤ n0 ∧ n0 < 18446744073709551616) (h1 : 0 ≤ n1 ∧ n1 < 18446744073709551616) (m e : Int) (hm : Hid (ltr now n0 = m)) (he : Hid (ltr m n1 = e)) (hmid : (0 ≤ m ∧ m < 18446744073709551616) ∧ (0 ≤ e ∧ e < 18446744073709551616) ∧ m ≤ e) (hnm : now ≤ m) :
    Calls Try.prog 5 #[.int .u64 now, .slice a xs.length cap, .agg #[.int .u64 n0, .int .u64 n1]] W fun e W' => e = .returned (.bool true) ∧ Below W.heap.size W W' := by
  unfold maxLen at hxl
  have hb0 := (St.start W).box (.cells #[.int .u64 n0, .int .u64 n1] 54)
  go_enter Try.func5, Try.ntmps5
  go_wp2_with fail
  refine (new_s hb0 now hnow).mono ?_
  rintro r w1 ⟨wa, rfl, hs0⟩
  go_wp2_with fail
  refine (new_s hs0 now hnow).mono ?_
  rintro r w1 ⟨wbb, rfl, hs1⟩
  clear hs0 hb0
  replace hs1 : Hid _ := ⟨hs1.swap⟩
  go_wp2_with fail
  go_loopw [9] (fun i wr => ∃ (k : Nat) (L : List E), k ≤ xs.length ∧ k ≤ 100 ∧ i = .int .i64 k ∧ Hid (St W wr [.q wa now L, .q wbb now L, .b W.heap.size (.cells #[.int .u64 n0, .int .u64 n1] 54)]) ∧ Hid (L.length ≤ k))
    (fun i _ => 100 - (intOf i).toNat)
  case atStart => exact ⟨0, [], by omega, by omega, rfl, hs1, ⟨by simp⟩⟩
  case round =>
    clear hs1
    obtain ⟨k, L, hk, hk2, rfl, hS, hLk⟩ := hrel
    by_cases hgo : k < xs.length ∧ k < 100
    · obtain ⟨hlt, h100⟩ := hgo
      have hd1 : decide ((k : Int) < xs.length) = true := by simp; omega
      have hd2 : decide ((k : Int) < 100) = true := by simp; omega
      obtain ⟨x, hx⟩ : ∃ x, xs[k]? = some x := ⟨xs[k], List.getElem?_eq_getElem hlt⟩
      obtain ⟨b, off, rfl, hb, hok, c0, c1, c2, c3⟩ := (ha.below hS.out.2).at hx
      replace hx : Hid _ := ⟨hx⟩
      have hSb := hS.out.box (.cells #[.int .i64 x.kd, .string x.nm, .int .u64 x.at_, .int .u64 x.by_] 31)
      obtain ⟨hsr, hll, _, hoks, hnw⟩ := hS.out.mq List.mem_cons_self
      have hLl : L.length < 100000 := by have := hLk.out; omega
      replace hoks : Hid _ := ⟨hoks⟩
      replace hLl : Hid _ := ⟨hLl⟩
      clear hll
      by_cases hsz : x.nm.size ≤ 40
      · have hds : decide ((x.nm.size : Int) > 40) = false := by simp; omega
        have hds2 : decide (40 < x.nm.size) = false := by simp; omega
        obtain ⟨t, ht⟩ : ∃ t, Hid (x.tk now L = t) := ⟨_, ⟨rfl⟩⟩
        have htb : 0 ≤ t ∧ t < 18446744073709551616 := by rw [← ht.out]; exact x.tk_bd hok hnw hoks.out
        by_cases hk12 : x.kd = 1 ∨ x.kd = 2
        · obtain ⟨pb, hpb⟩ : ∃ pb, Hid (decide (now < t) = pb) := ⟨_, ⟨rfl⟩⟩
          obtain ⟨T, hT⟩ : ∃ T, Hid (putA now ⟨x.nm, t⟩ L = T) := ⟨_, ⟨rfl⟩⟩
          have hTl : Hid (T.length ≤ k + 1) := ⟨by rw [← hT.out]; have := putA_le (now := now) hsr ⟨x.nm, t⟩; have := hLk.out; omega⟩
          rcases hk12 with hk1 | hk1
          · have e1 : (x.kd == 1) = true := by simp [hk1]
            have e3 : (x.kd == 3) = false := by simp [hk1]
            clear hk1
            go_wp2_with fail
            refine (tick_m hSb (List.mem_cons_of_mem _ List.mem_cons_self) x hok ht).mono ?_
            rintro r w2 ⟨rfl, hgA⟩
            have hS2 := (hSb.grown hgA).swap
            obtain ⟨d0, d1, d2, d3⟩ := own_4 hS2.swap.b
            go_wp2_with fail
            refine (put_e hS2 x.nm t hok.2.1 htb hLl.out hpb hT).mono ?_
            rintro r w3 ⟨rfl, hs3⟩
            clear d0 d1 d2 d3 hS2
            obtain ⟨d0, d1, d2, d3⟩ := own_4 hs3.swap.b
            have hs3' := hs3.rot
            go_wp2_with fail
            refine (put_e hs3' x.nm t hok.2.1 htb hLl.out hpb hT).mono ?_
            rintro r w4 ⟨rfl, hs4⟩
            clear d0 d1 d2 d3 hs3'
            obtain ⟨d0, d1, d2, d3⟩ := own_4 hs4.rot.b
            replace hs4 : Hid _ := ⟨hs4.rot.drop.swap⟩
            clear c0 c1 c2 c3 hs3
            go_wp2_with fail
            go_roundw
            case rel => exact ⟨k + 1, T, by omega, by omega, by go_num, hs4, hTl⟩
            case measure => simp [intOf]; omega
          · have e1 : (x.kd == 1) = false := by simp [hk1]
            have e2 : (x.kd == 2) = true := by simp [hk1]
            have e3 : (x.kd == 3) = false := by simp [hk1]
            clear hk1
            go_wp2_with fail
            refine (tick_m hSb (List.mem_cons_of_mem _ List.mem_cons_self) x hok ht).mono ?_
            rintro r w2 ⟨rfl, hgA⟩
            have hS2 := (hSb.grown hgA).swap
            obtain ⟨d0, d1, d2, d3⟩ := own_4 hS2.swap.b
            go_wp2_with fail
            refine (put_e hS2 x.nm t hok.2.1 htb hLl.out hpb hT).mono ?_
            rintro r w3 ⟨rfl, hs3⟩
            clear d0 d1 d2 d3 hS2
            obtain ⟨d0, d1, d2, d3⟩ := own_4 hs3.swap.b
            have hs3' := hs3.rot
            go_wp2_with fail
            refine (put_e hs3' x.nm t hok.2.1 htb hLl.out hpb hT).mono ?_
            rintro r w4 ⟨rfl, hs4⟩
            clear d0 d1 d2 d3 hs3'
            obtain ⟨d0, d1, d2, d3⟩ := own_4 hs4.rot.b
            replace hs4 : Hid _ := ⟨hs4.rot.drop.swap⟩
            clear c0 c1 c2 c3 hs3
            go_wp2_with fail
            go_roundw
            case rel => exact ⟨k + 1, T, by omega, by omega, by go_num, hs4, hTl⟩
            case measure => simp [intOf]; omega
        · have e1 : (x.kd == 1) = false := by simp; omega
          have e2 : (x.kd == 2) = false := by simp; omega
          by_cases hk3 : x.kd = 3
          · have e3 : (x.kd == 3) = true := by simp [hk3]
            obtain ⟨hb', hhb⟩ : ∃ pb, Hid (hasN x.nm L = pb) := ⟨_, ⟨rfl⟩⟩
            obtain ⟨T, hT⟩ : ∃ T, Hid (delN x.nm L = T) := ⟨_, ⟨rfl⟩⟩
            have hTl : Hid (T.length ≤ k + 1) := ⟨by rw [← hT.out]; have := delN_le x.nm L; have := hLk.out; omega⟩
            clear hk3 hk12
            go_wp2_with fail
            refine (drop_e hSb.swap x.nm hok.2.1 hhb hT).mono ?_
            rintro r w3 ⟨rfl, hs3⟩
            obtain ⟨d0, d1, d2, d3⟩ := own_4 hs3.swap.b
            have hs3' := hs3.rot
            go_wp2_with fail
            refine (drop_e hs3' x.nm hok.2.1 hhb hT).mono ?_
            rintro r w4 ⟨rfl, hs4⟩
            replace hs4 : Hid _ := ⟨hs4.rot.drop.swap⟩
            clear c0 c1 c2 c3 d0 d1 d2 d3 hs3 hs3'
            go_wp2_with fail
            go_roundw
            case rel => exact ⟨k + 1, T, by omega, by omega, by go_num, hs4, hTl⟩
            case measure => simp [intOf]; omega
          · have e3 : (x.kd == 3) = false := by simp; omega
            clear hk3 hk12
            go_wp2_with fail
            go_roundw
            case rel => exact ⟨k + 1, L, by omega, by omega, by go_num, ⟨hSb.drop⟩, ⟨by have := hLk.out; omega⟩⟩
            case measure => simp [intOf]; omega
      · have hds : decide ((x.nm.size : Int) > 40) = true := by simp; omega
        have hds2 : decide (40 < x.nm.size) = true := by simp; omega
        go_wp2_with fail
        go_roundw
        case rel => exact ⟨k + 1, L, by omega, by omega, by go_num, ⟨hSb.drop⟩, ⟨by have := hLk.out; omega⟩⟩
        case measure => simp [intOf]; omega
    · have hout : (¬ k < xs.length ∧ decide ((k : Int) < xs.length) = false ∧ decide (k < xs.length) = false) ∨ (k < xs.length ∧ ¬ k < 100 ∧ decide ((k : Int) < xs.length) = true ∧ decide ((k : Int) < 100) = false) := by
        by_cases h : k < xs.length
        · exact .inr ⟨h, by omega, by simp; omega, by simp; omega⟩
        · exact .inl ⟨h, by simp; omega, by simp; omega⟩
      clear hgo
      rcases hout with ⟨hnl, hd1, hd2⟩ | ⟨hnl, hn1, hd1, hd2⟩
      · obtain ⟨hsr, hll, hab, hoks, hnw⟩ := hS.out.mq List.mem_cons_self
        have hL100 : L.length ≤ 100 := by have := hLk.out; omega
        obtain ⟨t2, t3⟩ := two_leaps hsr hmid.2.2
        obtain ⟨A, hA⟩ : ∃ A, Hid (due e L = A) := ⟨_, ⟨rfl⟩⟩
        obtain ⟨R, hR⟩ : ∃ R, Hid (rst e L = R) := ⟨_, ⟨rfl⟩⟩
        obtain ⟨A1, hA1⟩ : ∃ A, Hid (due m L = A) := ⟨_, ⟨rfl⟩⟩
        obtain ⟨R1, hR1⟩ : ∃ R, Hid (rst m L = R) := ⟨_, ⟨rfl⟩⟩
        obtain ⟨A2, hA2⟩ : ∃ A, Hid (due e R1 = A) := ⟨_, ⟨rfl⟩⟩
        have hR2 : Hid (rst e R1 = R) := ⟨by rw [← hR1.out, t3, hR.out]⟩
        have hAA : Hid (A1 ++ A2 = A) := ⟨by rw [← hA1.out, ← hA2.out, ← hR1.out, t2, hA.out]⟩
        have hAl : A.length ≤ 100 := by rw [← hA.out]; have := List.length_filter_le (fun x : E => decide (x.at_ ≤ e)) L; unfold due; omega
        have hn1 : Hid ((if now < e then e else now) = e) := ⟨by split <;> omega⟩
        have hn2 : Hid ((if now < m then m else now) = m) := ⟨by split <;> omega⟩
        have hn3 : Hid ((if m < e then e else m) = e) := ⟨by split <;> omega⟩
        clear t2 t3 hll hab hoks
        obtain ⟨c0, c1, -⟩ := own_b hS.out.rot.b
        go_wp2_with fail
        refine (later_any _ now n0 hnow h0 hm).mono ?_
        rintro r w2 ⟨rfl, rfl⟩
        go_wp2_with fail
        refine (later_any _ m n1 ⟨hmid.1.1, hmid.1.2⟩ h1 he).mono ?_
        rintro r w3 ⟨rfl, rfl⟩
        clear c0 c1
        go_wp2_with fail
        refine (adv_e hS.out e hmid.2.1 hA hR hn1).mono ?_
        rintro r w4 ⟨a4, k4, rfl, hS4⟩
        go_wp2_with fail
        refine (adv_e hS4.rot m hmid.1 hA1 hR1 hn2).mono ?_
        rintro r w5 ⟨a5, k5, rfl, hS5⟩
        go_wp2_with fail
        refine (adv_e hS5 e hmid.2.1 hA2 hR2 hn3).mono ?_
        rintro r w6 ⟨a6, k6, rfl, hS6⟩
        have hS6' : St W w6 (.r 52 (.slice a5 A1.length k5) A1 :: .r 52 (.slice a6 A2.length k6) A2 :: [.q wbb e R, .q wa e R, .r 52 (.slice a4 A.length k4) A, .b W.heap.size (.cells #[.int .u64 n0, .int .u64 n1] 54)]) := hS6.rot.perm ((List.Perm.swap _ _ _).cons _)
        have hlA : A1.length + A2.length ≤ 100 := by have := congrArg List.length hAA.out; rw [List.length_append] at this; omega
        obtain ⟨a7, k7, w7, hrun, hS7⟩ := app_s hS6' (by omega)
        rw [hAA.out] at hrun hS7
        clear hS4 hS5 hS6 hS6'
        replace hS7 : Hid _ := ⟨hS7⟩
        go_wp2_with (at_builtin; refine wpList_append_run rfl _ _ 36 rfl _ _ rfl rfl hrun ?_)
        clear hrun hlA
        refine (len_m hS7.out (by simp : Res.q wa e R ∈ _)).mono ?_
        rintro r w8 ⟨rfl, rfl⟩
        go_wp2_with fail
        refine (len_m hS7.out (by simp : Res.q wbb e R ∈ _)).mono ?_
        rintro r w9 ⟨rfl, rfl⟩
        go_wp2_with fail
        go_loopw [16] (fun i wr => ∃ j : Nat, j ≤ A.length ∧ i = .int .i64 j ∧ Hid (St W wr [.r 52 (.slice a7 A.length k7) A, .r 52 (.slice a6 A2.length k6) A2, .q wbb e R, .q wa e R, .r 52 (.slice a4 A.length k4) A, .b W.heap.size (.cells #[.int .u64 n0, .int .u64 n1] 54)]))
          (fun i _ => A.length - (intOf i).toNat)
        case atStart => exact ⟨0, by omega, rfl, hS7⟩
        case round =>
          clear hS7
          obtain ⟨j, hj, rfl, hS7⟩ := hrel
          by_cases hjA : j < A.length
          · have hdj : decide ((j : Int) < A.length) = true := by simp; omega
            obtain ⟨y, hy⟩ := some_at hjA
            obtain ⟨g, rfl, -, -, q1, q2, -⟩ := hS7.out.r.at hy
            have hr4 : Rw 52 wr (.slice a4 A.length k4) A := hS7.out.mr (by simp)
            obtain ⟨g', rfl, -, -, q3, q4, -⟩ := hr4.at hy
            haveI := lat_nonempty wr
            have kk1 := lat_cell q1
            have kk2 := lat_cell q2
            have kk3 := lat_cell q3
            have kk4 := lat_cell q4
            have hne := neq52 y.n y.at_
            replace hy : Hid _ := ⟨hy⟩
            replace hr4 : Hid _ := ⟨hr4⟩
            go_wp2_with fail
            refine wp_region_lat (by kernel_rfl) (by kernel_rfl) ?_
            repeat (go_big_quiet_step (fail))
            refine wpQuiet_nil ?_
            intro _ hw'
            obtain ⟨pw, hw''⟩ := hw'
            subst hw''
            have hS8 : Hid _ := ⟨hS7.out.grown pw.h⟩
            clear kk1 kk2 kk3 kk4 q1 q2 q3 q4
            go_wp2_with fail
            go_roundw
            case rel => exact ⟨j + 1, by omega, by go_num, hS8⟩
            case measure => simp [intOf]; omega
          · have hdj : decide ((j : Int) < A.length) = false := by simp; omega
            have hS8 : Hid (St W wr [.q wa e R, .q wbb e R]) := ⟨(hS7.out.sub (l' := [.q wbb e R, .q wa e R]) (List.Sublist.cons _ (List.Sublist.cons _ (List.Sublist.cons_cons _ (List.Sublist.cons_cons _ (List.nil_sublist _)))))).swap⟩
            clear hS7
            have hRl : R.length ≤ 100 := by rw [← hR.out]; have := rst_le e L; omega
            go_wp2_with fail
            go_loopw [17] (fun i wr => ∃ p : Nat, p ≤ 4 ∧ i = .int .i64 p ∧ Hid (St W wr [.q wa e R, .q wbb e R]))
              (fun i _ => 4 - (intOf i).toNat)
            case atStart => exact ⟨0, by omega, rfl, hS8⟩
            case round =>
              clear hS8
              obtain ⟨p, hp, rfl, hS8⟩ := hrel
              by_cases hp4 : p < 4
              · have hdp : decide ((p : Int) < 4) = true := by simp; omega
                go_wp2_with fail
                go_loopw [18] (fun i wr => ∃ q : Nat, q ≤ 16 ∧ i = .int .i64 q ∧ Hid (St W wr [.q wa e R, .q wbb e R]))
                  (fun i _ => 16 - (intOf i).toNat)
                case atStart => exact ⟨0, by omega, rfl, hS8⟩
                case round =>
                  clear hS8
                  obtain ⟨q, hq, rfl, hS8⟩ := hrel
                  by_cases hq16 : q < 16
                  · have hdq : decide ((q : Int) < 16) = true := by simp; omega
                    obtain ⟨M, hM⟩ : ∃ M, Hid (atP e R (16 * p + q) = M) := ⟨_, ⟨rfl⟩⟩
                    have hMl : M.length ≤ 100 := by rw [← hM.out]; have := atP_len e R (16 * p + q); omega
                    go_wp2_with fail
                    refine (slot_m hS8.out List.mem_cons_self hp4 hq16 hM).mono ?_
                    rintro r wA ⟨sa, sc, rfl, hSA, -⟩
                    go_wp2_with fail
                    refine (slot_m hSA (by simp : Res.q wbb e R ∈ _) hp4 hq16 hM).mono ?_
                    rintro r wB ⟨sa2, sc2, rfl, hSB, -⟩
                    clear hSA
                    replace hSB : Hid _ := ⟨hSB⟩
                    go_wp2_with fail
                    go_loopw [21] (fun i wr => ∃ j : Nat, j ≤ M.length ∧ i = .int .i64 j ∧ Hid (St W wr [.r 52 (.slice sa2 M.length sc2) M, .r 52 (.slice sa M.length sc) M, .q wa e R, .q wbb e R]))
                      (fun i _ => M.length - (intOf i).toNat)
                    case atStart => exact ⟨0, by omega, rfl, hSB⟩
                    case round =>
                      clear hSB hS8
                      obtain ⟨i, hi, rfl, hSB⟩ := hrel
                      by_cases hiM : i < M.length
                      · have hdi : decide ((i : Int) < M.length) = true := by simp; omega
                        obtain ⟨y, hy⟩ := some_at hiM
                        obtain ⟨g, rfl, -, -, q1, q2, -⟩ := hSB.out.r.at hy
                        obtain ⟨g', rfl, -, -, q3, q4, -⟩ := hSB.out.swap.r.at hy
                        haveI := lat_nonempty wr
                        have kk1 := lat_cell q1
                        have kk2 := lat_cell q2
                        have kk3 := lat_cell q3
                        have kk4 := lat_cell q4
                        have hne := neq52 y.n y.at_
                        replace hy : Hid _ := ⟨hy⟩
                        go_wp2_with fail
                        refine wp_region_lat (by kernel_rfl) (by kernel_rfl) ?_
                        repeat (go_big_quiet_step (fail))
                        refine wpQuiet_nil ?_
                        intro _ hw'
                        obtain ⟨pw, hw''⟩ := hw'
                        subst hw''
                        have hSC : Hid _ := ⟨hSB.out.grown pw.h⟩
                        clear kk1 kk2 kk3 kk4 q1 q2 q3 q4
                        go_wp2_with fail
                        go_roundw
                        case rel => exact ⟨i + 1, by omega, by go_num, hSC⟩
                        case measure => simp [intOf]; omega
                      · have hdi : decide ((i : Int) < M.length) = false := by simp; omega
                        go_wp2_with fail
                        go_roundw
                        case rel => exact ⟨q + 1, by omega, by go_num, ⟨hSB.out.drop.drop⟩⟩
                        case measure => simp [intOf]; omega
                  · have hdq : decide ((q : Int) < 16) = false := by simp; omega
                    go_wp2_with fail
                    go_roundw
                    case rel => exact ⟨p + 1, by omega, by go_num, hS8⟩
                    case measure => simp [intOf]; omega
              · have hdp : decide ((p : Int) < 4) = false := by simp; omega
                obtain ⟨M, hM⟩ : ∃ M, Hid (atP e R 64 = M) := ⟨_, ⟨rfl⟩⟩
                go_wp2_with fail
                refine (alive_s hS8.out).mono ?_
                rintro r wA ⟨rfl, hSA⟩
                go_wp2_with fail
                refine (far_m hSA List.mem_cons_self hM).mono ?_
                rintro r wB ⟨sa, sc, rfl, hSB, -⟩
                go_wp2_with fail
                refine (far_m hSB (by simp : Res.q wbb e R ∈ _) hM).mono ?_
                rintro r wC ⟨sa2, sc2, rfl, hSC, -⟩
                go_wp2
                go_ret
                exact ⟨rfl, hSC.2⟩
      · obtain ⟨hsr, hll, hab, hoks, hnw⟩ := hS.out.mq List.mem_cons_self
        have hL100 : L.length ≤ 100 := by have := hLk.out; omega
        obtain ⟨t2, t3⟩ := two_leaps hsr hmid.2.2
        obtain ⟨A, hA⟩ : ∃ A, Hid (due e L = A) := ⟨_, ⟨rfl⟩⟩
        obtain ⟨R, hR⟩ : ∃ R, Hid (rst e L = R) := ⟨_, ⟨rfl⟩⟩
        obtain ⟨A1, hA1⟩ : ∃ A, Hid (due m L = A) := ⟨_, ⟨rfl⟩⟩
        obtain ⟨R1, hR1⟩ : ∃ R, Hid (rst m L = R) := ⟨_, ⟨rfl⟩⟩
        obtain ⟨A2, hA2⟩ : ∃ A, Hid (due e R1 = A) := ⟨_, ⟨rfl⟩⟩
        have hR2 : Hid (rst e R1 = R) := ⟨by rw [← hR1.out, t3, hR.out]⟩
        have hAA : Hid (A1 ++ A2 = A) := ⟨by rw [← hA1.out, ← hA2.out, ← hR1.out, t2, hA.out]⟩
        have hAl : A.length ≤ 100 := by rw [← hA.out]; have := List.length_filter_le (fun x : E => decide (x.at_ ≤ e)) L; unfold due; omega
        have hn1 : Hid ((if now < e then e else now) = e) := ⟨by split <;> omega⟩
        have hn2 : Hid ((if now < m then m else now) = m) := ⟨by split <;> omega⟩
        have hn3 : Hid ((if m < e then e else m) = e) := ⟨by split <;> omega⟩
        clear t2 t3 hll hab hoks
        obtain ⟨c0, c1, -⟩ := own_b hS.out.rot.b
        go_wp2_with fail
        refine (later_any _ now n0 hnow h0 hm).mono ?_
        rintro r w2 ⟨rfl, rfl⟩
        go_wp2_with fail
        refine (later_any _ m n1 ⟨hmid.1.1, hmid.1.2⟩ h1 he).mono ?_
        rintro r w3 ⟨rfl, rfl⟩
        clear c0 c1
        go_wp2_with fail
        refine (adv_e hS.out e hmid.2.1 hA hR hn1).mono ?_
        rintro r w4 ⟨a4, k4, rfl, hS4⟩
        go_wp2_with fail
        refine (adv_e hS4.rot m hmid.1 hA1 hR1 hn2).mono ?_
        rintro r w5 ⟨a5, k5, rfl, hS5⟩
        go_wp2_with fail
        refine (adv_e hS5 e hmid.2.1 hA2 hR2 hn3).mono ?_
        rintro r w6 ⟨a6, k6, rfl, hS6⟩
        have hS6' : St W w6 (.r 52 (.slice a5 A1.length k5) A1 :: .r 52 (.slice a6 A2.length k6) A2 :: [.q wbb e R, .q wa e R, .r 52 (.slice a4 A.length k4) A, .b W.heap.size (.cells #[.int .u64 n0, .int .u64 n1] 54)]) := hS6.rot.perm ((List.Perm.swap _ _ _).cons _)
        have hlA : A1.length + A2.length ≤ 100 := by have := congrArg List.length hAA.out; rw [List.length_append] at this; omega
        obtain ⟨a7, k7, w7, hrun, hS7⟩ := app_s hS6' (by omega)
        rw [hAA.out] at hrun hS7
        clear hS4 hS5 hS6 hS6'
        replace hS7 : Hid _ := ⟨hS7⟩
        go_wp2_with (at_builtin; refine wpList_append_run rfl _ _ 36 rfl _ _ rfl rfl hrun ?_)
        clear hrun hlA
        refine (len_m hS7.out (by simp : Res.q wa e R ∈ _)).mono ?_
        rintro r w8 ⟨rfl, rfl⟩
        go_wp2_with fail
        refine (len_m hS7.out (by simp : Res.q wbb e R ∈ _)).mono ?_
        rintro r w9 ⟨rfl, rfl⟩
        go_wp2_with fail
        go_loopw [16] (fun i wr => ∃ j : Nat, j ≤ A.length ∧ i = .int .i64 j ∧ Hid (St W wr [.r 52 (.slice a7 A.length k7) A, .r 52 (.slice a6 A2.length k6) A2, .q wbb e R, .q wa e R, .r 52 (.slice a4 A.length k4) A, .b W.heap.size (.cells #[.int .u64 n0, .int .u64 n1] 54)]))
          (fun i _ => A.length - (intOf i).toNat)
        case atStart => exact ⟨0, by omega, rfl, hS7⟩
        case round =>
          clear hS7
          obtain ⟨j, hj, rfl, hS7⟩ := hrel
          by_cases hjA : j < A.length
          · have hdj : decide ((j : Int) < A.length) = true := by simp; omega
            obtain ⟨y, hy⟩ := some_at hjA
            obtain ⟨g, rfl, -, -, q1, q2, -⟩ := hS7.out.r.at hy
            have hr4 : Rw 52 wr (.slice a4 A.length k4) A := hS7.out.mr (by simp)
            obtain ⟨g', rfl, -, -, q3, q4, -⟩ := hr4.at hy
            haveI := lat_nonempty wr
            have kk1 := lat_cell q1
            have kk2 := lat_cell q2
            have kk3 := lat_cell q3
            have kk4 := lat_cell q4
            have hne := neq52 y.n y.at_
            replace hy : Hid _ := ⟨hy⟩
            replace hr4 : Hid _ := ⟨hr4⟩
            go_wp2_with fail
            refine wp_region_lat (by kernel_rfl) (by kernel_rfl) ?_
            repeat (go_big_quiet_step (fail))
            refine wpQuiet_nil ?_
            intro _ hw'
            obtain ⟨pw, hw''⟩ := hw'
            subst hw''
            have hS8 : Hid _ := ⟨hS7.out.grown pw.h⟩
            clear kk1 kk2 kk3 kk4 q1 q2 q3 q4
            go_wp2_with fail
            go_roundw
            case rel => exact ⟨j + 1, by omega, by go_num, hS8⟩
            case measure => simp [intOf]; omega
          · have hdj : decide ((j : Int) < A.length) = false := by simp; omega
            have hS8 : Hid (St W wr [.q wa e R, .q wbb e R]) := ⟨(hS7.out.sub (l' := [.q wbb e R, .q wa e R]) (List.Sublist.cons _ (List.Sublist.cons _ (List.Sublist.cons_cons _ (List.Sublist.cons_cons _ (List.nil_sublist _)))))).swap⟩
            clear hS7
            have hRl : R.length ≤ 100 := by rw [← hR.out]; have := rst_le e L; omega
            go_wp2_with fail
            go_loopw [17] (fun i wr => ∃ p : Nat, p ≤ 4 ∧ i = .int .i64 p ∧ Hid (St W wr [.q wa e R, .q wbb e R]))
              (fun i _ => 4 - (intOf i).toNat)
            case atStart => exact ⟨0, by omega, rfl, hS8⟩
            case round =>
              clear hS8
              obtain ⟨p, hp, rfl, hS8⟩ := hrel
              by_cases hp4 : p < 4
              · have hdp : decide ((p : Int) < 4) = true := by simp; omega
                go_wp2_with fail
                go_loopw [18] (fun i wr => ∃ q : Nat, q ≤ 16 ∧ i = .int .i64 q ∧ Hid (St W wr [.q wa e R, .q wbb e R]))
                  (fun i _ => 16 - (intOf i).toNat)
                case atStart => exact ⟨0, by omega, rfl, hS8⟩
                case round =>
                  clear hS8
                  obtain ⟨q, hq, rfl, hS8⟩ := hrel
                  by_cases hq16 : q < 16
                  · have hdq : decide ((q : Int) < 16) = true := by simp; omega
                    obtain ⟨M, hM⟩ : ∃ M, Hid (atP e R (16 * p + q) = M) := ⟨_, ⟨rfl⟩⟩
                    have hMl : M.length ≤ 100 := by rw [← hM.out]; have := atP_len e R (16 * p + q); omega
                    go_wp2_with fail
                    refine (slot_m hS8.out List.mem_cons_self hp4 hq16 hM).mono ?_
                    rintro r wA ⟨sa, sc, rfl, hSA, -⟩
                    go_wp2_with fail
                    refine (slot_m hSA (by simp : Res.q wbb e R ∈ _) hp4 hq16 hM).mono ?_
                    rintro r wB ⟨sa2, sc2, rfl, hSB, -⟩
                    clear hSA
                    replace hSB : Hid _ := ⟨hSB⟩
                    go_wp2_with fail
                    go_loopw [21] (fun i wr => ∃ j : Nat, j ≤ M.length ∧ i = .int .i64 j ∧ Hid (St W wr [.r 52 (.slice sa2 M.length sc2) M, .r 52 (.slice sa M.length sc) M, .q wa e R, .q wbb e R]))
                      (fun i _ => M.length - (intOf i).toNat)
                    case atStart => exact ⟨0, by omega, rfl, hSB⟩
                    case round =>
                      clear hSB hS8
                      obtain ⟨i, hi, rfl, hSB⟩ := hrel
                      by_cases hiM : i < M.length
                      · have hdi : decide ((i : Int) < M.length) = true := by simp; omega
                        obtain ⟨y, hy⟩ := some_at hiM
                        obtain ⟨g, rfl, -, -, q1, q2, -⟩ := hSB.out.r.at hy
                        obtain ⟨g', rfl, -, -, q3, q4, -⟩ := hSB.out.swap.r.at hy
                        haveI := lat_nonempty wr
                        have kk1 := lat_cell q1
                        have kk2 := lat_cell q2
                        have kk3 := lat_cell q3
                        have kk4 := lat_cell q4
                        have hne := neq52 y.n y.at_
                        replace hy : Hid _ := ⟨hy⟩
                        go_wp2_with fail
                        refine wp_region_lat (by kernel_rfl) (by kernel_rfl) ?_
                        repeat (go_big_quiet_step (fail))
                        refine wpQuiet_nil ?_
                        intro _ hw'
                        obtain ⟨pw, hw''⟩ := hw'
                        subst hw''
                        have hSC : Hid _ := ⟨hSB.out.grown pw.h⟩
                        clear kk1 kk2 kk3 kk4 q1 q2 q3 q4
                        go_wp2_with fail
                        go_roundw
                        case rel => exact ⟨i + 1, by omega, by go_num, hSC⟩
                        case measure => simp [intOf]; omega
                      · have hdi : decide ((i : Int) < M.length) = false := by simp; omega
                        go_wp2_with fail
                        go_roundw
                        case rel => exact ⟨q + 1, by omega, by go_num, ⟨hSB.out.drop.drop⟩⟩
                        case measure => simp [intOf]; omega
                  · have hdq : decide ((q : Int) < 16) = false := by simp; omega
                    go_wp2_with fail
                    go_roundw
                    case rel => exact ⟨p + 1, by omega, by go_num, hS8⟩
                    case measure => simp [intOf]; omega
              · have hdp : decide ((p : Int) < 4) = false := by simp; omega
                obtain ⟨M, hM⟩ : ∃ M, Hid (atP e R 64 = M) := ⟨_, ⟨rfl⟩⟩
                go_wp2_with fail
                refine (alive_s hS8.out).mono ?_
                rintro r wA ⟨rfl, hSA⟩
                go_wp2_with fail
                refine (far_m hSA List.mem_cons_self hM).mono ?_
                rintro r wB ⟨sa, sc, rfl, hSB, -⟩
                go_wp2_with fail
                refine (far_m hSB (by simp : Res.q wbb e R ∈ _) hM).mono ?_
                rintro r wC ⟨sa2, sc2, rfl, hSC, -⟩
                go_wp2
                go_ret
                exact ⟨rfl, hSC.2⟩
theorem leaps_walk (now : Int) (hnow : 0 ≤ now ∧ now < 18446744073709551616) (a : Option Addr) (len cap : Nat) (xs : List Ac) (W : World) (ha : Acs W.heap.size W (.slice a len cap) xs) (n0 n1 : Int) (h0 : 0 ≤ n0 ∧ n0 < 18446744073709551616) (h1 : 0 ≤ n1 ∧ n1 < 18446744073709551616) :
    Calls Try.prog 5 #[.int .u64 now, .slice a len cap, .agg #[.int .u64 n0, .int .u64 n1]] W fun e W' => e = .returned (.bool true) ∧ Below W.heap.size W W' := by
  obtain ⟨a', cap', e, hxl⟩ := ha.shape
  simp only [Value.slice.injEq] at e
  obtain ⟨rfl, rfl, rfl⟩ := e
  have b0 := ltr_bd hnow h0
  have b1 := ltr_bd ⟨b0.1, b0.2.1⟩ h1
  exact leaps_law now hnow a cap xs W ha hxl n0 n1 h0 h1 _ _ ⟨rfl⟩ ⟨rfl⟩ ⟨⟨b0.1, b0.2.1⟩, ⟨b1.1, b1.2.1⟩, b1.2.2⟩ b0.2.2
end Go.Proofs.Ytlljfgpmjpmoiaa
