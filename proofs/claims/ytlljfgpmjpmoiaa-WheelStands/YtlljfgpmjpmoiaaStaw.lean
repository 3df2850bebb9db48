/- The walk of WheelStands. -/
import Derived.Test.YtlljfgpmjpmoiaaScr
namespace Go.Proofs.Ytlljfgpmjpmoiaa
open Go.RowKit Go.IntWalk Go.Maps Go.Shelf
set_option linter.unusedVariables false
set_option maxRecDepth 100000 in
set_option maxHeartbeats 8000000 in
theorem stands_law (now : Int) (hnow : 0 ≤ now ∧ now < 18446744073709551616) (a : Option Addr) (cap : Nat) (xs : List Ac) (W : World) (ha : Acs W.heap.size W (.slice a xs.length cap) xs) (hxl : xs.length ≤ maxLen) :
    Calls Try.prog 6 #[.int .u64 now, .slice a xs.length cap] W fun e W' => e = .returned (.bool true) ∧ Below W.heap.size W W' := by
  unfold maxLen at hxl
  go_enter Try.func6, Try.ntmps6
  go_wp2_with fail
  refine (new_s (St.start W) now hnow).mono ?_
  rintro r w1 ⟨wb, rfl, hs1⟩
  replace hs1 : Hid _ := ⟨hs1⟩
  go_wp2_with fail
  go_loopw [6] (fun i wr => ∃ (k : Nat) (nw : Int) (L : List E), k ≤ xs.length ∧ k ≤ 100 ∧ i = .int .i64 k ∧ Hid (St W wr [.q wb nw L]) ∧ Hid (L.length ≤ k))
    (fun i _ => 100 - (intOf i).toNat)
  case atStart => exact ⟨0, now, [], by omega, by omega, rfl, hs1, ⟨by simp⟩⟩
  case round =>
    clear hs1
    obtain ⟨k, nw, L, hk, hk2, rfl, hS, hLk⟩ := hrel
    by_cases hgo : k < xs.length ∧ k < 100
    · obtain ⟨hlt, h100⟩ := hgo
      have hd1 : decide ((k : Int) < xs.length) = true := by simp; omega
      have hd2 : decide ((k : Int) < 100) = true := by simp; omega
      obtain ⟨x, hx⟩ : ∃ x, xs[k]? = some x := ⟨xs[k], List.getElem?_eq_getElem hlt⟩
      obtain ⟨b, off, rfl, hb, hok, c0, c1, c2, c3⟩ := (ha.below hS.out.2).at hx
      replace hx : Hid _ := ⟨hx⟩
      have hSb := hS.out.box (.cells #[.int .i64 x.kd, .string x.nm, .int .u64 x.at_, .int .u64 x.by_] 31)
      obtain ⟨hsr, hll, _, hoks, hnw⟩ := hS.out.mq List.mem_cons_self
      have hLl : L.length < 100000 := by have := hLk.out; omega
      replace hoks : Hid _ := ⟨hoks⟩
      replace hLl : Hid _ := ⟨hLl⟩
      clear hll
      by_cases hsz : x.nm.size ≤ 40
      · have hds : decide ((x.nm.size : Int) > 40) = false := by simp; omega
        have hds2 : decide (40 < x.nm.size) = false := by simp; omega
        obtain ⟨t, ht⟩ : ∃ t, Hid (x.tk nw L = t) := ⟨_, ⟨rfl⟩⟩
        have htb : 0 ≤ t ∧ t < 18446744073709551616 := by rw [← ht.out]; exact x.tk_bd hok hnw hoks.out
        by_cases hk12 : x.kd = 1 ∨ x.kd = 2
        · obtain ⟨pb, hpb⟩ : ∃ pb, Hid (decide (nw < t) = pb) := ⟨_, ⟨rfl⟩⟩
          obtain ⟨T, hT⟩ : ∃ T, Hid (putA nw ⟨x.nm, t⟩ L = T) := ⟨_, ⟨rfl⟩⟩
          have hTl : Hid (T.length ≤ k + 1) := ⟨by rw [← hT.out]; have := putA_le (now := nw) hsr ⟨x.nm, t⟩; have := hLk.out; omega⟩
          have hS1 := hSb.grown (grown_drew _)
          rcases hk12 with hk1 | hk1
          · have e1 : (x.kd == 1) = true := by simp [hk1]
            clear hk1
            go_wp2_with fail
            go_region_held3 (fun w' => w'.cell? ⟨wr.heap.size, 0, none⟩ = some (.int .i64 x.kd) ∧ w'.cell? ⟨wr.heap.size, 1, none⟩ = some (.string x.nm) ∧ w'.cell? ⟨wr.heap.size, 2, none⟩ = some (.int .u64 x.at_) ∧ w'.cell? ⟨wr.heap.size, 3, none⟩ = some (.int .u64 x.by_))
              (first
                | go_keep
                | exact own_4 hs3.swap.b
                | exact own_4 (hS1.grown hgA).b)
              (first
                | (go_at_call 10
                   refine (tick_m hS1 (List.mem_cons_of_mem _ List.mem_cons_self) x hok ht).mono ?_
                   rintro r w2 ⟨rfl, hgA⟩)
                | (go_at_call 11
                   refine (put_e (hS1.grown hgA).swap x.nm t hok.2.1 htb hLl.out hpb hT).mono ?_
                   rintro r w3 ⟨rfl, hs3⟩))
            replace hs3 : Hid _ := ⟨hs3.swap.drop⟩
            clear c0 c1 c2 c3
            go_wp2_with fail
            go_roundw
            case rel => exact ⟨k + 1, nw, T, by omega, by omega, by go_num, hs3, hTl⟩
            case measure => simp [intOf]; omega
          · have e1 : (x.kd == 1) = false := by simp [hk1]
            have e2 : (x.kd == 2) = true := by simp [hk1]
            clear hk1
            go_wp2_with fail
            go_region_held3 (fun w' => w'.cell? ⟨wr.heap.size, 0, none⟩ = some (.int .i64 x.kd) ∧ w'.cell? ⟨wr.heap.size, 1, none⟩ = some (.string x.nm) ∧ w'.cell? ⟨wr.heap.size, 2, none⟩ = some (.int .u64 x.at_) ∧ w'.cell? ⟨wr.heap.size, 3, none⟩ = some (.int .u64 x.by_))
              (first
                | go_keep
                | exact own_4 hs3.swap.b
                | exact own_4 (hS1.grown hgA).b)
              (first
                | (go_at_call 10
                   refine (tick_m hS1 (List.mem_cons_of_mem _ List.mem_cons_self) x hok ht).mono ?_
                   rintro r w2 ⟨rfl, hgA⟩)
                | (go_at_call 11
                   refine (put_e (hS1.grown hgA).swap x.nm t hok.2.1 htb hLl.out hpb hT).mono ?_
                   rintro r w3 ⟨rfl, hs3⟩))
            replace hs3 : Hid _ := ⟨hs3.swap.drop⟩
            clear c0 c1 c2 c3
            go_wp2_with fail
            go_roundw
            case rel => exact ⟨k + 1, nw, T, by omega, by omega, by go_num, hs3, hTl⟩
            case measure => simp [intOf]; omega
        · have e1 : (x.kd == 1) = false := by simp; omega
          have e2 : (x.kd == 2) = false := by simp; omega
          by_cases hk3 : x.kd = 3
          · have e3 : (x.kd == 3) = true := by simp [hk3]
            obtain ⟨hb', hhb⟩ : ∃ pb, Hid (hasN x.nm L = pb) := ⟨_, ⟨rfl⟩⟩
            obtain ⟨T, hT⟩ : ∃ T, Hid (delN x.nm L = T) := ⟨_, ⟨rfl⟩⟩
            have hTl : Hid (T.length ≤ k + 1) := ⟨by rw [← hT.out]; have := delN_le x.nm L; have := hLk.out; omega⟩
            clear hk3 hk12
            go_wp2_with fail
            refine (drop_e hSb.swap x.nm hok.2.1 hhb hT).mono ?_
            rintro r w3 ⟨rfl, hs3⟩
            replace hs3 : Hid _ := ⟨hs3.swap.drop⟩
            clear c0 c1 c2 c3
            go_wp2_with fail
            go_roundw
            case rel => exact ⟨k + 1, nw, T, by omega, by omega, by go_num, hs3, hTl⟩
            case measure => simp [intOf]; omega
          · have e3 : (x.kd == 3) = false := by simp; omega
            by_cases hk56 : x.kd = 5 ∨ x.kd = 6
            · obtain ⟨T, hT⟩ : ∃ T, Hid (rst t L = T) := ⟨_, ⟨rfl⟩⟩
              obtain ⟨A, hA⟩ : ∃ A, Hid (due t L = A) := ⟨_, ⟨rfl⟩⟩
              obtain ⟨nn, hnn⟩ : ∃ nn, Hid ((if nw < t then t else nw) = nn) := ⟨_, ⟨rfl⟩⟩
              have hTl : Hid (T.length ≤ k + 1) := ⟨by rw [← hT.out]; have := rst_le t L; have := hLk.out; omega⟩
              rcases hk56 with hk5 | hk5
              · have e5 : (x.kd == 5) = true := by simp [hk5]
                clear hk3 hk12 hk5
                go_wp2_with fail
                refine (tick_m hSb (List.mem_cons_of_mem _ List.mem_cons_self) x hok ht).mono ?_
                rintro r w2 ⟨rfl, hgA⟩
                have hS2 := (hSb.grown hgA).swap
                go_wp2_with fail
                refine (adv_e hS2 t htb hA hT hnn).mono ?_
                rintro r w3 ⟨da, dc, rfl, hs3⟩
                replace hs3 : Hid _ := ⟨hs3.swap.drop.swap.drop⟩
                clear c0 c1 c2 c3 hS2
                go_wp2_with fail
                go_roundw
                case rel => exact ⟨k + 1, nn, T, by omega, by omega, by go_num, hs3, hTl⟩
                case measure => simp [intOf]; omega
              · have e5 : (x.kd == 5) = false := by simp [hk5]
                have e6 : (x.kd == 6) = true := by simp [hk5]
                clear hk3 hk12 hk5
                go_wp2_with fail
                refine (tick_m hSb (List.mem_cons_of_mem _ List.mem_cons_self) x hok ht).mono ?_
                rintro r w2 ⟨rfl, hgA⟩
                have hS2 := (hSb.grown hgA).swap
                go_wp2_with fail
                refine (adv_e hS2 t htb hA hT hnn).mono ?_
                rintro r w3 ⟨da, dc, rfl, hs3⟩
                replace hs3 : Hid _ := ⟨hs3.swap.drop.swap.drop⟩
                clear c0 c1 c2 c3 hS2
                go_wp2_with fail
                go_roundw
                case rel => exact ⟨k + 1, nn, T, by omega, by omega, by go_num, hs3, hTl⟩
                case measure => simp [intOf]; omega
            · have e5 : (x.kd == 5) = false := by simp; omega
              have e6 : (x.kd == 6) = false := by simp; omega
              clear hk3 hk12 hk56
              go_wp2_with fail
              go_roundw
              case rel => exact ⟨k + 1, nw, L, by omega, by omega, by go_num, ⟨hSb.drop⟩, ⟨by have := hLk.out; omega⟩⟩
              case measure => simp [intOf]; omega
      · have hds : decide ((x.nm.size : Int) > 40) = true := by simp; omega
        have hds2 : decide (40 < x.nm.size) = true := by simp; omega
        go_wp2_with fail
        go_roundw
        case rel => exact ⟨k + 1, nw, L, by omega, by omega, by go_num, ⟨hSb.drop⟩, ⟨by have := hLk.out; omega⟩⟩
        case measure => simp [intOf]; omega
    · have hout : (¬ k < xs.length ∧ decide ((k : Int) < xs.length) = false ∧ decide (k < xs.length) = false) ∨ (k < xs.length ∧ ¬ k < 100 ∧ decide ((k : Int) < xs.length) = true ∧ decide ((k : Int) < 100) = false) := by
        by_cases h : k < xs.length
        · exact .inr ⟨h, by omega, by simp; omega, by simp; omega⟩
        · exact .inl ⟨h, by simp; omega, by simp; omega⟩
      clear hgo
      rcases hout with ⟨hnl, hd1, hd2⟩ | ⟨hnl, hn1, hd1, hd2⟩
      · obtain ⟨hsr, hll, hab, hoks, hnw⟩ := hS.out.mq List.mem_cons_self
        have hU0 : Hid (Up nw L 0 nw) := ⟨Up.start hab⟩
        have hL100 : L.length ≤ 100 := by have := hLk.out; omega
        replace hab : Hid _ := ⟨hab⟩
        replace hoks : Hid _ := ⟨hoks⟩
        clear hll
        go_wp2_with fail
        refine (clock_m hS.out List.mem_cons_self).mono ?_
        rintro r w2 ⟨rfl, rfl⟩
        go_wp2_with fail
        go_loopw [8, 9, 10] (fun c lst i wr => ∃ (p : Nat) (cn : Nat) (last : Int), p ≤ 4 ∧ c = .int .i64 cn ∧ lst = .int .u64 last ∧ i = .int .i64 p ∧ Hid (cn = cntB nw L (16 * p)) ∧ Hid (St W wr [.q wb nw L]) ∧ Hid (Up nw L (16 * p) last))
          (fun _ _ i _ => 4 - (intOf i).toNat)
        case atStart => exact ⟨0, 0, nw, by omega, rfl, rfl, rfl, ⟨(cntB_zero nw L).symm⟩, hS, hU0⟩
        case round =>
          clear hS hU0
          obtain ⟨p, cn, last, hp, rfl, rfl, rfl, hcn, hS, hU⟩ := hrel
          by_cases hp4 : p < 4
          · have hdp : decide ((p : Int) < 4) = true := by simp; omega
            go_wp2_with fail
            go_loopw [8, 9, 11] (fun c lst i wr => ∃ (q : Nat) (cn : Nat) (last : Int), q ≤ 16 ∧ c = .int .i64 cn ∧ lst = .int .u64 last ∧ i = .int .i64 q ∧ Hid (cn = cntB nw L (16 * p + q)) ∧ Hid (St W wr [.q wb nw L]) ∧ Hid (Up nw L (16 * p + q) last))
              (fun _ _ i _ => 16 - (intOf i).toNat)
            case atStart => exact ⟨0, cn, last, by omega, rfl, rfl, rfl, hcn, hS, hU⟩
            case round =>
              clear hcn hS hU
              obtain ⟨q, cn, last, hq, rfl, rfl, rfl, hcn, hS, hU⟩ := hrel
              by_cases hq16 : q < 16
              · have hdq : decide ((q : Int) < 16) = true := by simp; omega
                obtain ⟨M, hM⟩ : ∃ M, Hid (atP nw L (16 * p + q) = M) := ⟨_, ⟨rfl⟩⟩
                have hMl : M.length ≤ 100 := by rw [← hM.out]; have := atP_len nw L (16 * p + q); omega
                have hU1 : Hid (Ui nw L M (16 * p + q) 0 last) := ⟨hU.out.in_ hM.out⟩
                have hcl : cn ≤ 100 := by have := cntB_le nw L (16 * p + q); rw [← hcn.out] at this; omega
                go_wp2_with fail
                refine (slot_m hS.out List.mem_cons_self hp4 hq16 hM).mono ?_
                rintro r w3 ⟨sa, sc, rfl, hS3, -⟩
                replace hS3 : Hid _ := ⟨hS3⟩
                go_wp2_with fail
                go_loopw [8, 9, 13] (fun c lst i wr => ∃ (j : Nat) (last : Int), j ≤ M.length ∧ c = .int .i64 ((cn + j : Nat) : Int) ∧ lst = .int .u64 last ∧ i = .int .i64 j ∧ Hid (St W wr [.r 52 (.slice sa M.length sc) M, .q wb nw L]) ∧ Hid (Ui nw L M (16 * p + q) j last))
                  (fun _ _ i _ => M.length - (intOf i).toNat)
                case atStart => exact ⟨0, last, by omega, rfl, rfl, rfl, hS3, hU1⟩
                case round =>
                  clear hS3 hU1 hU hS
                  obtain ⟨j, last, hj, rfl, rfl, rfl, hS, hU⟩ := hrel
                  by_cases hjM : j < M.length
                  · have hdj : decide ((j : Int) < M.length) = true := by simp; omega
                    obtain ⟨y, hy⟩ := some_at hjM
                    obtain ⟨hu1, hu2, hu3⟩ := hU.out.next hsr hnw hab.out hoks.out hM.out hy
                    obtain ⟨g, rfl, -, -, q1, q2, -⟩ := hS.out.r.at hy
                    have hq1 : decide (y.at_ < last) = false := by simp; omega
                    have hq2 : decide (y.at_ ≤ nw) = false := by simp; omega
                    haveI := lat_nonempty wr
                    have kk2 := lat_cell q2
                    have ka := fun p : Lat wr => lat_clock hS.out (List.mem_cons_of_mem _ List.mem_cons_self) p
                    replace hy : Hid _ := ⟨hy⟩
                    replace hu3 : Hid _ := ⟨hu3⟩
                    clear hu1 hu2
                    go_wp2_with fail
                    refine wp_region_lat (by kernel_rfl) (by kernel_rfl) ?_
                    repeat (go_big_quiet_step (fail))
                    go_big_quiet_step ((go_at_call 20; exact ka _))
                    repeat (go_big_quiet_step (fail))
                    refine wpQuiet_nil ?_
                    intro _ hw'
                    obtain ⟨pw, hw''⟩ := hw'
                    subst hw''
                    have q3 := grown_cell pw.h q2
                    have hS4 : Hid (St W pw.W [.r 52 (.slice (some ⟨g, 0, none⟩) M.length sc) M, .q wb nw L]) := ⟨hS.out.grown pw.h⟩
                    clear ka kk2 q1 q2
                    go_wp2_with fail
                    go_roundw
                    case rel => exact ⟨j + 1, y.at_, by omega, by go_num, rfl, by go_num, hS4, hu3⟩
                    case measure => simp [intOf]; omega
                  · have hdj : decide ((j : Int) < M.length) = false := by simp; omega
                    have hje : j = M.length := by omega
                    subst hje
                    have hcn2 : Hid (cn + M.length = cntB nw L (16 * p + (q + 1))) := ⟨by rw [← Nat.add_assoc, cntB_succ, hM.out, hcn.out]⟩
                    have hU2 : Hid (Up nw L (16 * p + (q + 1)) last) := ⟨hU.out.out⟩
                    go_wp2_with fail
                    go_roundw
                    case rel => exact ⟨q + 1, cn + M.length, last, by omega, by simp, rfl, by go_num, hcn2, ⟨hS.out.drop⟩, hU2⟩
                    case measure => simp [intOf]; omega
              · have hdq : decide ((q : Int) < 16) = false := by simp; omega
                have hqe : q = 16 := by omega
                subst hqe
                go_wp2_with fail
                go_roundw
                case rel => exact ⟨p + 1, cn, last, by omega, rfl, rfl, by go_num, hcn, hS, hU⟩
                case measure => simp [intOf]; omega
          · have hdp : decide ((p : Int) < 4) = false := by simp; omega
            have hpe : p = 4 := by omega
            subst hpe
            obtain ⟨M, hM⟩ : ∃ M, Hid (atP nw L 64 = M) := ⟨_, ⟨rfl⟩⟩
            have hMl : M.length ≤ 100 := by rw [← hM.out]; have := atP_len nw L 64; omega
            have hU1 : Hid (Ui nw L M 64 0 last) := ⟨Up.in_ hU.out hM.out⟩
            have hcl : cn ≤ 100 := by have := cntB_le nw L (16 * 4); rw [← hcn.out] at this; omega
            go_wp2_with fail
            refine (far_m hS.out List.mem_cons_self hM).mono ?_
            rintro r w3 ⟨sa, sc, rfl, hS3, -⟩
            replace hS3 : Hid _ := ⟨hS3⟩
            go_wp2_with fail
            go_loop [8, 9, 15] (fun c lst i => ∃ (j : Nat) (last : Int), j ≤ M.length ∧ c = .int .i64 ((cn + j : Nat) : Int) ∧ lst = .int .u64 last ∧ i = .int .i64 j ∧ Hid (Ui nw L M 64 j last))
              (fun _ _ i => M.length - (intOf i).toNat)
            case atStart => exact ⟨0, last, by omega, rfl, rfl, rfl, hU1⟩
            case round =>
              clear hU1 hU hS
              obtain ⟨j, last, hj, rfl, rfl, rfl, hU⟩ := hrel
              by_cases hjM : j < M.length
              · have hdj : decide ((j : Int) < M.length) = true := by simp; omega
                obtain ⟨y, hy⟩ := some_at hjM
                obtain ⟨hu1, hu2, hu3⟩ := hU.out.next hsr hnw hab.out hoks.out hM.out hy
                obtain ⟨g, rfl, -, -, q1, q2, -⟩ := hS3.out.r.at hy
                have hq1 : decide (y.at_ < last) = false := by simp; omega
                replace hy : Hid _ := ⟨hy⟩
                replace hu3 : Hid _ := ⟨hu3⟩
                clear hu1 hu2
                go_wp2_with fail
                go_round
                case rel => exact ⟨j + 1, y.at_, by omega, by go_num, rfl, by go_num, hu3⟩
                case measure => simp [intOf]; omega
              · have hdj : decide ((j : Int) < M.length) = false := by simp; omega
                have hje : j = M.length := by omega
                subst hje
                have hall : Hid (cn + M.length = L.length) := ⟨by rw [← cntB_all nw L, cntB_succ nw L 64, hM.out, hcn.out]⟩
                go_wp2_with fail
                refine (alive_s hS3.out).mono ?_
                rintro r w4 ⟨rfl, hS4⟩
                have hc2 := len_m hS4 (List.mem_cons_of_mem _ List.mem_cons_self)
                rw [← hall.out] at hc2
                go_wp2_with fail
                refine hc2.mono ?_
                rintro r w5 ⟨rfl, rfl⟩
                go_wp2
                go_ret
                exact ⟨by simp, hS4.2⟩
      · obtain ⟨hsr, hll, hab, hoks, hnw⟩ := hS.out.mq List.mem_cons_self
        have hU0 : Hid (Up nw L 0 nw) := ⟨Up.start hab⟩
        have hL100 : L.length ≤ 100 := by have := hLk.out; omega
        replace hab : Hid _ := ⟨hab⟩
        replace hoks : Hid _ := ⟨hoks⟩
        clear hll
        go_wp2_with fail
        refine (clock_m hS.out List.mem_cons_self).mono ?_
        rintro r w2 ⟨rfl, rfl⟩
        go_wp2_with fail
        go_loopw [8, 9, 10] (fun c lst i wr => ∃ (p : Nat) (cn : Nat) (last : Int), p ≤ 4 ∧ c = .int .i64 cn ∧ lst = .int .u64 last ∧ i = .int .i64 p ∧ Hid (cn = cntB nw L (16 * p)) ∧ Hid (St W wr [.q wb nw L]) ∧ Hid (Up nw L (16 * p) last))
          (fun _ _ i _ => 4 - (intOf i).toNat)
        case atStart => exact ⟨0, 0, nw, by omega, rfl, rfl, rfl, ⟨(cntB_zero nw L).symm⟩, hS, hU0⟩
        case round =>
          clear hS hU0
          obtain ⟨p, cn, last, hp, rfl, rfl, rfl, hcn, hS, hU⟩ := hrel
          by_cases hp4 : p < 4
          · have hdp : decide ((p : Int) < 4) = true := by simp; omega
            go_wp2_with fail
            go_loopw [8, 9, 11] (fun c lst i wr => ∃ (q : Nat) (cn : Nat) (last : Int), q ≤ 16 ∧ c = .int .i64 cn ∧ lst = .int .u64 last ∧ i = .int .i64 q ∧ Hid (cn = cntB nw L (16 * p + q)) ∧ Hid (St W wr [.q wb nw L]) ∧ Hid (Up nw L (16 * p + q) last))
              (fun _ _ i _ => 16 - (intOf i).toNat)
            case atStart => exact ⟨0, cn, last, by omega, rfl, rfl, rfl, hcn, hS, hU⟩
            case round =>
              clear hcn hS hU
              obtain ⟨q, cn, last, hq, rfl, rfl, rfl, hcn, hS, hU⟩ := hrel
              by_cases hq16 : q < 16
              · have hdq : decide ((q : Int) < 16) = true := by simp; omega
                obtain ⟨M, hM⟩ : ∃ M, Hid (atP nw L (16 * p + q) = M) := ⟨_, ⟨rfl⟩⟩
                have hMl : M.length ≤ 100 := by rw [← hM.out]; have := atP_len nw L (16 * p + q); omega
                have hU1 : Hid (Ui nw L M (16 * p + q) 0 last) := ⟨hU.out.in_ hM.out⟩
                have hcl : cn ≤ 100 := by have := cntB_le nw L (16 * p + q); rw [← hcn.out] at this; omega
                go_wp2_with fail
                refine (slot_m hS.out List.mem_cons_self hp4 hq16 hM).mono ?_
                rintro r w3 ⟨sa, sc, rfl, hS3, -⟩
                replace hS3 : Hid _ := ⟨hS3⟩
                go_wp2_with fail
                go_loopw [8, 9, 13] (fun c lst i wr => ∃ (j : Nat) (last : Int), j ≤ M.length ∧ c = .int .i64 ((cn + j : Nat) : Int) ∧ lst = .int .u64 last ∧ i = .int .i64 j ∧ Hid (St W wr [.r 52 (.slice sa M.length sc) M, .q wb nw L]) ∧ Hid (Ui nw L M (16 * p + q) j last))
                  (fun _ _ i _ => M.length - (intOf i).toNat)
                case atStart => exact ⟨0, last, by omega, rfl, rfl, rfl, hS3, hU1⟩
                case round =>
                  clear hS3 hU1 hU hS
                  obtain ⟨j, last, hj, rfl, rfl, rfl, hS, hU⟩ := hrel
                  by_cases hjM : j < M.length
                  · have hdj : decide ((j : Int) < M.length) = true := by simp; omega
                    obtain ⟨y, hy⟩ := some_at hjM
                    obtain ⟨hu1, hu2, hu3⟩ := hU.out.next hsr hnw hab.out hoks.out hM.out hy
                    obtain ⟨g, rfl, -, -, q1, q2, -⟩ := hS.out.r.at hy
                    have hq1 : decide (y.at_ < last) = false := by simp; omega
                    have hq2 : decide (y.at_ ≤ nw) = false := by simp; omega
                    haveI := lat_nonempty wr
                    have kk2 := lat_cell q2
                    have ka := fun p : Lat wr => lat_clock hS.out (List.mem_cons_of_mem _ List.mem_cons_self) p
                    replace hy : Hid _ := ⟨hy⟩
                    replace hu3 : Hid _ := ⟨hu3⟩
                    clear hu1 hu2
                    go_wp2_with fail
                    refine wp_region_lat (by kernel_rfl) (by kernel_rfl) ?_
                    repeat (go_big_quiet_step (fail))
                    go_big_quiet_step ((go_at_call 20; exact ka _))
                    repeat (go_big_quiet_step (fail))
                    refine wpQuiet_nil ?_
                    intro _ hw'
                    obtain ⟨pw, hw''⟩ := hw'
                    subst hw''
                    have q3 := grown_cell pw.h q2
                    have hS4 : Hid (St W pw.W [.r 52 (.slice (some ⟨g, 0, none⟩) M.length sc) M, .q wb nw L]) := ⟨hS.out.grown pw.h⟩
                    clear ka kk2 q1 q2
                    go_wp2_with fail
                    go_roundw
                    case rel => exact ⟨j + 1, y.at_, by omega, by go_num, rfl, by go_num, hS4, hu3⟩
                    case measure => simp [intOf]; omega
                  · have hdj : decide ((j : Int) < M.length) = false := by simp; omega
                    have hje : j = M.length := by omega
                    subst hje
                    have hcn2 : Hid (cn + M.length = cntB nw L (16 * p + (q + 1))) := ⟨by rw [← Nat.add_assoc, cntB_succ, hM.out, hcn.out]⟩
                    have hU2 : Hid (Up nw L (16 * p + (q + 1)) last) := ⟨hU.out.out⟩
                    go_wp2_with fail
                    go_roundw
                    case rel => exact ⟨q + 1, cn + M.length, last, by omega, by simp, rfl, by go_num, hcn2, ⟨hS.out.drop⟩, hU2⟩
                    case measure => simp [intOf]; omega
              · have hdq : decide ((q : Int) < 16) = false := by simp; omega
                have hqe : q = 16 := by omega
                subst hqe
                go_wp2_with fail
                go_roundw
                case rel => exact ⟨p + 1, cn, last, by omega, rfl, rfl, by go_num, hcn, hS, hU⟩
                case measure => simp [intOf]; omega
          · have hdp : decide ((p : Int) < 4) = false := by simp; omega
            have hpe : p = 4 := by omega
            subst hpe
            obtain ⟨M, hM⟩ : ∃ M, Hid (atP nw L 64 = M) := ⟨_, ⟨rfl⟩⟩
            have hMl : M.length ≤ 100 := by rw [← hM.out]; have := atP_len nw L 64; omega
            have hU1 : Hid (Ui nw L M 64 0 last) := ⟨Up.in_ hU.out hM.out⟩
            have hcl : cn ≤ 100 := by have := cntB_le nw L (16 * 4); rw [← hcn.out] at this; omega
            go_wp2_with fail
            refine (far_m hS.out List.mem_cons_self hM).mono ?_
            rintro r w3 ⟨sa, sc, rfl, hS3, -⟩
            replace hS3 : Hid _ := ⟨hS3⟩
            go_wp2_with fail
            go_loop [8, 9, 15] (fun c lst i => ∃ (j : Nat) (last : Int), j ≤ M.length ∧ c = .int .i64 ((cn + j : Nat) : Int) ∧ lst = .int .u64 last ∧ i = .int .i64 j ∧ Hid (Ui nw L M 64 j last))
              (fun _ _ i => M.length - (intOf i).toNat)
            case atStart => exact ⟨0, last, by omega, rfl, rfl, rfl, hU1⟩
            case round =>
              clear hU1 hU hS
              obtain ⟨j, last, hj, rfl, rfl, rfl, hU⟩ := hrel
              by_cases hjM : j < M.length
              · have hdj : decide ((j : Int) < M.length) = true := by simp; omega
                obtain ⟨y, hy⟩ := some_at hjM
                obtain ⟨hu1, hu2, hu3⟩ := hU.out.next hsr hnw hab.out hoks.out hM.out hy
                obtain ⟨g, rfl, -, -, q1, q2, -⟩ := hS3.out.r.at hy
                have hq1 : decide (y.at_ < last) = false := by simp; omega
                replace hy : Hid _ := ⟨hy⟩
                replace hu3 : Hid _ := ⟨hu3⟩
                clear hu1 hu2
                go_wp2_with fail
                go_round
                case rel => exact ⟨j + 1, y.at_, by omega, by go_num, rfl, by go_num, hu3⟩
                case measure => simp [intOf]; omega
              · have hdj : decide ((j : Int) < M.length) = false := by simp; omega
                have hje : j = M.length := by omega
                subst hje
                have hall : Hid (cn + M.length = L.length) := ⟨by rw [← cntB_all nw L, cntB_succ nw L 64, hM.out, hcn.out]⟩
                go_wp2_with fail
                refine (alive_s hS3.out).mono ?_
                rintro r w4 ⟨rfl, hS4⟩
                have hc2 := len_m hS4 (List.mem_cons_of_mem _ List.mem_cons_self)
                rw [← hall.out] at hc2
                go_wp2_with fail
                refine hc2.mono ?_
                rintro r w5 ⟨rfl, rfl⟩
                go_wp2
                go_ret
                exact ⟨by simp, hS4.2⟩
theorem stands_walk (now : Int) (hnow : 0 ≤ now ∧ now < 18446744073709551616) (a : Option Addr) (len cap : Nat) (xs : List Ac) (W : World) (ha : Acs W.heap.size W (.slice a len cap) xs) :
    Calls Try.prog 6 #[.int .u64 now, .slice a len cap] W fun e W' => e = .returned (.bool true) ∧ Below W.heap.size W W' := by
  obtain ⟨a', cap', e, hxl⟩ := ha.shape
  simp only [Value.slice.injEq] at e
  obtain ⟨rfl, rfl, rfl⟩ := e
  exact stands_law now hnow a cap xs W ha hxl
end Go.Proofs.Ytlljfgpmjpmoiaa
