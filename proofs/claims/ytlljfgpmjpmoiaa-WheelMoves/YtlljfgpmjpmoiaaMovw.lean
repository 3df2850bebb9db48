/- The walk of WheelMoves. -/
import Derived.Test.YtlljfgpmjpmoiaaArg
namespace Go.Proofs.Ytlljfgpmjpmoiaa
open Go.RowKit Go.IntWalk Go.Maps Go.Shelf
set_option linter.unusedVariables false
def mine : ByteArray := ⟨#[109, 105, 110, 101]⟩
theorem putA_le {now : Int} {L : List E} (h : Srt L) (e : E) : (putA now e L).length ≤ L.length + 1 := by
  unfold putA
  split
  · exact putE_le h e
  · omega
theorem putA_srt {now : Int} {L : List E} (h : Srt L) (e : E) : Srt (putA now e L) := by
  unfold putA
  split
  · exact h.put e
  · exact h
/-- Those of one name. -/
def ofN (n : ByteArray) (L : List E) : List E := L.filter fun x => decide (x.n = n)
theorem ofN_del (n : ByteArray) (L : List E) : ofN n (delN n L) = [] := List.filter_eq_nil_iff.2 fun x hx => by simpa using (mem_delN.1 hx).2
theorem ofN_put {L : List E} (h : Srt L) (e : E) : ofN e.n (putE e L) = [e] := by
  have h1 : Srt (ofN e.n (putE e L)) := (h.put e).sub List.filter_sublist
  refine h1.eq ⟨by simp, by simp⟩ fun x => ?_
  simp only [ofN, List.mem_filter, mem_putE, List.mem_singleton, decide_eq_true_eq]
  constructor
  · rintro ⟨rfl | ⟨_, h2⟩, h3⟩
    · rfl
    · exact absurd h3 h2
  · rintro rfl; exact ⟨.inl rfl, rfl⟩
theorem ofN_snoc (n : ByteArray) (L : List E) (k : Nat) (x : E) (hx : L[k]? = some x) : (ofN n (L.take (k + 1))).length = (ofN n (L.take k)).length + if x.n = n then 1 else 0 := by
  rw [List.take_add_one, hx]
  simp only [ofN, Option.toList_some, List.filter_append, List.length_append]
  by_cases h : x.n = n <;> simp [h]
theorem due_all {t : Int} {L : List E} (h : ∀ e ∈ L, e.at_ ≤ t) : due t L = L ∧ rst t L = [] := by
  refine ⟨List.filter_eq_self.2 fun x hx => by simpa using h x hx, List.filter_eq_nil_iff.2 fun x hx => ?_⟩
  have := h x hx
  simp
  omega
theorem mine_list : mine.toList = [109, 105, 110, 101] := by rw [ByteArray.toList_eq]; rfl
theorem str_beq {a b : ByteArray} : (a.toList == b.toList) = decide (a = b) := by
  rw [Bool.eq_iff_iff]
  simp only [beq_iff_eq, decide_eq_true_eq]
  exact ⟨ba_inj, fun h => by rw [h]⟩
set_option maxRecDepth 100000 in
set_option maxHeartbeats 8000000 in
theorem moves_tt (now : Int) (hnow : 0 ≤ now ∧ now < 18446744073709551616) (a : Option Addr) (cap : Nat) (xs : List Ac) (W : World) (ha : Acs W.heap.size W (.slice a xs.length cap) xs) (hxl : xs.length ≤ maxLen) (n0 n1 : Int) (h0 : 0 ≤ n0 ∧ n0 < 18446744073709551616) (h1 : 0 ≤ n1 ∧ n1 < 18446744073709551616) (A B : Int) (hA : Hid (ltr now n0 = A)) (hB : Hid (ltr now n1 = B)) (hA2 : 0 ≤ A ∧ A < 18446744073709551616) (hB2 : 0 ≤ B ∧ B < 18446744073709551616) (hp : decide (now < A) = true) (hq : decide (now < B) = true) :
    Calls Try.prog 8 #[.int .u64 now, .slice a xs.length cap, .agg #[.int .u64 n0, .int .u64 n1]] W fun e W' => e = .returned (.bool true) ∧ Below W.heap.size W W' := by
  unfold maxLen at hxl
  have hmn : mine.size ≤ maxLen := small _ (by decide)
  have hb0 := (St.start W).box (.cells #[.int .u64 n0, .int .u64 n1] 54)
  go_enter Try.func8, Try.ntmps8
  go_wp2_with fail
  refine (new_s hb0 now hnow).mono ?_
  rintro r w1 ⟨wb, rfl, hs1⟩
  replace hs1 : Hid _ := ⟨hs1⟩
  go_wp2_with fail
  go_loopw [8] (fun i wr => ∃ (k : Nat) (L : List E), k ≤ xs.length ∧ k ≤ 100 ∧ i = .int .i64 k ∧ Hid (St W wr [.q wb now L, .b W.heap.size (.cells #[.int .u64 n0, .int .u64 n1] 54)]) ∧ Hid (L.length ≤ k))
    (fun i _ => 100 - (intOf i).toNat)
  case atStart => exact ⟨0, [], by omega, by omega, rfl, hs1, ⟨by simp⟩⟩
  case round =>
    clear hs1
    obtain ⟨k, L, hk, hk2, rfl, hS, hLk⟩ := hrel
    by_cases hgo : k < xs.length ∧ k < 100
    · obtain ⟨hlt, h100⟩ := hgo
      have hd1 : decide ((k : Int) < xs.length) = true := by simp; omega
      have hd2 : decide ((k : Int) < 100) = true := by simp; omega
      obtain ⟨x, hx⟩ : ∃ x, xs[k]? = some x := ⟨xs[k], List.getElem?_eq_getElem hlt⟩
      obtain ⟨b, off, rfl, hb, hok, c0, c1, c2, c3⟩ := (ha.below hS.out.2).at hx
      have hcell : Hid (∀ w', Below W.heap.size W w' → w'.cell? ⟨b, off + k * 4, none⟩ = some (.int .i64 x.kd) ∧ w'.cell? ⟨b, off + k * 4 + 1, none⟩ = some (.string x.nm) ∧ w'.cell? ⟨b, off + k * 4 + 2, none⟩ = some (.int .u64 x.at_) ∧ w'.cell? ⟨b, off + k * 4 + 3, none⟩ = some (.int .u64 x.by_)) := ⟨fun w' hb' => by
        obtain ⟨b', off', e', _, _, d0, d1, d2, d3⟩ := (ha.below hb').at hx
        cases e'
        exact ⟨d0, d1, d2, d3⟩⟩
      replace hx : Hid _ := ⟨hx⟩
      by_cases hk2' : x.kd = 2
      · have e2 : (x.kd == 2) = true := by simp [hk2']
        clear hk2'
        by_cases hsz : x.nm.size ≤ 40
        · have hds : decide ((x.nm.size : Int) ≤ 40) = true := by simp; omega
          obtain ⟨t, ht⟩ : ∃ t, Hid (x.tk now L = t) := ⟨_, ⟨rfl⟩⟩
          obtain ⟨pb, hpb⟩ : ∃ pb, Hid (decide (now < t) = pb) := ⟨_, ⟨rfl⟩⟩
          obtain ⟨T, hT⟩ : ∃ T, Hid (putA now ⟨x.nm, t⟩ L = T) := ⟨_, ⟨rfl⟩⟩
          obtain ⟨hsr, hll, _, hoks, _⟩ := hS.out.mq List.mem_cons_self
          have htb : 0 ≤ t ∧ t < 18446744073709551616 := by rw [← ht.out]; exact x.tk_bd hok hnow hoks
          have hTl : Hid (T.length ≤ k + 1) := ⟨by rw [← hT.out]; have := putA_le (now := now) hsr ⟨x.nm, t⟩; have := hLk.out; omega⟩
          have hS1 := hS.out.grown (grown_drew wr)
          have hLl : L.length < 100000 := by have := hLk.out; omega
          replace hoks : Hid _ := ⟨hoks⟩
          replace hLl : Hid _ := ⟨hLl⟩
          clear hll
          go_wp2_with fail
          go_region_held3 (fun w' => w'.cell? ⟨b, off + k * 4, none⟩ = some (.int .i64 x.kd) ∧ w'.cell? ⟨b, off + k * 4 + 1, none⟩ = some (.string x.nm) ∧ w'.cell? ⟨b, off + k * 4 + 2, none⟩ = some (.int .u64 x.at_) ∧ w'.cell? ⟨b, off + k * 4 + 3, none⟩ = some (.int .u64 x.by_))
            (first
              | go_keep
              | exact hcell.out _ hs3.2
              | exact hcell.out _ (hS1.grown hgA).2)
            (first
              | (go_at_call 10
                 refine (tick_m hS1 List.mem_cons_self x hok ht).mono ?_
                 rintro r w2 ⟨rfl, hgA⟩)
              | (go_at_call 11
                 refine (put_e (hS1.grown hgA) x.nm t hok.2.1 htb hLl.out hpb hT).mono ?_
                 rintro r w3 ⟨rfl, hs3⟩))
          replace hs3 : Hid _ := ⟨hs3⟩
          clear c0 c1 c2 c3
          go_wp2_with fail
          go_roundw
          case rel => exact ⟨k + 1, T, by omega, by omega, by go_num, hs3, hTl⟩
          case measure => simp [intOf]; omega
        · have hds : decide ((x.nm.size : Int) ≤ 40) = false := by simp; omega
          go_wp2_with fail
          go_roundw
          case rel => exact ⟨k + 1, L, by omega, by omega, by go_num, hS, ⟨by have := hLk.out; omega⟩⟩
          case measure => simp [intOf]; omega
      · have e2 : (x.kd == 2) = false := by simp [hk2']
        go_wp2_with fail
        go_roundw
        case rel => exact ⟨k + 1, L, by omega, by omega, by go_num, hS, ⟨by have := hLk.out; omega⟩⟩
        case measure => simp [intOf]; omega
    · have hout : (¬ k < xs.length ∧ decide ((k : Int) < xs.length) = false ∧ decide (k < xs.length) = false) ∨ (k < xs.length ∧ ¬ k < 100 ∧ decide ((k : Int) < xs.length) = true ∧ decide ((k : Int) < 100) = false) := by
        by_cases h : k < xs.length
        · exact .inr ⟨h, by omega, by simp; omega, by simp; omega⟩
        · exact .inl ⟨h, by simp; omega, by simp; omega⟩
      have hL100 : Hid (L.length ≤ 100) := ⟨by have := hLk.out; omega⟩
      clear hgo
      rcases hout with ⟨hnl, hd1, hd2⟩ | ⟨hnl, hn1, hd1, hd2⟩
      · obtain ⟨hsr, hll, _, hoks, _⟩ := hS.out.mq List.mem_cons_self
        obtain ⟨L1, hL1⟩ : ∃ T, Hid (delN mine L = T) := ⟨_, ⟨rfl⟩⟩
        obtain ⟨L2, hL2⟩ : ∃ T, Hid (putA now ⟨mine, A⟩ L1 = T) := ⟨_, ⟨rfl⟩⟩
        obtain ⟨L3, hL3⟩ : ∃ T, Hid (putA now ⟨mine, B⟩ L2 = T) := ⟨_, ⟨rfl⟩⟩
        have hL4 : Hid (putA now ⟨mine, now⟩ L3 = L3) := ⟨by simp [putA]⟩
        obtain ⟨hb, hhb⟩ : ∃ hb, Hid (hasN mine L = hb) := ⟨_, ⟨rfl⟩⟩
        have hL1l : Hid (L1.length ≤ 100) := ⟨by rw [← hL1.out]; have := delN_le mine L; have := hL100.out; omega⟩
        have hs1 : Hid (Srt L1) := ⟨by rw [← hL1.out]; exact hsr.del _⟩
        have hs2 : Hid (Srt L2) := ⟨by rw [← hL2.out]; exact putA_srt hs1.out _⟩
        have hL2l : Hid (L2.length ≤ 101) := ⟨by rw [← hL2.out]; have := putA_le (now := now) hs1.out ⟨mine, A⟩; have := hL1l.out; omega⟩
        have hL3l : Hid (L3.length ≤ 102) := ⟨by rw [← hL3.out]; have := putA_le (now := now) hs2.out ⟨mine, B⟩; have := hL2l.out; omega⟩
        have hF : Hid (ofN mine L3 = [⟨mine, B⟩]) := ⟨by
          have f1 : ofN mine L1 = [] := by rw [← hL1.out]; exact ofN_del mine L
          have pA : now < A := by simpa using hp
          have pB : now < B := by simpa using hq
          have f2 : ofN mine L2 = [⟨mine, A⟩] := by rw [← hL2.out]; unfold putA; rw [if_pos pA]; exact ofN_put hs1.out ⟨mine, A⟩
          rw [← hL3.out]; unfold putA; rw [if_pos pB]; exact ofN_put hs2.out ⟨mine, B⟩⟩
        have hd3 : decide (L.length > 100) = false := by have := hL100.out; simp; omega
        have hd4 : decide ((L.length : Int) > 100) = false := by have := hL100.out; simp; omega
        have hd5 : decide (100 < L.length) = false := by have := hL100.out; simp; omega
        obtain ⟨c0, c1, _⟩ := own_b hS.out.swap.b
        clear hll hoks hsr
        go_wp2_with fail
        refine (later_any _ now n0 hnow h0 hA).mono ?_
        rintro r w2 ⟨rfl, rfl⟩
        go_wp2_with fail
        refine (later_any _ now n1 hnow h1 hB).mono ?_
        rintro r w3 ⟨rfl, rfl⟩
        go_wp2_with fail
        refine (len_m hS.out List.mem_cons_self).mono ?_
        rintro r w4 ⟨rfl, rfl⟩
        go_wp2_with fail
        refine (drop_e hS.out mine hmn hhb hL1).mono ?_
        rintro r w5 ⟨rfl, hS5⟩
        clear c0 c1
        go_wp2_with fail
        refine (put_e hS5 mine A hmn hA2 (by have := hL1l.out; omega) ⟨hp⟩ hL2).mono ?_
        rintro r w6 ⟨rfl, hS6⟩
        clear hS5
        go_wp2_with fail
        refine (put_e hS6 mine B hmn hB2 (by have := hL2l.out; omega) ⟨hq⟩ hL3).mono ?_
        rintro r w7 ⟨rfl, hS7⟩
        clear hS6
        go_wp2_with fail
        refine (put_e (b := false) hS7 mine now hmn hnow (by have := hL3l.out; omega) ⟨by simp⟩ hL4).mono ?_
        rintro r w8 ⟨rfl, hS8⟩
        clear hS7
        go_wp2_with fail
        refine (len_m hS8 List.mem_cons_self).mono ?_
        rintro r w9 ⟨rfl, rfl⟩
        obtain ⟨hs3, _, _, hok3, _⟩ := hS8.mq List.mem_cons_self
        obtain ⟨du1, du2⟩ := due_all (t := 18446744073709551615) (L := L3) fun e he => by have := (hok3 e he).2.2; omega
        have hatF : Hid (∀ x ∈ L3, x.n = mine → x.at_ = B) := ⟨fun x hx hn => by
          have h2 : x ∈ ofN mine L3 := by simp [ofN, hx, hn]
          rw [hF.out] at h2
          simp at h2
          rw [h2]⟩
        obtain ⟨tk, htk⟩ : ∃ tk, Hid ((if now < 18446744073709551615 then 18446744073709551615 else now) = tk) := ⟨_, ⟨rfl⟩⟩
        replace hok3 : Hid _ := ⟨hok3⟩
        replace du1 : Hid _ := ⟨du1⟩
        replace du2 : Hid _ := ⟨du2⟩
        go_wp2_with fail
        refine (adv_e hS8 18446744073709551615 (by omega) du1 du2 htk).mono ?_
        rintro r w10 ⟨da, dc, rfl, hS10⟩
        clear hS8
        have hL3i : L3.length ≤ 102 := hL3l.out
        go_wp2_with fail
        go_loop [18, 19] (fun c i => ∃ k : Nat, k ≤ L3.length ∧ c = .int .i64 ((ofN mine (L3.take k)).length : Nat) ∧ i = .int .i64 k)
          (fun _ i => L3.length - (intOf i).toNat)
        case atStart => exact ⟨0, by omega, by simp [ofN], rfl⟩
        case round =>
          obtain ⟨j, hj, rfl, rfl⟩ := hrel
          by_cases hjl : j < L3.length
          · have hdj : decide ((j : Int) < L3.length) = true := by simp; omega
            obtain ⟨y, hy⟩ := some_at hjl
            obtain ⟨g, rfl, -, -, q1, q2, -⟩ := (hS10.swap.r).at hy
            have hcn := ofN_snoc mine L3 j y hy
            have hcl : (ofN mine (L3.take j)).length ≤ 102 := Nat.le_trans (List.length_filter_le _ _) (by rw [List.length_take]; omega)
            by_cases hyn : y.n = mine
            · have hya := hatF.out y (List.mem_of_getElem? hy) hyn
              rw [if_pos hyn] at hcn
              have hqe : (y.n.toList == [109, 105, 110, 101]) = true := by rw [← mine_list, str_beq]; simpa using hyn
              have hqa : (y.at_ != B) = false := by simp [hya]
              generalize (ofN mine (L3.take j)).length = cj at *
              clear hyn hya
              replace hcn : Hid _ := ⟨hcn⟩
              replace hy : Hid _ := ⟨hy⟩
              go_wp2_with fail
              go_round
              case rel => exact ⟨j + 1, by omega, by rw [hcn.out]; go_num, by go_num⟩
              case measure => simp [intOf]; omega
            · rw [if_neg hyn, Nat.add_zero] at hcn
              have hqe : (y.n.toList == [109, 105, 110, 101]) = false := by rw [← mine_list, str_beq]; simpa using hyn
              generalize (ofN mine (L3.take j)).length = cj at *
              clear hyn
              replace hcn : Hid _ := ⟨hcn⟩
              replace hy : Hid _ := ⟨hy⟩
              go_wp2_with fail
              go_round
              case rel => exact ⟨j + 1, by omega, by rw [hcn.out]; simp, by go_num⟩
              case measure => simp [intOf]; omega
          · have hdj : decide ((j : Int) < L3.length) = false := by simp; omega
            have hje : j = L3.length := by omega
            subst hje
            have hcnt : (ofN mine (L3.take L3.length)).length = 1 := by rw [List.take_length, hF.out]; rfl
            rw [hcnt]
            go_wp2_with fail
            refine (alive_s hS10).mono ?_
            rintro r w11 ⟨rfl, hS11⟩
            go_wp2_with fail
            refine (len_m hS11 List.mem_cons_self).mono ?_
            rintro r w12 ⟨rfl, rfl⟩
            go_wp2
            go_ret
            exact ⟨rfl, hS11.2⟩
      · obtain ⟨hsr, hll, _, hoks, _⟩ := hS.out.mq List.mem_cons_self
        obtain ⟨L1, hL1⟩ : ∃ T, Hid (delN mine L = T) := ⟨_, ⟨rfl⟩⟩
        obtain ⟨L2, hL2⟩ : ∃ T, Hid (putA now ⟨mine, A⟩ L1 = T) := ⟨_, ⟨rfl⟩⟩
        obtain ⟨L3, hL3⟩ : ∃ T, Hid (putA now ⟨mine, B⟩ L2 = T) := ⟨_, ⟨rfl⟩⟩
        have hL4 : Hid (putA now ⟨mine, now⟩ L3 = L3) := ⟨by simp [putA]⟩
        obtain ⟨hb, hhb⟩ : ∃ hb, Hid (hasN mine L = hb) := ⟨_, ⟨rfl⟩⟩
        have hL1l : Hid (L1.length ≤ 100) := ⟨by rw [← hL1.out]; have := delN_le mine L; have := hL100.out; omega⟩
        have hs1 : Hid (Srt L1) := ⟨by rw [← hL1.out]; exact hsr.del _⟩
        have hs2 : Hid (Srt L2) := ⟨by rw [← hL2.out]; exact putA_srt hs1.out _⟩
        have hL2l : Hid (L2.length ≤ 101) := ⟨by rw [← hL2.out]; have := putA_le (now := now) hs1.out ⟨mine, A⟩; have := hL1l.out; omega⟩
        have hL3l : Hid (L3.length ≤ 102) := ⟨by rw [← hL3.out]; have := putA_le (now := now) hs2.out ⟨mine, B⟩; have := hL2l.out; omega⟩
        have hF : Hid (ofN mine L3 = [⟨mine, B⟩]) := ⟨by
          have f1 : ofN mine L1 = [] := by rw [← hL1.out]; exact ofN_del mine L
          have pA : now < A := by simpa using hp
          have pB : now < B := by simpa using hq
          have f2 : ofN mine L2 = [⟨mine, A⟩] := by rw [← hL2.out]; unfold putA; rw [if_pos pA]; exact ofN_put hs1.out ⟨mine, A⟩
          rw [← hL3.out]; unfold putA; rw [if_pos pB]; exact ofN_put hs2.out ⟨mine, B⟩⟩
        have hd3 : decide (L.length > 100) = false := by have := hL100.out; simp; omega
        have hd4 : decide ((L.length : Int) > 100) = false := by have := hL100.out; simp; omega
        have hd5 : decide (100 < L.length) = false := by have := hL100.out; simp; omega
        obtain ⟨c0, c1, _⟩ := own_b hS.out.swap.b
        clear hll hoks hsr
        go_wp2_with fail
        refine (later_any _ now n0 hnow h0 hA).mono ?_
        rintro r w2 ⟨rfl, rfl⟩
        go_wp2_with fail
        refine (later_any _ now n1 hnow h1 hB).mono ?_
        rintro r w3 ⟨rfl, rfl⟩
        go_wp2_with fail
        refine (len_m hS.out List.mem_cons_self).mono ?_
        rintro r w4 ⟨rfl, rfl⟩
        go_wp2_with fail
        refine (drop_e hS.out mine hmn hhb hL1).mono ?_
        rintro r w5 ⟨rfl, hS5⟩
        clear c0 c1
        go_wp2_with fail
        refine (put_e hS5 mine A hmn hA2 (by have := hL1l.out; omega) ⟨hp⟩ hL2).mono ?_
        rintro r w6 ⟨rfl, hS6⟩
        clear hS5
        go_wp2_with fail
        refine (put_e hS6 mine B hmn hB2 (by have := hL2l.out; omega) ⟨hq⟩ hL3).mono ?_
        rintro r w7 ⟨rfl, hS7⟩
        clear hS6
        go_wp2_with fail
        refine (put_e (b := false) hS7 mine now hmn hnow (by have := hL3l.out; omega) ⟨by simp⟩ hL4).mono ?_
        rintro r w8 ⟨rfl, hS8⟩
        clear hS7
        go_wp2_with fail
        refine (len_m hS8 List.mem_cons_self).mono ?_
        rintro r w9 ⟨rfl, rfl⟩
        obtain ⟨hs3, _, _, hok3, _⟩ := hS8.mq List.mem_cons_self
        obtain ⟨du1, du2⟩ := due_all (t := 18446744073709551615) (L := L3) fun e he => by have := (hok3 e he).2.2; omega
        have hatF : Hid (∀ x ∈ L3, x.n = mine → x.at_ = B) := ⟨fun x hx hn => by
          have h2 : x ∈ ofN mine L3 := by simp [ofN, hx, hn]
          rw [hF.out] at h2
          simp at h2
          rw [h2]⟩
        obtain ⟨tk, htk⟩ : ∃ tk, Hid ((if now < 18446744073709551615 then 18446744073709551615 else now) = tk) := ⟨_, ⟨rfl⟩⟩
        replace hok3 : Hid _ := ⟨hok3⟩
        replace du1 : Hid _ := ⟨du1⟩
        replace du2 : Hid _ := ⟨du2⟩
        go_wp2_with fail
        refine (adv_e hS8 18446744073709551615 (by omega) du1 du2 htk).mono ?_
        rintro r w10 ⟨da, dc, rfl, hS10⟩
        clear hS8
        have hL3i : L3.length ≤ 102 := hL3l.out
        go_wp2_with fail
        go_loop [18, 19] (fun c i => ∃ k : Nat, k ≤ L3.length ∧ c = .int .i64 ((ofN mine (L3.take k)).length : Nat) ∧ i = .int .i64 k)
          (fun _ i => L3.length - (intOf i).toNat)
        case atStart => exact ⟨0, by omega, by simp [ofN], rfl⟩
        case round =>
          obtain ⟨j, hj, rfl, rfl⟩ := hrel
          by_cases hjl : j < L3.length
          · have hdj : decide ((j : Int) < L3.length) = true := by simp; omega
            obtain ⟨y, hy⟩ := some_at hjl
            obtain ⟨g, rfl, -, -, q1, q2, -⟩ := (hS10.swap.r).at hy
            have hcn := ofN_snoc mine L3 j y hy
            have hcl : (ofN mine (L3.take j)).length ≤ 102 := Nat.le_trans (List.length_filter_le _ _) (by rw [List.length_take]; omega)
            by_cases hyn : y.n = mine
            · have hya := hatF.out y (List.mem_of_getElem? hy) hyn
              rw [if_pos hyn] at hcn
              have hqe : (y.n.toList == [109, 105, 110, 101]) = true := by rw [← mine_list, str_beq]; simpa using hyn
              have hqa : (y.at_ != B) = false := by simp [hya]
              generalize (ofN mine (L3.take j)).length = cj at *
              clear hyn hya
              replace hcn : Hid _ := ⟨hcn⟩
              replace hy : Hid _ := ⟨hy⟩
              go_wp2_with fail
              go_round
              case rel => exact ⟨j + 1, by omega, by rw [hcn.out]; go_num, by go_num⟩
              case measure => simp [intOf]; omega
            · rw [if_neg hyn, Nat.add_zero] at hcn
              have hqe : (y.n.toList == [109, 105, 110, 101]) = false := by rw [← mine_list, str_beq]; simpa using hyn
              generalize (ofN mine (L3.take j)).length = cj at *
              clear hyn
              replace hcn : Hid _ := ⟨hcn⟩
              replace hy : Hid _ := ⟨hy⟩
              go_wp2_with fail
              go_round
              case rel => exact ⟨j + 1, by omega, by rw [hcn.out]; simp, by go_num⟩
              case measure => simp [intOf]; omega
          · have hdj : decide ((j : Int) < L3.length) = false := by simp; omega
            have hje : j = L3.length := by omega
            subst hje
            have hcnt : (ofN mine (L3.take L3.length)).length = 1 := by rw [List.take_length, hF.out]; rfl
            rw [hcnt]
            go_wp2_with fail
            refine (alive_s hS10).mono ?_
            rintro r w11 ⟨rfl, hS11⟩
            go_wp2_with fail
            refine (len_m hS11 List.mem_cons_self).mono ?_
            rintro r w12 ⟨rfl, rfl⟩
            go_wp2
            go_ret
            exact ⟨rfl, hS11.2⟩
set_option maxRecDepth 100000 in
set_option maxHeartbeats 8000000 in
theorem moves_tf (now : Int) (hnow : 0 ≤ now ∧ now < 18446744073709551616) (a : Option Addr) (cap : Nat) (xs : List Ac) (W : World) (ha : Acs W.heap.size W (.slice a xs.length cap) xs) (hxl : xs.length ≤ maxLen) (n0 n1 : Int) (h0 : 0 ≤ n0 ∧ n0 < 18446744073709551616) (h1 : 0 ≤ n1 ∧ n1 < 18446744073709551616) (A B : Int) (hA : Hid (ltr now n0 = A)) (hB : Hid (ltr now n1 = B)) (hA2 : 0 ≤ A ∧ A < 18446744073709551616) (hB2 : 0 ≤ B ∧ B < 18446744073709551616) (hp : decide (now < A) = true) (hq : decide (now < B) = false) :
    Calls Try.prog 8 #[.int .u64 now, .slice a xs.length cap, .agg #[.int .u64 n0, .int .u64 n1]] W fun e W' => e = .returned (.bool true) ∧ Below W.heap.size W W' := by
  unfold maxLen at hxl
  have hmn : mine.size ≤ maxLen := small _ (by decide)
  have hb0 := (St.start W).box (.cells #[.int .u64 n0, .int .u64 n1] 54)
  go_enter Try.func8, Try.ntmps8
  go_wp2_with fail
  refine (new_s hb0 now hnow).mono ?_
  rintro r w1 ⟨wb, rfl, hs1⟩
  replace hs1 : Hid _ := ⟨hs1⟩
  go_wp2_with fail
  go_loopw [8] (fun i wr => ∃ (k : Nat) (L : List E), k ≤ xs.length ∧ k ≤ 100 ∧ i = .int .i64 k ∧ Hid (St W wr [.q wb now L, .b W.heap.size (.cells #[.int .u64 n0, .int .u64 n1] 54)]) ∧ Hid (L.length ≤ k))
    (fun i _ => 100 - (intOf i).toNat)
  case atStart => exact ⟨0, [], by omega, by omega, rfl, hs1, ⟨by simp⟩⟩
  case round =>
    clear hs1
    obtain ⟨k, L, hk, hk2, rfl, hS, hLk⟩ := hrel
    by_cases hgo : k < xs.length ∧ k < 100
    · obtain ⟨hlt, h100⟩ := hgo
      have hd1 : decide ((k : Int) < xs.length) = true := by simp; omega
      have hd2 : decide ((k : Int) < 100) = true := by simp; omega
      obtain ⟨x, hx⟩ : ∃ x, xs[k]? = some x := ⟨xs[k], List.getElem?_eq_getElem hlt⟩
      obtain ⟨b, off, rfl, hb, hok, c0, c1, c2, c3⟩ := (ha.below hS.out.2).at hx
      have hcell : Hid (∀ w', Below W.heap.size W w' → w'.cell? ⟨b, off + k * 4, none⟩ = some (.int .i64 x.kd) ∧ w'.cell? ⟨b, off + k * 4 + 1, none⟩ = some (.string x.nm) ∧ w'.cell? ⟨b, off + k * 4 + 2, none⟩ = some (.int .u64 x.at_) ∧ w'.cell? ⟨b, off + k * 4 + 3, none⟩ = some (.int .u64 x.by_)) := ⟨fun w' hb' => by
        obtain ⟨b', off', e', _, _, d0, d1, d2, d3⟩ := (ha.below hb').at hx
        cases e'
        exact ⟨d0, d1, d2, d3⟩⟩
      replace hx : Hid _ := ⟨hx⟩
      by_cases hk2' : x.kd = 2
      · have e2 : (x.kd == 2) = true := by simp [hk2']
        clear hk2'
        by_cases hsz : x.nm.size ≤ 40
        · have hds : decide ((x.nm.size : Int) ≤ 40) = true := by simp; omega
          obtain ⟨t, ht⟩ : ∃ t, Hid (x.tk now L = t) := ⟨_, ⟨rfl⟩⟩
          obtain ⟨pb, hpb⟩ : ∃ pb, Hid (decide (now < t) = pb) := ⟨_, ⟨rfl⟩⟩
          obtain ⟨T, hT⟩ : ∃ T, Hid (putA now ⟨x.nm, t⟩ L = T) := ⟨_, ⟨rfl⟩⟩
          obtain ⟨hsr, hll, _, hoks, _⟩ := hS.out.mq List.mem_cons_self
          have htb : 0 ≤ t ∧ t < 18446744073709551616 := by rw [← ht.out]; exact x.tk_bd hok hnow hoks
          have hTl : Hid (T.length ≤ k + 1) := ⟨by rw [← hT.out]; have := putA_le (now := now) hsr ⟨x.nm, t⟩; have := hLk.out; omega⟩
          have hS1 := hS.out.grown (grown_drew wr)
          have hLl : L.length < 100000 := by have := hLk.out; omega
          replace hoks : Hid _ := ⟨hoks⟩
          replace hLl : Hid _ := ⟨hLl⟩
          clear hll
          go_wp2_with fail
          go_region_held3 (fun w' => w'.cell? ⟨b, off + k * 4, none⟩ = some (.int .i64 x.kd) ∧ w'.cell? ⟨b, off + k * 4 + 1, none⟩ = some (.string x.nm) ∧ w'.cell? ⟨b, off + k * 4 + 2, none⟩ = some (.int .u64 x.at_) ∧ w'.cell? ⟨b, off + k * 4 + 3, none⟩ = some (.int .u64 x.by_))
            (first
              | go_keep
              | exact hcell.out _ hs3.2
              | exact hcell.out _ (hS1.grown hgA).2)
            (first
              | (go_at_call 10
                 refine (tick_m hS1 List.mem_cons_self x hok ht).mono ?_
                 rintro r w2 ⟨rfl, hgA⟩)
              | (go_at_call 11
                 refine (put_e (hS1.grown hgA) x.nm t hok.2.1 htb hLl.out hpb hT).mono ?_
                 rintro r w3 ⟨rfl, hs3⟩))
          replace hs3 : Hid _ := ⟨hs3⟩
          clear c0 c1 c2 c3
          go_wp2_with fail
          go_roundw
          case rel => exact ⟨k + 1, T, by omega, by omega, by go_num, hs3, hTl⟩
          case measure => simp [intOf]; omega
        · have hds : decide ((x.nm.size : Int) ≤ 40) = false := by simp; omega
          go_wp2_with fail
          go_roundw
          case rel => exact ⟨k + 1, L, by omega, by omega, by go_num, hS, ⟨by have := hLk.out; omega⟩⟩
          case measure => simp [intOf]; omega
      · have e2 : (x.kd == 2) = false := by simp [hk2']
        go_wp2_with fail
        go_roundw
        case rel => exact ⟨k + 1, L, by omega, by omega, by go_num, hS, ⟨by have := hLk.out; omega⟩⟩
        case measure => simp [intOf]; omega
    · have hout : (¬ k < xs.length ∧ decide ((k : Int) < xs.length) = false ∧ decide (k < xs.length) = false) ∨ (k < xs.length ∧ ¬ k < 100 ∧ decide ((k : Int) < xs.length) = true ∧ decide ((k : Int) < 100) = false) := by
        by_cases h : k < xs.length
        · exact .inr ⟨h, by omega, by simp; omega, by simp; omega⟩
        · exact .inl ⟨h, by simp; omega, by simp; omega⟩
      have hL100 : Hid (L.length ≤ 100) := ⟨by have := hLk.out; omega⟩
      clear hgo
      rcases hout with ⟨hnl, hd1, hd2⟩ | ⟨hnl, hn1, hd1, hd2⟩
      · obtain ⟨hsr, hll, _, hoks, _⟩ := hS.out.mq List.mem_cons_self
        obtain ⟨L1, hL1⟩ : ∃ T, Hid (delN mine L = T) := ⟨_, ⟨rfl⟩⟩
        obtain ⟨L2, hL2⟩ : ∃ T, Hid (putA now ⟨mine, A⟩ L1 = T) := ⟨_, ⟨rfl⟩⟩
        obtain ⟨L3, hL3⟩ : ∃ T, Hid (putA now ⟨mine, B⟩ L2 = T) := ⟨_, ⟨rfl⟩⟩
        have hL4 : Hid (putA now ⟨mine, now⟩ L3 = L3) := ⟨by simp [putA]⟩
        obtain ⟨hb, hhb⟩ : ∃ hb, Hid (hasN mine L = hb) := ⟨_, ⟨rfl⟩⟩
        have hL1l : Hid (L1.length ≤ 100) := ⟨by rw [← hL1.out]; have := delN_le mine L; have := hL100.out; omega⟩
        have hs1 : Hid (Srt L1) := ⟨by rw [← hL1.out]; exact hsr.del _⟩
        have hs2 : Hid (Srt L2) := ⟨by rw [← hL2.out]; exact putA_srt hs1.out _⟩
        have hL2l : Hid (L2.length ≤ 101) := ⟨by rw [← hL2.out]; have := putA_le (now := now) hs1.out ⟨mine, A⟩; have := hL1l.out; omega⟩
        have hL3l : Hid (L3.length ≤ 102) := ⟨by rw [← hL3.out]; have := putA_le (now := now) hs2.out ⟨mine, B⟩; have := hL2l.out; omega⟩
        have hF : Hid (ofN mine L3 = [⟨mine, A⟩]) := ⟨by
          have f1 : ofN mine L1 = [] := by rw [← hL1.out]; exact ofN_del mine L
          have pA : now < A := by simpa using hp
          have pB : B ≤ now := by simpa using hq
          have f2 : ofN mine L2 = [⟨mine, A⟩] := by rw [← hL2.out]; unfold putA; rw [if_pos pA]; exact ofN_put hs1.out ⟨mine, A⟩
          rw [← hL3.out]; unfold putA; rw [if_neg (by show ¬ now < B; omega)]; exact f2⟩
        have hd3 : decide (L.length > 100) = false := by have := hL100.out; simp; omega
        have hd4 : decide ((L.length : Int) > 100) = false := by have := hL100.out; simp; omega
        have hd5 : decide (100 < L.length) = false := by have := hL100.out; simp; omega
        obtain ⟨c0, c1, _⟩ := own_b hS.out.swap.b
        clear hll hoks hsr
        go_wp2_with fail
        refine (later_any _ now n0 hnow h0 hA).mono ?_
        rintro r w2 ⟨rfl, rfl⟩
        go_wp2_with fail
        refine (later_any _ now n1 hnow h1 hB).mono ?_
        rintro r w3 ⟨rfl, rfl⟩
        go_wp2_with fail
        refine (len_m hS.out List.mem_cons_self).mono ?_
        rintro r w4 ⟨rfl, rfl⟩
        go_wp2_with fail
        refine (drop_e hS.out mine hmn hhb hL1).mono ?_
        rintro r w5 ⟨rfl, hS5⟩
        clear c0 c1
        go_wp2_with fail
        refine (put_e hS5 mine A hmn hA2 (by have := hL1l.out; omega) ⟨hp⟩ hL2).mono ?_
        rintro r w6 ⟨rfl, hS6⟩
        clear hS5
        go_wp2_with fail
        refine (put_e hS6 mine B hmn hB2 (by have := hL2l.out; omega) ⟨hq⟩ hL3).mono ?_
        rintro r w7 ⟨rfl, hS7⟩
        clear hS6
        go_wp2_with fail
        refine (put_e (b := false) hS7 mine now hmn hnow (by have := hL3l.out; omega) ⟨by simp⟩ hL4).mono ?_
        rintro r w8 ⟨rfl, hS8⟩
        clear hS7
        go_wp2_with fail
        refine (len_m hS8 List.mem_cons_self).mono ?_
        rintro r w9 ⟨rfl, rfl⟩
        obtain ⟨hs3, _, _, hok3, _⟩ := hS8.mq List.mem_cons_self
        obtain ⟨du1, du2⟩ := due_all (t := 18446744073709551615) (L := L3) fun e he => by have := (hok3 e he).2.2; omega
        have hatF : Hid (∀ x ∈ L3, x.n = mine → x.at_ = A) := ⟨fun x hx hn => by
          have h2 : x ∈ ofN mine L3 := by simp [ofN, hx, hn]
          rw [hF.out] at h2
          simp at h2
          rw [h2]⟩
        obtain ⟨tk, htk⟩ : ∃ tk, Hid ((if now < 18446744073709551615 then 18446744073709551615 else now) = tk) := ⟨_, ⟨rfl⟩⟩
        replace hok3 : Hid _ := ⟨hok3⟩
        replace du1 : Hid _ := ⟨du1⟩
        replace du2 : Hid _ := ⟨du2⟩
        go_wp2_with fail
        refine (adv_e hS8 18446744073709551615 (by omega) du1 du2 htk).mono ?_
        rintro r w10 ⟨da, dc, rfl, hS10⟩
        clear hS8
        have hL3i : L3.length ≤ 102 := hL3l.out
        go_wp2_with fail
        go_loop [18, 19] (fun c i => ∃ k : Nat, k ≤ L3.length ∧ c = .int .i64 ((ofN mine (L3.take k)).length : Nat) ∧ i = .int .i64 k)
          (fun _ i => L3.length - (intOf i).toNat)
        case atStart => exact ⟨0, by omega, by simp [ofN], rfl⟩
        case round =>
          obtain ⟨j, hj, rfl, rfl⟩ := hrel
          by_cases hjl : j < L3.length
          · have hdj : decide ((j : Int) < L3.length) = true := by simp; omega
            obtain ⟨y, hy⟩ := some_at hjl
            obtain ⟨g, rfl, -, -, q1, q2, -⟩ := (hS10.swap.r).at hy
            have hcn := ofN_snoc mine L3 j y hy
            have hcl : (ofN mine (L3.take j)).length ≤ 102 := Nat.le_trans (List.length_filter_le _ _) (by rw [List.length_take]; omega)
            by_cases hyn : y.n = mine
            · have hya := hatF.out y (List.mem_of_getElem? hy) hyn
              rw [if_pos hyn] at hcn
              have hqe : (y.n.toList == [109, 105, 110, 101]) = true := by rw [← mine_list, str_beq]; simpa using hyn
              have hqa : (y.at_ != A) = false := by simp [hya]
              generalize (ofN mine (L3.take j)).length = cj at *
              clear hyn hya
              replace hcn : Hid _ := ⟨hcn⟩
              replace hy : Hid _ := ⟨hy⟩
              go_wp2_with fail
              go_round
              case rel => exact ⟨j + 1, by omega, by rw [hcn.out]; go_num, by go_num⟩
              case measure => simp [intOf]; omega
            · rw [if_neg hyn, Nat.add_zero] at hcn
              have hqe : (y.n.toList == [109, 105, 110, 101]) = false := by rw [← mine_list, str_beq]; simpa using hyn
              generalize (ofN mine (L3.take j)).length = cj at *
              clear hyn
              replace hcn : Hid _ := ⟨hcn⟩
              replace hy : Hid _ := ⟨hy⟩
              go_wp2_with fail
              go_round
              case rel => exact ⟨j + 1, by omega, by rw [hcn.out]; simp, by go_num⟩
              case measure => simp [intOf]; omega
          · have hdj : decide ((j : Int) < L3.length) = false := by simp; omega
            have hje : j = L3.length := by omega
            subst hje
            have hcnt : (ofN mine (L3.take L3.length)).length = 1 := by rw [List.take_length, hF.out]; rfl
            rw [hcnt]
            go_wp2_with fail
            refine (alive_s hS10).mono ?_
            rintro r w11 ⟨rfl, hS11⟩
            go_wp2_with fail
            refine (len_m hS11 List.mem_cons_self).mono ?_
            rintro r w12 ⟨rfl, rfl⟩
            go_wp2
            go_ret
            exact ⟨rfl, hS11.2⟩
      · obtain ⟨hsr, hll, _, hoks, _⟩ := hS.out.mq List.mem_cons_self
        obtain ⟨L1, hL1⟩ : ∃ T, Hid (delN mine L = T) := ⟨_, ⟨rfl⟩⟩
        obtain ⟨L2, hL2⟩ : ∃ T, Hid (putA now ⟨mine, A⟩ L1 = T) := ⟨_, ⟨rfl⟩⟩
        obtain ⟨L3, hL3⟩ : ∃ T, Hid (putA now ⟨mine, B⟩ L2 = T) := ⟨_, ⟨rfl⟩⟩
        have hL4 : Hid (putA now ⟨mine, now⟩ L3 = L3) := ⟨by simp [putA]⟩
        obtain ⟨hb, hhb⟩ : ∃ hb, Hid (hasN mine L = hb) := ⟨_, ⟨rfl⟩⟩
        have hL1l : Hid (L1.length ≤ 100) := ⟨by rw [← hL1.out]; have := delN_le mine L; have := hL100.out; omega⟩
        have hs1 : Hid (Srt L1) := ⟨by rw [← hL1.out]; exact hsr.del _⟩
        have hs2 : Hid (Srt L2) := ⟨by rw [← hL2.out]; exact putA_srt hs1.out _⟩
        have hL2l : Hid (L2.length ≤ 101) := ⟨by rw [← hL2.out]; have := putA_le (now := now) hs1.out ⟨mine, A⟩; have := hL1l.out; omega⟩
        have hL3l : Hid (L3.length ≤ 102) := ⟨by rw [← hL3.out]; have := putA_le (now := now) hs2.out ⟨mine, B⟩; have := hL2l.out; omega⟩
        have hF : Hid (ofN mine L3 = [⟨mine, A⟩]) := ⟨by
          have f1 : ofN mine L1 = [] := by rw [← hL1.out]; exact ofN_del mine L
          have pA : now < A := by simpa using hp
          have pB : B ≤ now := by simpa using hq
          have f2 : ofN mine L2 = [⟨mine, A⟩] := by rw [← hL2.out]; unfold putA; rw [if_pos pA]; exact ofN_put hs1.out ⟨mine, A⟩
          rw [← hL3.out]; unfold putA; rw [if_neg (by show ¬ now < B; omega)]; exact f2⟩
        have hd3 : decide (L.length > 100) = false := by have := hL100.out; simp; omega
        have hd4 : decide ((L.length : Int) > 100) = false := by have := hL100.out; simp; omega
        have hd5 : decide (100 < L.length) = false := by have := hL100.out; simp; omega
        obtain ⟨c0, c1, _⟩ := own_b hS.out.swap.b
        clear hll hoks hsr
        go_wp2_with fail
        refine (later_any _ now n0 hnow h0 hA).mono ?_
        rintro r w2 ⟨rfl, rfl⟩
        go_wp2_with fail
        refine (later_any _ now n1 hnow h1 hB).mono ?_
        rintro r w3 ⟨rfl, rfl⟩
        go_wp2_with fail
        refine (len_m hS.out List.mem_cons_self).mono ?_
        rintro r w4 ⟨rfl, rfl⟩
        go_wp2_with fail
        refine (drop_e hS.out mine hmn hhb hL1).mono ?_
        rintro r w5 ⟨rfl, hS5⟩
        clear c0 c1
        go_wp2_with fail
        refine (put_e hS5 mine A hmn hA2 (by have := hL1l.out; omega) ⟨hp⟩ hL2).mono ?_
        rintro r w6 ⟨rfl, hS6⟩
        clear hS5
        go_wp2_with fail
        refine (put_e hS6 mine B hmn hB2 (by have := hL2l.out; omega) ⟨hq⟩ hL3).mono ?_
        rintro r w7 ⟨rfl, hS7⟩
        clear hS6
        go_wp2_with fail
        refine (put_e (b := false) hS7 mine now hmn hnow (by have := hL3l.out; omega) ⟨by simp⟩ hL4).mono ?_
        rintro r w8 ⟨rfl, hS8⟩
        clear hS7
        go_wp2_with fail
        refine (len_m hS8 List.mem_cons_self).mono ?_
        rintro r w9 ⟨rfl, rfl⟩
        obtain ⟨hs3, _, _, hok3, _⟩ := hS8.mq List.mem_cons_self
        obtain ⟨du1, du2⟩ := due_all (t := 18446744073709551615) (L := L3) fun e he => by have := (hok3 e he).2.2; omega
        have hatF : Hid (∀ x ∈ L3, x.n = mine → x.at_ = A) := ⟨fun x hx hn => by
          have h2 : x ∈ ofN mine L3 := by simp [ofN, hx, hn]
          rw [hF.out] at h2
          simp at h2
          rw [h2]⟩
        obtain ⟨tk, htk⟩ : ∃ tk, Hid ((if now < 18446744073709551615 then 18446744073709551615 else now) = tk) := ⟨_, ⟨rfl⟩⟩
        replace hok3 : Hid _ := ⟨hok3⟩
        replace du1 : Hid _ := ⟨du1⟩
        replace du2 : Hid _ := ⟨du2⟩
        go_wp2_with fail
        refine (adv_e hS8 18446744073709551615 (by omega) du1 du2 htk).mono ?_
        rintro r w10 ⟨da, dc, rfl, hS10⟩
        clear hS8
        have hL3i : L3.length ≤ 102 := hL3l.out
        go_wp2_with fail
        go_loop [18, 19] (fun c i => ∃ k : Nat, k ≤ L3.length ∧ c = .int .i64 ((ofN mine (L3.take k)).length : Nat) ∧ i = .int .i64 k)
          (fun _ i => L3.length - (intOf i).toNat)
        case atStart => exact ⟨0, by omega, by simp [ofN], rfl⟩
        case round =>
          obtain ⟨j, hj, rfl, rfl⟩ := hrel
          by_cases hjl : j < L3.length
          · have hdj : decide ((j : Int) < L3.length) = true := by simp; omega
            obtain ⟨y, hy⟩ := some_at hjl
            obtain ⟨g, rfl, -, -, q1, q2, -⟩ := (hS10.swap.r).at hy
            have hcn := ofN_snoc mine L3 j y hy
            have hcl : (ofN mine (L3.take j)).length ≤ 102 := Nat.le_trans (List.length_filter_le _ _) (by rw [List.length_take]; omega)
            by_cases hyn : y.n = mine
            · have hya := hatF.out y (List.mem_of_getElem? hy) hyn
              rw [if_pos hyn] at hcn
              have hqe : (y.n.toList == [109, 105, 110, 101]) = true := by rw [← mine_list, str_beq]; simpa using hyn
              have hqa : (y.at_ != A) = false := by simp [hya]
              generalize (ofN mine (L3.take j)).length = cj at *
              clear hyn hya
              replace hcn : Hid _ := ⟨hcn⟩
              replace hy : Hid _ := ⟨hy⟩
              go_wp2_with fail
              go_round
              case rel => exact ⟨j + 1, by omega, by rw [hcn.out]; go_num, by go_num⟩
              case measure => simp [intOf]; omega
            · rw [if_neg hyn, Nat.add_zero] at hcn
              have hqe : (y.n.toList == [109, 105, 110, 101]) = false := by rw [← mine_list, str_beq]; simpa using hyn
              generalize (ofN mine (L3.take j)).length = cj at *
              clear hyn
              replace hcn : Hid _ := ⟨hcn⟩
              replace hy : Hid _ := ⟨hy⟩
              go_wp2_with fail
              go_round
              case rel => exact ⟨j + 1, by omega, by rw [hcn.out]; simp, by go_num⟩
              case measure => simp [intOf]; omega
          · have hdj : decide ((j : Int) < L3.length) = false := by simp; omega
            have hje : j = L3.length := by omega
            subst hje
            have hcnt : (ofN mine (L3.take L3.length)).length = 1 := by rw [List.take_length, hF.out]; rfl
            rw [hcnt]
            go_wp2_with fail
            refine (alive_s hS10).mono ?_
            rintro r w11 ⟨rfl, hS11⟩
            go_wp2_with fail
            refine (len_m hS11 List.mem_cons_self).mono ?_
            rintro r w12 ⟨rfl, rfl⟩
            go_wp2
            go_ret
            exact ⟨rfl, hS11.2⟩
set_option maxRecDepth 100000 in
set_option maxHeartbeats 8000000 in
theorem moves_ft (now : Int) (hnow : 0 ≤ now ∧ now < 18446744073709551616) (a : Option Addr) (cap : Nat) (xs : List Ac) (W : World) (ha : Acs W.heap.size W (.slice a xs.length cap) xs) (hxl : xs.length ≤ maxLen) (n0 n1 : Int) (h0 : 0 ≤ n0 ∧ n0 < 18446744073709551616) (h1 : 0 ≤ n1 ∧ n1 < 18446744073709551616) (A B : Int) (hA : Hid (ltr now n0 = A)) (hB : Hid (ltr now n1 = B)) (hA2 : 0 ≤ A ∧ A < 18446744073709551616) (hB2 : 0 ≤ B ∧ B < 18446744073709551616) (hp : decide (now < A) = false) (hq : decide (now < B) = true) :
    Calls Try.prog 8 #[.int .u64 now, .slice a xs.length cap, .agg #[.int .u64 n0, .int .u64 n1]] W fun e W' => e = .returned (.bool true) ∧ Below W.heap.size W W' := by
  unfold maxLen at hxl
  have hmn : mine.size ≤ maxLen := small _ (by decide)
  have hb0 := (St.start W).box (.cells #[.int .u64 n0, .int .u64 n1] 54)
  go_enter Try.func8, Try.ntmps8
  go_wp2_with fail
  refine (new_s hb0 now hnow).mono ?_
  rintro r w1 ⟨wb, rfl, hs1⟩
  replace hs1 : Hid _ := ⟨hs1⟩
  go_wp2_with fail
  go_loopw [8] (fun i wr => ∃ (k : Nat) (L : List E), k ≤ xs.length ∧ k ≤ 100 ∧ i = .int .i64 k ∧ Hid (St W wr [.q wb now L, .b W.heap.size (.cells #[.int .u64 n0, .int .u64 n1] 54)]) ∧ Hid (L.length ≤ k))
    (fun i _ => 100 - (intOf i).toNat)
  case atStart => exact ⟨0, [], by omega, by omega, rfl, hs1, ⟨by simp⟩⟩
  case round =>
    clear hs1
    obtain ⟨k, L, hk, hk2, rfl, hS, hLk⟩ := hrel
    by_cases hgo : k < xs.length ∧ k < 100
    · obtain ⟨hlt, h100⟩ := hgo
      have hd1 : decide ((k : Int) < xs.length) = true := by simp; omega
      have hd2 : decide ((k : Int) < 100) = true := by simp; omega
      obtain ⟨x, hx⟩ : ∃ x, xs[k]? = some x := ⟨xs[k], List.getElem?_eq_getElem hlt⟩
      obtain ⟨b, off, rfl, hb, hok, c0, c1, c2, c3⟩ := (ha.below hS.out.2).at hx
      have hcell : Hid (∀ w', Below W.heap.size W w' → w'.cell? ⟨b, off + k * 4, none⟩ = some (.int .i64 x.kd) ∧ w'.cell? ⟨b, off + k * 4 + 1, none⟩ = some (.string x.nm) ∧ w'.cell? ⟨b, off + k * 4 + 2, none⟩ = some (.int .u64 x.at_) ∧ w'.cell? ⟨b, off + k * 4 + 3, none⟩ = some (.int .u64 x.by_)) := ⟨fun w' hb' => by
        obtain ⟨b', off', e', _, _, d0, d1, d2, d3⟩ := (ha.below hb').at hx
        cases e'
        exact ⟨d0, d1, d2, d3⟩⟩
      replace hx : Hid _ := ⟨hx⟩
      by_cases hk2' : x.kd = 2
      · have e2 : (x.kd == 2) = true := by simp [hk2']
        clear hk2'
        by_cases hsz : x.nm.size ≤ 40
        · have hds : decide ((x.nm.size : Int) ≤ 40) = true := by simp; omega
          obtain ⟨t, ht⟩ : ∃ t, Hid (x.tk now L = t) := ⟨_, ⟨rfl⟩⟩
          obtain ⟨pb, hpb⟩ : ∃ pb, Hid (decide (now < t) = pb) := ⟨_, ⟨rfl⟩⟩
          obtain ⟨T, hT⟩ : ∃ T, Hid (putA now ⟨x.nm, t⟩ L = T) := ⟨_, ⟨rfl⟩⟩
          obtain ⟨hsr, hll, _, hoks, _⟩ := hS.out.mq List.mem_cons_self
          have htb : 0 ≤ t ∧ t < 18446744073709551616 := by rw [← ht.out]; exact x.tk_bd hok hnow hoks
          have hTl : Hid (T.length ≤ k + 1) := ⟨by rw [← hT.out]; have := putA_le (now := now) hsr ⟨x.nm, t⟩; have := hLk.out; omega⟩
          have hS1 := hS.out.grown (grown_drew wr)
          have hLl : L.length < 100000 := by have := hLk.out; omega
          replace hoks : Hid _ := ⟨hoks⟩
          replace hLl : Hid _ := ⟨hLl⟩
          clear hll
          go_wp2_with fail
          go_region_held3 (fun w' => w'.cell? ⟨b, off + k * 4, none⟩ = some (.int .i64 x.kd) ∧ w'.cell? ⟨b, off + k * 4 + 1, none⟩ = some (.string x.nm) ∧ w'.cell? ⟨b, off + k * 4 + 2, none⟩ = some (.int .u64 x.at_) ∧ w'.cell? ⟨b, off + k * 4 + 3, none⟩ = some (.int .u64 x.by_))
            (first
              | go_keep
              | exact hcell.out _ hs3.2
              | exact hcell.out _ (hS1.grown hgA).2)
            (first
              | (go_at_call 10
                 refine (tick_m hS1 List.mem_cons_self x hok ht).mono ?_
                 rintro r w2 ⟨rfl, hgA⟩)
              | (go_at_call 11
                 refine (put_e (hS1.grown hgA) x.nm t hok.2.1 htb hLl.out hpb hT).mono ?_
                 rintro r w3 ⟨rfl, hs3⟩))
          replace hs3 : Hid _ := ⟨hs3⟩
          clear c0 c1 c2 c3
          go_wp2_with fail
          go_roundw
          case rel => exact ⟨k + 1, T, by omega, by omega, by go_num, hs3, hTl⟩
          case measure => simp [intOf]; omega
        · have hds : decide ((x.nm.size : Int) ≤ 40) = false := by simp; omega
          go_wp2_with fail
          go_roundw
          case rel => exact ⟨k + 1, L, by omega, by omega, by go_num, hS, ⟨by have := hLk.out; omega⟩⟩
          case measure => simp [intOf]; omega
      · have e2 : (x.kd == 2) = false := by simp [hk2']
        go_wp2_with fail
        go_roundw
        case rel => exact ⟨k + 1, L, by omega, by omega, by go_num, hS, ⟨by have := hLk.out; omega⟩⟩
        case measure => simp [intOf]; omega
    · have hout : (¬ k < xs.length ∧ decide ((k : Int) < xs.length) = false ∧ decide (k < xs.length) = false) ∨ (k < xs.length ∧ ¬ k < 100 ∧ decide ((k : Int) < xs.length) = true ∧ decide ((k : Int) < 100) = false) := by
        by_cases h : k < xs.length
        · exact .inr ⟨h, by omega, by simp; omega, by simp; omega⟩
        · exact .inl ⟨h, by simp; omega, by simp; omega⟩
      have hL100 : Hid (L.length ≤ 100) := ⟨by have := hLk.out; omega⟩
      clear hgo
      rcases hout with ⟨hnl, hd1, hd2⟩ | ⟨hnl, hn1, hd1, hd2⟩
      · obtain ⟨hsr, hll, _, hoks, _⟩ := hS.out.mq List.mem_cons_self
        obtain ⟨L1, hL1⟩ : ∃ T, Hid (delN mine L = T) := ⟨_, ⟨rfl⟩⟩
        obtain ⟨L2, hL2⟩ : ∃ T, Hid (putA now ⟨mine, A⟩ L1 = T) := ⟨_, ⟨rfl⟩⟩
        obtain ⟨L3, hL3⟩ : ∃ T, Hid (putA now ⟨mine, B⟩ L2 = T) := ⟨_, ⟨rfl⟩⟩
        have hL4 : Hid (putA now ⟨mine, now⟩ L3 = L3) := ⟨by simp [putA]⟩
        obtain ⟨hb, hhb⟩ : ∃ hb, Hid (hasN mine L = hb) := ⟨_, ⟨rfl⟩⟩
        have hL1l : Hid (L1.length ≤ 100) := ⟨by rw [← hL1.out]; have := delN_le mine L; have := hL100.out; omega⟩
        have hs1 : Hid (Srt L1) := ⟨by rw [← hL1.out]; exact hsr.del _⟩
        have hs2 : Hid (Srt L2) := ⟨by rw [← hL2.out]; exact putA_srt hs1.out _⟩
        have hL2l : Hid (L2.length ≤ 101) := ⟨by rw [← hL2.out]; have := putA_le (now := now) hs1.out ⟨mine, A⟩; have := hL1l.out; omega⟩
        have hL3l : Hid (L3.length ≤ 102) := ⟨by rw [← hL3.out]; have := putA_le (now := now) hs2.out ⟨mine, B⟩; have := hL2l.out; omega⟩
        have hF : Hid (ofN mine L3 = [⟨mine, B⟩]) := ⟨by
          have f1 : ofN mine L1 = [] := by rw [← hL1.out]; exact ofN_del mine L
          have pA : A ≤ now := by simpa using hp
          have pB : now < B := by simpa using hq
          have f2 : ofN mine L2 = [] := by rw [← hL2.out]; unfold putA; rw [if_neg (by show ¬ now < A; omega)]; exact f1
          rw [← hL3.out]; unfold putA; rw [if_pos pB]; exact ofN_put hs2.out ⟨mine, B⟩⟩
        have hd3 : decide (L.length > 100) = false := by have := hL100.out; simp; omega
        have hd4 : decide ((L.length : Int) > 100) = false := by have := hL100.out; simp; omega
        have hd5 : decide (100 < L.length) = false := by have := hL100.out; simp; omega
        obtain ⟨c0, c1, _⟩ := own_b hS.out.swap.b
        clear hll hoks hsr
        go_wp2_with fail
        refine (later_any _ now n0 hnow h0 hA).mono ?_
        rintro r w2 ⟨rfl, rfl⟩
        go_wp2_with fail
        refine (later_any _ now n1 hnow h1 hB).mono ?_
        rintro r w3 ⟨rfl, rfl⟩
        go_wp2_with fail
        refine (len_m hS.out List.mem_cons_self).mono ?_
        rintro r w4 ⟨rfl, rfl⟩
        go_wp2_with fail
        refine (drop_e hS.out mine hmn hhb hL1).mono ?_
        rintro r w5 ⟨rfl, hS5⟩
        clear c0 c1
        go_wp2_with fail
        refine (put_e hS5 mine A hmn hA2 (by have := hL1l.out; omega) ⟨hp⟩ hL2).mono ?_
        rintro r w6 ⟨rfl, hS6⟩
        clear hS5
        go_wp2_with fail
        refine (put_e hS6 mine B hmn hB2 (by have := hL2l.out; omega) ⟨hq⟩ hL3).mono ?_
        rintro r w7 ⟨rfl, hS7⟩
        clear hS6
        go_wp2_with fail
        refine (put_e (b := false) hS7 mine now hmn hnow (by have := hL3l.out; omega) ⟨by simp⟩ hL4).mono ?_
        rintro r w8 ⟨rfl, hS8⟩
        clear hS7
        go_wp2_with fail
        refine (len_m hS8 List.mem_cons_self).mono ?_
        rintro r w9 ⟨rfl, rfl⟩
        obtain ⟨hs3, _, _, hok3, _⟩ := hS8.mq List.mem_cons_self
        obtain ⟨du1, du2⟩ := due_all (t := 18446744073709551615) (L := L3) fun e he => by have := (hok3 e he).2.2; omega
        have hatF : Hid (∀ x ∈ L3, x.n = mine → x.at_ = B) := ⟨fun x hx hn => by
          have h2 : x ∈ ofN mine L3 := by simp [ofN, hx, hn]
          rw [hF.out] at h2
          simp at h2
          rw [h2]⟩
        obtain ⟨tk, htk⟩ : ∃ tk, Hid ((if now < 18446744073709551615 then 18446744073709551615 else now) = tk) := ⟨_, ⟨rfl⟩⟩
        replace hok3 : Hid _ := ⟨hok3⟩
        replace du1 : Hid _ := ⟨du1⟩
        replace du2 : Hid _ := ⟨du2⟩
        go_wp2_with fail
        refine (adv_e hS8 18446744073709551615 (by omega) du1 du2 htk).mono ?_
        rintro r w10 ⟨da, dc, rfl, hS10⟩
        clear hS8
        have hL3i : L3.length ≤ 102 := hL3l.out
        go_wp2_with fail
        go_loop [18, 19] (fun c i => ∃ k : Nat, k ≤ L3.length ∧ c = .int .i64 ((ofN mine (L3.take k)).length : Nat) ∧ i = .int .i64 k)
          (fun _ i => L3.length - (intOf i).toNat)
        case atStart => exact ⟨0, by omega, by simp [ofN], rfl⟩
        case round =>
          obtain ⟨j, hj, rfl, rfl⟩ := hrel
          by_cases hjl : j < L3.length
          · have hdj : decide ((j : Int) < L3.length) = true := by simp; omega
            obtain ⟨y, hy⟩ := some_at hjl
            obtain ⟨g, rfl, -, -, q1, q2, -⟩ := (hS10.swap.r).at hy
            have hcn := ofN_snoc mine L3 j y hy
            have hcl : (ofN mine (L3.take j)).length ≤ 102 := Nat.le_trans (List.length_filter_le _ _) (by rw [List.length_take]; omega)
            by_cases hyn : y.n = mine
            · have hya := hatF.out y (List.mem_of_getElem? hy) hyn
              rw [if_pos hyn] at hcn
              have hqe : (y.n.toList == [109, 105, 110, 101]) = true := by rw [← mine_list, str_beq]; simpa using hyn
              have hqa : (y.at_ != B) = false := by simp [hya]
              generalize (ofN mine (L3.take j)).length = cj at *
              clear hyn hya
              replace hcn : Hid _ := ⟨hcn⟩
              replace hy : Hid _ := ⟨hy⟩
              go_wp2_with fail
              go_round
              case rel => exact ⟨j + 1, by omega, by rw [hcn.out]; go_num, by go_num⟩
              case measure => simp [intOf]; omega
            · rw [if_neg hyn, Nat.add_zero] at hcn
              have hqe : (y.n.toList == [109, 105, 110, 101]) = false := by rw [← mine_list, str_beq]; simpa using hyn
              generalize (ofN mine (L3.take j)).length = cj at *
              clear hyn
              replace hcn : Hid _ := ⟨hcn⟩
              replace hy : Hid _ := ⟨hy⟩
              go_wp2_with fail
              go_round
              case rel => exact ⟨j + 1, by omega, by rw [hcn.out]; simp, by go_num⟩
              case measure => simp [intOf]; omega
          · have hdj : decide ((j : Int) < L3.length) = false := by simp; omega
            have hje : j = L3.length := by omega
            subst hje
            have hcnt : (ofN mine (L3.take L3.length)).length = 1 := by rw [List.take_length, hF.out]; rfl
            rw [hcnt]
            go_wp2_with fail
            refine (alive_s hS10).mono ?_
            rintro r w11 ⟨rfl, hS11⟩
            go_wp2_with fail
            refine (len_m hS11 List.mem_cons_self).mono ?_
            rintro r w12 ⟨rfl, rfl⟩
            go_wp2
            go_ret
            exact ⟨rfl, hS11.2⟩
      · obtain ⟨hsr, hll, _, hoks, _⟩ := hS.out.mq List.mem_cons_self
        obtain ⟨L1, hL1⟩ : ∃ T, Hid (delN mine L = T) := ⟨_, ⟨rfl⟩⟩
        obtain ⟨L2, hL2⟩ : ∃ T, Hid (putA now ⟨mine, A⟩ L1 = T) := ⟨_, ⟨rfl⟩⟩
        obtain ⟨L3, hL3⟩ : ∃ T, Hid (putA now ⟨mine, B⟩ L2 = T) := ⟨_, ⟨rfl⟩⟩
        have hL4 : Hid (putA now ⟨mine, now⟩ L3 = L3) := ⟨by simp [putA]⟩
        obtain ⟨hb, hhb⟩ : ∃ hb, Hid (hasN mine L = hb) := ⟨_, ⟨rfl⟩⟩
        have hL1l : Hid (L1.length ≤ 100) := ⟨by rw [← hL1.out]; have := delN_le mine L; have := hL100.out; omega⟩
        have hs1 : Hid (Srt L1) := ⟨by rw [← hL1.out]; exact hsr.del _⟩
        have hs2 : Hid (Srt L2) := ⟨by rw [← hL2.out]; exact putA_srt hs1.out _⟩
        have hL2l : Hid (L2.length ≤ 101) := ⟨by rw [← hL2.out]; have := putA_le (now := now) hs1.out ⟨mine, A⟩; have := hL1l.out; omega⟩
        have hL3l : Hid (L3.length ≤ 102) := ⟨by rw [← hL3.out]; have := putA_le (now := now) hs2.out ⟨mine, B⟩; have := hL2l.out; omega⟩
        have hF : Hid (ofN mine L3 = [⟨mine, B⟩]) := ⟨by
          have f1 : ofN mine L1 = [] := by rw [← hL1.out]; exact ofN_del mine L
          have pA : A ≤ now := by simpa using hp
          have pB : now < B := by simpa using hq
          have f2 : ofN mine L2 = [] := by rw [← hL2.out]; unfold putA; rw [if_neg (by show ¬ now < A; omega)]; exact f1
          rw [← hL3.out]; unfold putA; rw [if_pos pB]; exact ofN_put hs2.out ⟨mine, B⟩⟩
        have hd3 : decide (L.length > 100) = false := by have := hL100.out; simp; omega
        have hd4 : decide ((L.length : Int) > 100) = false := by have := hL100.out; simp; omega
        have hd5 : decide (100 < L.length) = false := by have := hL100.out; simp; omega
        obtain ⟨c0, c1, _⟩ := own_b hS.out.swap.b
        clear hll hoks hsr
        go_wp2_with fail
        refine (later_any _ now n0 hnow h0 hA).mono ?_
        rintro r w2 ⟨rfl, rfl⟩
        go_wp2_with fail
        refine (later_any _ now n1 hnow h1 hB).mono ?_
        rintro r w3 ⟨rfl, rfl⟩
        go_wp2_with fail
        refine (len_m hS.out List.mem_cons_self).mono ?_
        rintro r w4 ⟨rfl, rfl⟩
        go_wp2_with fail
        refine (drop_e hS.out mine hmn hhb hL1).mono ?_
        rintro r w5 ⟨rfl, hS5⟩
        clear c0 c1
        go_wp2_with fail
        refine (put_e hS5 mine A hmn hA2 (by have := hL1l.out; omega) ⟨hp⟩ hL2).mono ?_
        rintro r w6 ⟨rfl, hS6⟩
        clear hS5
        go_wp2_with fail
        refine (put_e hS6 mine B hmn hB2 (by have := hL2l.out; omega) ⟨hq⟩ hL3).mono ?_
        rintro r w7 ⟨rfl, hS7⟩
        clear hS6
        go_wp2_with fail
        refine (put_e (b := false) hS7 mine now hmn hnow (by have := hL3l.out; omega) ⟨by simp⟩ hL4).mono ?_
        rintro r w8 ⟨rfl, hS8⟩
        clear hS7
        go_wp2_with fail
        refine (len_m hS8 List.mem_cons_self).mono ?_
        rintro r w9 ⟨rfl, rfl⟩
        obtain ⟨hs3, _, _, hok3, _⟩ := hS8.mq List.mem_cons_self
        obtain ⟨du1, du2⟩ := due_all (t := 18446744073709551615) (L := L3) fun e he => by have := (hok3 e he).2.2; omega
        have hatF : Hid (∀ x ∈ L3, x.n = mine → x.at_ = B) := ⟨fun x hx hn => by
          have h2 : x ∈ ofN mine L3 := by simp [ofN, hx, hn]
          rw [hF.out] at h2
          simp at h2
          rw [h2]⟩
        obtain ⟨tk, htk⟩ : ∃ tk, Hid ((if now < 18446744073709551615 then 18446744073709551615 else now) = tk) := ⟨_, ⟨rfl⟩⟩
        replace hok3 : Hid _ := ⟨hok3⟩
        replace du1 : Hid _ := ⟨du1⟩
        replace du2 : Hid _ := ⟨du2⟩
        go_wp2_with fail
        refine (adv_e hS8 18446744073709551615 (by omega) du1 du2 htk).mono ?_
        rintro r w10 ⟨da, dc, rfl, hS10⟩
        clear hS8
        have hL3i : L3.length ≤ 102 := hL3l.out
        go_wp2_with fail
        go_loop [18, 19] (fun c i => ∃ k : Nat, k ≤ L3.length ∧ c = .int .i64 ((ofN mine (L3.take k)).length : Nat) ∧ i = .int .i64 k)
          (fun _ i => L3.length - (intOf i).toNat)
        case atStart => exact ⟨0, by omega, by simp [ofN], rfl⟩
        case round =>
          obtain ⟨j, hj, rfl, rfl⟩ := hrel
          by_cases hjl : j < L3.length
          · have hdj : decide ((j : Int) < L3.length) = true := by simp; omega
            obtain ⟨y, hy⟩ := some_at hjl
            obtain ⟨g, rfl, -, -, q1, q2, -⟩ := (hS10.swap.r).at hy
            have hcn := ofN_snoc mine L3 j y hy
            have hcl : (ofN mine (L3.take j)).length ≤ 102 := Nat.le_trans (List.length_filter_le _ _) (by rw [List.length_take]; omega)
            by_cases hyn : y.n = mine
            · have hya := hatF.out y (List.mem_of_getElem? hy) hyn
              rw [if_pos hyn] at hcn
              have hqe : (y.n.toList == [109, 105, 110, 101]) = true := by rw [← mine_list, str_beq]; simpa using hyn
              have hqa : (y.at_ != B) = false := by simp [hya]
              generalize (ofN mine (L3.take j)).length = cj at *
              clear hyn hya
              replace hcn : Hid _ := ⟨hcn⟩
              replace hy : Hid _ := ⟨hy⟩
              go_wp2_with fail
              go_round
              case rel => exact ⟨j + 1, by omega, by rw [hcn.out]; go_num, by go_num⟩
              case measure => simp [intOf]; omega
            · rw [if_neg hyn, Nat.add_zero] at hcn
              have hqe : (y.n.toList == [109, 105, 110, 101]) = false := by rw [← mine_list, str_beq]; simpa using hyn
              generalize (ofN mine (L3.take j)).length = cj at *
              clear hyn
              replace hcn : Hid _ := ⟨hcn⟩
              replace hy : Hid _ := ⟨hy⟩
              go_wp2_with fail
              go_round
              case rel => exact ⟨j + 1, by omega, by rw [hcn.out]; simp, by go_num⟩
              case measure => simp [intOf]; omega
          · have hdj : decide ((j : Int) < L3.length) = false := by simp; omega
            have hje : j = L3.length := by omega
            subst hje
            have hcnt : (ofN mine (L3.take L3.length)).length = 1 := by rw [List.take_length, hF.out]; rfl
            rw [hcnt]
            go_wp2_with fail
            refine (alive_s hS10).mono ?_
            rintro r w11 ⟨rfl, hS11⟩
            go_wp2_with fail
            refine (len_m hS11 List.mem_cons_self).mono ?_
            rintro r w12 ⟨rfl, rfl⟩
            go_wp2
            go_ret
            exact ⟨rfl, hS11.2⟩
set_option maxRecDepth 100000 in
set_option maxHeartbeats 8000000 in
theorem moves_ff (now : Int) (hnow : 0 ≤ now ∧ now < 18446744073709551616) (a : Option Addr) (cap : Nat) (xs : List Ac) (W : World) (ha : Acs W.heap.size W (.slice a xs.length cap) xs) (hxl : xs.length ≤ maxLen) (n0 n1 : Int) (h0 : 0 ≤ n0 ∧ n0 < 18446744073709551616) (h1 : 0 ≤ n1 ∧ n1 < 18446744073709551616) (A B : Int) (hA : Hid (ltr now n0 = A)) (hB : Hid (ltr now n1 = B)) (hA2 : 0 ≤ A ∧ A < 18446744073709551616) (hB2 : 0 ≤ B ∧ B < 18446744073709551616) (hp : decide (now < A) = false) (hq : decide (now < B) = false) :
    Calls Try.prog 8 #[.int .u64 now, .slice a xs.length cap, .agg #[.int .u64 n0, .int .u64 n1]] W fun e W' => e = .returned (.bool true) ∧ Below W.heap.size W W' := by
  unfold maxLen at hxl
  have hmn : mine.size ≤ maxLen := small _ (by decide)
  have hb0 := (St.start W).box (.cells #[.int .u64 n0, .int .u64 n1] 54)
  go_enter Try.func8, Try.ntmps8
  go_wp2_with fail
  refine (new_s hb0 now hnow).mono ?_
  rintro r w1 ⟨wb, rfl, hs1⟩
  replace hs1 : Hid _ := ⟨hs1⟩
  go_wp2_with fail
  go_loopw [8] (fun i wr => ∃ (k : Nat) (L : List E), k ≤ xs.length ∧ k ≤ 100 ∧ i = .int .i64 k ∧ Hid (St W wr [.q wb now L, .b W.heap.size (.cells #[.int .u64 n0, .int .u64 n1] 54)]) ∧ Hid (L.length ≤ k))
    (fun i _ => 100 - (intOf i).toNat)
  case atStart => exact ⟨0, [], by omega, by omega, rfl, hs1, ⟨by simp⟩⟩
  case round =>
    clear hs1
    obtain ⟨k, L, hk, hk2, rfl, hS, hLk⟩ := hrel
    by_cases hgo : k < xs.length ∧ k < 100
    · obtain ⟨hlt, h100⟩ := hgo
      have hd1 : decide ((k : Int) < xs.length) = true := by simp; omega
      have hd2 : decide ((k : Int) < 100) = true := by simp; omega
      obtain ⟨x, hx⟩ : ∃ x, xs[k]? = some x := ⟨xs[k], List.getElem?_eq_getElem hlt⟩
      obtain ⟨b, off, rfl, hb, hok, c0, c1, c2, c3⟩ := (ha.below hS.out.2).at hx
      have hcell : Hid (∀ w', Below W.heap.size W w' → w'.cell? ⟨b, off + k * 4, none⟩ = some (.int .i64 x.kd) ∧ w'.cell? ⟨b, off + k * 4 + 1, none⟩ = some (.string x.nm) ∧ w'.cell? ⟨b, off + k * 4 + 2, none⟩ = some (.int .u64 x.at_) ∧ w'.cell? ⟨b, off + k * 4 + 3, none⟩ = some (.int .u64 x.by_)) := ⟨fun w' hb' => by
        obtain ⟨b', off', e', _, _, d0, d1, d2, d3⟩ := (ha.below hb').at hx
        cases e'
        exact ⟨d0, d1, d2, d3⟩⟩
      replace hx : Hid _ := ⟨hx⟩
      by_cases hk2' : x.kd = 2
      · have e2 : (x.kd == 2) = true := by simp [hk2']
        clear hk2'
        by_cases hsz : x.nm.size ≤ 40
        · have hds : decide ((x.nm.size : Int) ≤ 40) = true := by simp; omega
          obtain ⟨t, ht⟩ : ∃ t, Hid (x.tk now L = t) := ⟨_, ⟨rfl⟩⟩
          obtain ⟨pb, hpb⟩ : ∃ pb, Hid (decide (now < t) = pb) := ⟨_, ⟨rfl⟩⟩
          obtain ⟨T, hT⟩ : ∃ T, Hid (putA now ⟨x.nm, t⟩ L = T) := ⟨_, ⟨rfl⟩⟩
          obtain ⟨hsr, hll, _, hoks, _⟩ := hS.out.mq List.mem_cons_self
          have htb : 0 ≤ t ∧ t < 18446744073709551616 := by rw [← ht.out]; exact x.tk_bd hok hnow hoks
          have hTl : Hid (T.length ≤ k + 1) := ⟨by rw [← hT.out]; have := putA_le (now := now) hsr ⟨x.nm, t⟩; have := hLk.out; omega⟩
          have hS1 := hS.out.grown (grown_drew wr)
          have hLl : L.length < 100000 := by have := hLk.out; omega
          replace hoks : Hid _ := ⟨hoks⟩
          replace hLl : Hid _ := ⟨hLl⟩
          clear hll
          go_wp2_with fail
          go_region_held3 (fun w' => w'.cell? ⟨b, off + k * 4, none⟩ = some (.int .i64 x.kd) ∧ w'.cell? ⟨b, off + k * 4 + 1, none⟩ = some (.string x.nm) ∧ w'.cell? ⟨b, off + k * 4 + 2, none⟩ = some (.int .u64 x.at_) ∧ w'.cell? ⟨b, off + k * 4 + 3, none⟩ = some (.int .u64 x.by_))
            (first
              | go_keep
              | exact hcell.out _ hs3.2
              | exact hcell.out _ (hS1.grown hgA).2)
            (first
              | (go_at_call 10
                 refine (tick_m hS1 List.mem_cons_self x hok ht).mono ?_
                 rintro r w2 ⟨rfl, hgA⟩)
              | (go_at_call 11
                 refine (put_e (hS1.grown hgA) x.nm t hok.2.1 htb hLl.out hpb hT).mono ?_
                 rintro r w3 ⟨rfl, hs3⟩))
          replace hs3 : Hid _ := ⟨hs3⟩
          clear c0 c1 c2 c3
          go_wp2_with fail
          go_roundw
          case rel => exact ⟨k + 1, T, by omega, by omega, by go_num, hs3, hTl⟩
          case measure => simp [intOf]; omega
        · have hds : decide ((x.nm.size : Int) ≤ 40) = false := by simp; omega
          go_wp2_with fail
          go_roundw
          case rel => exact ⟨k + 1, L, by omega, by omega, by go_num, hS, ⟨by have := hLk.out; omega⟩⟩
          case measure => simp [intOf]; omega
      · have e2 : (x.kd == 2) = false := by simp [hk2']
        go_wp2_with fail
        go_roundw
        case rel => exact ⟨k + 1, L, by omega, by omega, by go_num, hS, ⟨by have := hLk.out; omega⟩⟩
        case measure => simp [intOf]; omega
    · have hout : (¬ k < xs.length ∧ decide ((k : Int) < xs.length) = false ∧ decide (k < xs.length) = false) ∨ (k < xs.length ∧ ¬ k < 100 ∧ decide ((k : Int) < xs.length) = true ∧ decide ((k : Int) < 100) = false) := by
        by_cases h : k < xs.length
        · exact .inr ⟨h, by omega, by simp; omega, by simp; omega⟩
        · exact .inl ⟨h, by simp; omega, by simp; omega⟩
      have hL100 : Hid (L.length ≤ 100) := ⟨by have := hLk.out; omega⟩
      clear hgo
      rcases hout with ⟨hnl, hd1, hd2⟩ | ⟨hnl, hn1, hd1, hd2⟩
      · obtain ⟨hsr, hll, _, hoks, _⟩ := hS.out.mq List.mem_cons_self
        obtain ⟨L1, hL1⟩ : ∃ T, Hid (delN mine L = T) := ⟨_, ⟨rfl⟩⟩
        obtain ⟨L2, hL2⟩ : ∃ T, Hid (putA now ⟨mine, A⟩ L1 = T) := ⟨_, ⟨rfl⟩⟩
        obtain ⟨L3, hL3⟩ : ∃ T, Hid (putA now ⟨mine, B⟩ L2 = T) := ⟨_, ⟨rfl⟩⟩
        have hL4 : Hid (putA now ⟨mine, now⟩ L3 = L3) := ⟨by simp [putA]⟩
        obtain ⟨hb, hhb⟩ : ∃ hb, Hid (hasN mine L = hb) := ⟨_, ⟨rfl⟩⟩
        have hL1l : Hid (L1.length ≤ 100) := ⟨by rw [← hL1.out]; have := delN_le mine L; have := hL100.out; omega⟩
        have hs1 : Hid (Srt L1) := ⟨by rw [← hL1.out]; exact hsr.del _⟩
        have hs2 : Hid (Srt L2) := ⟨by rw [← hL2.out]; exact putA_srt hs1.out _⟩
        have hL2l : Hid (L2.length ≤ 101) := ⟨by rw [← hL2.out]; have := putA_le (now := now) hs1.out ⟨mine, A⟩; have := hL1l.out; omega⟩
        have hL3l : Hid (L3.length ≤ 102) := ⟨by rw [← hL3.out]; have := putA_le (now := now) hs2.out ⟨mine, B⟩; have := hL2l.out; omega⟩
        have hF : Hid (ofN mine L3 = []) := ⟨by
          have f1 : ofN mine L1 = [] := by rw [← hL1.out]; exact ofN_del mine L
          have pA : A ≤ now := by simpa using hp
          have pB : B ≤ now := by simpa using hq
          have f2 : ofN mine L2 = [] := by rw [← hL2.out]; unfold putA; rw [if_neg (by show ¬ now < A; omega)]; exact f1
          rw [← hL3.out]; unfold putA; rw [if_neg (by show ¬ now < B; omega)]; exact f2⟩
        have hd3 : decide (L.length > 100) = false := by have := hL100.out; simp; omega
        have hd4 : decide ((L.length : Int) > 100) = false := by have := hL100.out; simp; omega
        have hd5 : decide (100 < L.length) = false := by have := hL100.out; simp; omega
        obtain ⟨c0, c1, _⟩ := own_b hS.out.swap.b
        clear hll hoks hsr
        go_wp2_with fail
        refine (later_any _ now n0 hnow h0 hA).mono ?_
        rintro r w2 ⟨rfl, rfl⟩
        go_wp2_with fail
        refine (later_any _ now n1 hnow h1 hB).mono ?_
        rintro r w3 ⟨rfl, rfl⟩
        go_wp2_with fail
        refine (len_m hS.out List.mem_cons_self).mono ?_
        rintro r w4 ⟨rfl, rfl⟩
        go_wp2_with fail
        refine (drop_e hS.out mine hmn hhb hL1).mono ?_
        rintro r w5 ⟨rfl, hS5⟩
        clear c0 c1
        go_wp2_with fail
        refine (put_e hS5 mine A hmn hA2 (by have := hL1l.out; omega) ⟨hp⟩ hL2).mono ?_
        rintro r w6 ⟨rfl, hS6⟩
        clear hS5
        go_wp2_with fail
        refine (put_e hS6 mine B hmn hB2 (by have := hL2l.out; omega) ⟨hq⟩ hL3).mono ?_
        rintro r w7 ⟨rfl, hS7⟩
        clear hS6
        go_wp2_with fail
        refine (put_e (b := false) hS7 mine now hmn hnow (by have := hL3l.out; omega) ⟨by simp⟩ hL4).mono ?_
        rintro r w8 ⟨rfl, hS8⟩
        clear hS7
        go_wp2_with fail
        refine (len_m hS8 List.mem_cons_self).mono ?_
        rintro r w9 ⟨rfl, rfl⟩
        obtain ⟨hs3, _, _, hok3, _⟩ := hS8.mq List.mem_cons_self
        obtain ⟨du1, du2⟩ := due_all (t := 18446744073709551615) (L := L3) fun e he => by have := (hok3 e he).2.2; omega
        have hatF : Hid (∀ x ∈ L3, x.n = mine → x.at_ = A) := ⟨fun x hx hn => by
          have h2 : x ∈ ofN mine L3 := by simp [ofN, hx, hn]
          rw [hF.out] at h2
          cases h2⟩
        obtain ⟨tk, htk⟩ : ∃ tk, Hid ((if now < 18446744073709551615 then 18446744073709551615 else now) = tk) := ⟨_, ⟨rfl⟩⟩
        replace hok3 : Hid _ := ⟨hok3⟩
        replace du1 : Hid _ := ⟨du1⟩
        replace du2 : Hid _ := ⟨du2⟩
        go_wp2_with fail
        refine (adv_e hS8 18446744073709551615 (by omega) du1 du2 htk).mono ?_
        rintro r w10 ⟨da, dc, rfl, hS10⟩
        clear hS8
        have hL3i : L3.length ≤ 102 := hL3l.out
        go_wp2_with fail
        go_loop [18, 19] (fun c i => ∃ k : Nat, k ≤ L3.length ∧ c = .int .i64 ((ofN mine (L3.take k)).length : Nat) ∧ i = .int .i64 k)
          (fun _ i => L3.length - (intOf i).toNat)
        case atStart => exact ⟨0, by omega, by simp [ofN], rfl⟩
        case round =>
          obtain ⟨j, hj, rfl, rfl⟩ := hrel
          by_cases hjl : j < L3.length
          · have hdj : decide ((j : Int) < L3.length) = true := by simp; omega
            obtain ⟨y, hy⟩ := some_at hjl
            obtain ⟨g, rfl, -, -, q1, q2, -⟩ := (hS10.swap.r).at hy
            have hcn := ofN_snoc mine L3 j y hy
            have hcl : (ofN mine (L3.take j)).length ≤ 102 := Nat.le_trans (List.length_filter_le _ _) (by rw [List.length_take]; omega)
            by_cases hyn : y.n = mine
            · have hya := hatF.out y (List.mem_of_getElem? hy) hyn
              rw [if_pos hyn] at hcn
              have hqe : (y.n.toList == [109, 105, 110, 101]) = true := by rw [← mine_list, str_beq]; simpa using hyn
              have hqa : (y.at_ != A) = false := by simp [hya]
              generalize (ofN mine (L3.take j)).length = cj at *
              clear hyn hya
              replace hcn : Hid _ := ⟨hcn⟩
              replace hy : Hid _ := ⟨hy⟩
              go_wp2_with fail
              go_round
              case rel => exact ⟨j + 1, by omega, by rw [hcn.out]; go_num, by go_num⟩
              case measure => simp [intOf]; omega
            · rw [if_neg hyn, Nat.add_zero] at hcn
              have hqe : (y.n.toList == [109, 105, 110, 101]) = false := by rw [← mine_list, str_beq]; simpa using hyn
              generalize (ofN mine (L3.take j)).length = cj at *
              clear hyn
              replace hcn : Hid _ := ⟨hcn⟩
              replace hy : Hid _ := ⟨hy⟩
              go_wp2_with fail
              go_round
              case rel => exact ⟨j + 1, by omega, by rw [hcn.out]; simp, by go_num⟩
              case measure => simp [intOf]; omega
          · have hdj : decide ((j : Int) < L3.length) = false := by simp; omega
            have hje : j = L3.length := by omega
            subst hje
            have hcnt : (ofN mine (L3.take L3.length)).length = 0 := by rw [List.take_length, hF.out]; rfl
            rw [hcnt]
            go_wp2_with fail
            refine (alive_s hS10).mono ?_
            rintro r w11 ⟨rfl, hS11⟩
            go_wp2_with fail
            refine (len_m hS11 List.mem_cons_self).mono ?_
            rintro r w12 ⟨rfl, rfl⟩
            go_wp2
            go_ret
            exact ⟨rfl, hS11.2⟩
      · obtain ⟨hsr, hll, _, hoks, _⟩ := hS.out.mq List.mem_cons_self
        obtain ⟨L1, hL1⟩ : ∃ T, Hid (delN mine L = T) := ⟨_, ⟨rfl⟩⟩
        obtain ⟨L2, hL2⟩ : ∃ T, Hid (putA now ⟨mine, A⟩ L1 = T) := ⟨_, ⟨rfl⟩⟩
        obtain ⟨L3, hL3⟩ : ∃ T, Hid (putA now ⟨mine, B⟩ L2 = T) := ⟨_, ⟨rfl⟩⟩
        have hL4 : Hid (putA now ⟨mine, now⟩ L3 = L3) := ⟨by simp [putA]⟩
        obtain ⟨hb, hhb⟩ : ∃ hb, Hid (hasN mine L = hb) := ⟨_, ⟨rfl⟩⟩
        have hL1l : Hid (L1.length ≤ 100) := ⟨by rw [← hL1.out]; have := delN_le mine L; have := hL100.out; omega⟩
        have hs1 : Hid (Srt L1) := ⟨by rw [← hL1.out]; exact hsr.del _⟩
        have hs2 : Hid (Srt L2) := ⟨by rw [← hL2.out]; exact putA_srt hs1.out _⟩
        have hL2l : Hid (L2.length ≤ 101) := ⟨by rw [← hL2.out]; have := putA_le (now := now) hs1.out ⟨mine, A⟩; have := hL1l.out; omega⟩
        have hL3l : Hid (L3.length ≤ 102) := ⟨by rw [← hL3.out]; have := putA_le (now := now) hs2.out ⟨mine, B⟩; have := hL2l.out; omega⟩
        have hF : Hid (ofN mine L3 = []) := ⟨by
          have f1 : ofN mine L1 = [] := by rw [← hL1.out]; exact ofN_del mine L
          have pA : A ≤ now := by simpa using hp
          have pB : B ≤ now := by simpa using hq
          have f2 : ofN mine L2 = [] := by rw [← hL2.out]; unfold putA; rw [if_neg (by show ¬ now < A; omega)]; exact f1
          rw [← hL3.out]; unfold putA; rw [if_neg (by show ¬ now < B; omega)]; exact f2⟩
        have hd3 : decide (L.length > 100) = false := by have := hL100.out; simp; omega
        have hd4 : decide ((L.length : Int) > 100) = false := by have := hL100.out; simp; omega
        have hd5 : decide (100 < L.length) = false := by have := hL100.out; simp; omega
        obtain ⟨c0, c1, _⟩ := own_b hS.out.swap.b
        clear hll hoks hsr
        go_wp2_with fail
        refine (later_any _ now n0 hnow h0 hA).mono ?_
        rintro r w2 ⟨rfl, rfl⟩
        go_wp2_with fail
        refine (later_any _ now n1 hnow h1 hB).mono ?_
        rintro r w3 ⟨rfl, rfl⟩
        go_wp2_with fail
        refine (len_m hS.out List.mem_cons_self).mono ?_
        rintro r w4 ⟨rfl, rfl⟩
        go_wp2_with fail
        refine (drop_e hS.out mine hmn hhb hL1).mono ?_
        rintro r w5 ⟨rfl, hS5⟩
        clear c0 c1
        go_wp2_with fail
        refine (put_e hS5 mine A hmn hA2 (by have := hL1l.out; omega) ⟨hp⟩ hL2).mono ?_
        rintro r w6 ⟨rfl, hS6⟩
        clear hS5
        go_wp2_with fail
        refine (put_e hS6 mine B hmn hB2 (by have := hL2l.out; omega) ⟨hq⟩ hL3).mono ?_
        rintro r w7 ⟨rfl, hS7⟩
        clear hS6
        go_wp2_with fail
        refine (put_e (b := false) hS7 mine now hmn hnow (by have := hL3l.out; omega) ⟨by simp⟩ hL4).mono ?_
        rintro r w8 ⟨rfl, hS8⟩
        clear hS7
        go_wp2_with fail
        refine (len_m hS8 List.mem_cons_self).mono ?_
        rintro r w9 ⟨rfl, rfl⟩
        obtain ⟨hs3, _, _, hok3, _⟩ := hS8.mq List.mem_cons_self
        obtain ⟨du1, du2⟩ := due_all (t := 18446744073709551615) (L := L3) fun e he => by have := (hok3 e he).2.2; omega
        have hatF : Hid (∀ x ∈ L3, x.n = mine → x.at_ = A) := ⟨fun x hx hn => by
          have h2 : x ∈ ofN mine L3 := by simp [ofN, hx, hn]
          rw [hF.out] at h2
          cases h2⟩
        obtain ⟨tk, htk⟩ : ∃ tk, Hid ((if now < 18446744073709551615 then 18446744073709551615 else now) = tk) := ⟨_, ⟨rfl⟩⟩
        replace hok3 : Hid _ := ⟨hok3⟩
        replace du1 : Hid _ := ⟨du1⟩
        replace du2 : Hid _ := ⟨du2⟩
        go_wp2_with fail
        refine (adv_e hS8 18446744073709551615 (by omega) du1 du2 htk).mono ?_
        rintro r w10 ⟨da, dc, rfl, hS10⟩
        clear hS8
        have hL3i : L3.length ≤ 102 := hL3l.out
        go_wp2_with fail
        go_loop [18, 19] (fun c i => ∃ k : Nat, k ≤ L3.length ∧ c = .int .i64 ((ofN mine (L3.take k)).length : Nat) ∧ i = .int .i64 k)
          (fun _ i => L3.length - (intOf i).toNat)
        case atStart => exact ⟨0, by omega, by simp [ofN], rfl⟩
        case round =>
          obtain ⟨j, hj, rfl, rfl⟩ := hrel
          by_cases hjl : j < L3.length
          · have hdj : decide ((j : Int) < L3.length) = true := by simp; omega
            obtain ⟨y, hy⟩ := some_at hjl
            obtain ⟨g, rfl, -, -, q1, q2, -⟩ := (hS10.swap.r).at hy
            have hcn := ofN_snoc mine L3 j y hy
            have hcl : (ofN mine (L3.take j)).length ≤ 102 := Nat.le_trans (List.length_filter_le _ _) (by rw [List.length_take]; omega)
            by_cases hyn : y.n = mine
            · have hya := hatF.out y (List.mem_of_getElem? hy) hyn
              rw [if_pos hyn] at hcn
              have hqe : (y.n.toList == [109, 105, 110, 101]) = true := by rw [← mine_list, str_beq]; simpa using hyn
              have hqa : (y.at_ != A) = false := by simp [hya]
              generalize (ofN mine (L3.take j)).length = cj at *
              clear hyn hya
              replace hcn : Hid _ := ⟨hcn⟩
              replace hy : Hid _ := ⟨hy⟩
              go_wp2_with fail
              go_round
              case rel => exact ⟨j + 1, by omega, by rw [hcn.out]; go_num, by go_num⟩
              case measure => simp [intOf]; omega
            · rw [if_neg hyn, Nat.add_zero] at hcn
              have hqe : (y.n.toList == [109, 105, 110, 101]) = false := by rw [← mine_list, str_beq]; simpa using hyn
              generalize (ofN mine (L3.take j)).length = cj at *
              clear hyn
              replace hcn : Hid _ := ⟨hcn⟩
              replace hy : Hid _ := ⟨hy⟩
              go_wp2_with fail
              go_round
              case rel => exact ⟨j + 1, by omega, by rw [hcn.out]; simp, by go_num⟩
              case measure => simp [intOf]; omega
          · have hdj : decide ((j : Int) < L3.length) = false := by simp; omega
            have hje : j = L3.length := by omega
            subst hje
            have hcnt : (ofN mine (L3.take L3.length)).length = 0 := by rw [List.take_length, hF.out]; rfl
            rw [hcnt]
            go_wp2_with fail
            refine (alive_s hS10).mono ?_
            rintro r w11 ⟨rfl, hS11⟩
            go_wp2_with fail
            refine (len_m hS11 List.mem_cons_self).mono ?_
            rintro r w12 ⟨rfl, rfl⟩
            go_wp2
            go_ret
            exact ⟨rfl, hS11.2⟩
theorem moves_walk (now : Int) (hnow : 0 ≤ now ∧ now < 18446744073709551616) (a : Option Addr) (len cap : Nat) (xs : List Ac) (W : World) (ha : Acs W.heap.size W (.slice a len cap) xs) (n0 n1 : Int) (h0 : 0 ≤ n0 ∧ n0 < 18446744073709551616) (h1 : 0 ≤ n1 ∧ n1 < 18446744073709551616) :
    Calls Try.prog 8 #[.int .u64 now, .slice a len cap, .agg #[.int .u64 n0, .int .u64 n1]] W fun e W' => e = .returned (.bool true) ∧ Below W.heap.size W W' := by
  obtain ⟨a', cap', e, hxl⟩ := ha.shape
  simp only [Value.slice.injEq] at e
  obtain ⟨rfl, rfl, rfl⟩ := e
  have b0 := ltr_bd hnow h0
  have b1 := ltr_bd hnow h1
  cases hp : decide (now < ltr now n0) with
  | true =>
    cases hq : decide (now < ltr now n1) with
    | true => exact moves_tt now hnow a cap xs W ha hxl n0 n1 h0 h1 _ _ ⟨rfl⟩ ⟨rfl⟩ ⟨b0.1, b0.2.1⟩ ⟨b1.1, b1.2.1⟩ hp hq
    | false => exact moves_tf now hnow a cap xs W ha hxl n0 n1 h0 h1 _ _ ⟨rfl⟩ ⟨rfl⟩ ⟨b0.1, b0.2.1⟩ ⟨b1.1, b1.2.1⟩ hp hq
  | false =>
    cases hq : decide (now < ltr now n1) with
    | true => exact moves_ft now hnow a cap xs W ha hxl n0 n1 h0 h1 _ _ ⟨rfl⟩ ⟨rfl⟩ ⟨b0.1, b0.2.1⟩ ⟨b1.1, b1.2.1⟩ hp hq
    | false => exact moves_ff now hnow a cap xs W ha hxl n0 n1 h0 h1 _ _ ⟨rfl⟩ ⟨rfl⟩ ⟨b0.1, b0.2.1⟩ ⟨b1.1, b1.2.1⟩ hp hq
end Go.Proofs.Ytlljfgpmjpmoiaa
