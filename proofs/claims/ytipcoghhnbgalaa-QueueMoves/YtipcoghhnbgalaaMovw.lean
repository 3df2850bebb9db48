/- The walk of QueueMoves. -/
import Derived.Test.YtipcoghhnbgalaaMovp
namespace Go.Proofs.Ytipcoghhnbgalaa
open Go.RowKit Go.IntWalk Go.Maps
set_option linter.unusedVariables false
set_option maxRecDepth 100000 in
set_option maxHeartbeats 8000000 in
theorem moves_walk (a : Option Addr) (len cap : Nat) (xs : List Ac) (n : ByteArray) (hnm : n.size ≤ maxLen) (t : Int) (ht : 0 ≤ t ∧ t < 18446744073709551616) (W : World) (ha : Acs W.heap.size W (.slice a len cap) xs) : Calls Try.prog 8 #[.slice a len cap, .string n, .int .u64 t] W fun e W' => e = .returned (.bool true) ∧ Below W.heap.size W W' := by
  obtain ⟨a', cap', e', hxl⟩ := ha.shape
  simp only [Value.slice.injEq] at e'
  obtain ⟨rfl, rfl, rfl⟩ := e'
  have hbo := bld_ok ha 150
  have hbl : (bld (xs.take 150)).length ≤ 150 := by
    have := bld_len (xs.take 150)
    rw [List.length_take] at this
    omega
  go_enter Try.func8, Try.ntmps8
  go_wp2_with fail
  refine (built_s (St.start W) ha hxl).mono ?_
  rintro r w1 ⟨qb, rfl, h1⟩
  go_wp2_with fail
  refine (built_s h1 ha hxl).mono ?_
  rintro r w2 ⟨pb, rfl, h2⟩
  obtain ⟨L, hL⟩ : ∃ L, Hid (bld (xs.take 150) = L) := ⟨_, ⟨rfl⟩⟩
  rw [hL.out] at h2 hbo hbl
  have hsL : Hid (Srt L) := ⟨by rw [← hL.out]; exact bld_srt _⟩
  have hta := tk_all (L := L) (fun e he => by have := hbo e he; omega)
  have hta1 : Hid _ := Hid.mk hta.1
  have hta2 : Hid _ := Hid.mk hta.2
  replace hbo : Hid _ := ⟨hbo⟩
  clear h1 hta
  by_cases hsz : n.size ≤ 40
  · have hds : decide ((n.size : Int) > 40) = false := by simp; omega
    have hdsn : decide (40 < n.size) = false := by simp; omega
    cases hg : getN n L with
    | none =>
      have hno := getN_none hg
      have hat : Hid (atN n L = 0) := ⟨by unfold atN; rw [hg]⟩
      clear hg
      go_wp2_with fail
      refine (at_e h2 (qb := qb) (L := L) (by simp) hnm hat ⟨hno⟩).mono ?_
      rintro r w3 ⟨rfl, rfl⟩
      go_wp2_with fail
      refine (alive_s h2.swap).mono ?_
      rintro r w4 ⟨rfl, h4⟩
      go_wp2_with fail
      refine (drop_e h4 n hnm ⟨hno⟩ ⟨rfl⟩).mono ?_
      rintro r w5 ⟨rfl, h5⟩
      go_wp2
      go_ret
      exact ⟨rfl, h5.2⟩
    | some x =>
      obtain ⟨hxL, hxn⟩ := getN_some hg
      have hat : Hid (atN n L = x.at_) := ⟨by unfold atN; rw [hg]⟩
      have hhas : Hid (hasN n L = true) := ⟨by rw [getN_has, hg]; rfl⟩
      obtain ⟨Q, hQ⟩ : ∃ Q, Hid (putE ⟨n, t⟩ L = Q) := ⟨_, ⟨rfl⟩⟩
      have hsQ : Hid (Srt Q) := ⟨by rw [← hQ.out]; exact hsL.out.put _⟩
      have hQl : Hid (Q.length = L.length) := ⟨by rw [← hQ.out, ← hxn]; exact put_len hsL.out hxL t⟩
      have hQd : Hid (delN n Q = delN n L) := ⟨by rw [← hQ.out]; exact del_put ⟨n, t⟩ hsL.out⟩
      have hQm : Hid (∀ f ∈ Q, f.n = n → f.at_ = t) := ⟨fun f hf e => by
        have h1 : (⟨n, t⟩ : E) ∈ Q := by rw [← hQ.out]; exact mem_putE.2 (.inl rfl)
        rw [hsQ.out.un f hf _ h1 e]⟩
      have hback : Hid (putE ⟨n, x.at_⟩ Q = L) := ⟨by
        have := put_back hsL.out hxL t
        rw [hxn] at this
        rw [← hQ.out, ← this]
        congr 1
        · cases x; simp at hxn; simp [hxn]
        · rw [this]⟩
      have hxa := (hbo.out x hxL).2
      replace hxL : Hid _ := ⟨hxL⟩
      replace hxn : Hid _ := ⟨hxn⟩
      clear hg
      go_wp2_with fail
      refine (at_e h2 (qb := qb) (L := L) (by simp) hnm hat hhas).mono ?_
      rintro r w3 ⟨rfl, rfl⟩
      go_wp2_with fail
      refine (due_e h2 18446744073709551615 hta1 hta2).mono ?_
      rintro r w4 ⟨a4, c4, rfl, h4⟩
      have h5 := h4.drop.swap
      clear h2 h4
      go_wp2_with fail
      refine (put_e h5 n t hnm ht (by omega) hhas hQ).mono ?_
      rintro r w6 ⟨rfl, h6⟩
      clear h5
      have h7 : St W w6 [.q qb Q, .r 36 (.slice none ([] : List E).length 0) [], .r 36 (.slice a4 L.length c4) L] := (h6.new (grown_refl w6) (.r 36 (.slice none 0 0) []) ⟨World.ownsRow_nil _ _ _ _, by simp [Value.ownBlock]⟩).swap
      replace h7 : Hid _ := ⟨h7⟩
      clear h6
      go_wp2_with fail
      go_loopw [12] (fun v wr => ∃ (ma : Option Addr) (mc : Nat) (T M : List E), v = .slice ma T.length mc ∧ Hid (St W wr [.q qb M, .r 36 (.slice ma T.length mc) T, .r 36 (.slice a4 L.length c4) L]) ∧ Hid (Q = T ++ M))
        (fun _ wr => qlen qb wr)
      case atStart => exact ⟨none, 0, [], Q, rfl, h7, ⟨rfl⟩⟩
      case round =>
        clear h7
        obtain ⟨ma, mc, T, M, rfl, hS, hTM⟩ := hrel
        have hTl : T.length ≤ 150 := by
          have h1 := hQl.out
          rw [hTM.out, List.length_append] at h1
          omega
        cases M with
        | cons f M' =>
          have hd : decide ((((f :: M').length : Nat) : Int) > 0) = true := by simp
          have hfr : Hid (fr (f :: M') = (f, true)) := ⟨rfl⟩
          have htl : Hid ((f :: M').tail = M') := ⟨rfl⟩
          go_wp2_with fail
          refine (len_m hS.out (qb := qb) (L := f :: M') (by simp)).mono ?_
          rintro r w8 ⟨rfl, rfl⟩
          go_wp2_with fail
          refine (pop_e hS.out hfr htl).mono ?_
          rintro r w9 ⟨rfl, h9⟩
          have h10 := (h9.grown (World.grownBy_alloc w9 (.cells #[.string f.n, .int .u64 f.at_] 36) none)).swap
          obtain ⟨ma', mc', w11, hrun, h11⟩ := h10.append f (by omega) 40
          have e1 : (w9.alloc (.cells #[.string f.n, .int .u64 f.at_] 36)).heap.size = w9.heap.size + 1 := by simp
          rw [e1] at hrun
          clear e1
          have hlt : qlen qb w8 = M'.length + 1 := by have := hS.out.q.2.2; simpa using this
          have hlt' : qlen qb w11 = M'.length := h11.swap.q.2.2
          have h12 : Hid _ := Hid.mk h11.swap
          have hTM' : Hid (Q = (T ++ [f]) ++ M') := ⟨by rw [hTM.out]; simp⟩
          replace hlt : Hid _ := ⟨hlt⟩
          replace hlt' : Hid _ := ⟨hlt'⟩
          clear h9 h10 h11 hS hTM
          go_wp2_with (at_builtin; refine wpList_append_run rfl _ _ 40 rfl _ _ rfl rfl hrun ?_)
          go_roundw
          case rel => exact ⟨ma', mc', T ++ [f], M', by simp, h12, hTM'⟩
          case measure => rw [hlt.out, hlt'.out]; omega
        | nil =>
          have hQT : Q = T := by rw [hTM.out]; simp
          subst hQT
          have h8 : Hid _ := Hid.mk hS.out.drop
          go_wp2_with fail
          refine (len_m hS.out (qb := qb) (L := []) (by simp)).mono ?_
          rintro r w8 ⟨rfl, rfl⟩
          clear hS hTM
          go_wp2_with fail
          go_loopw [15, 16] (fun v15 v16 wr => ∃ (k i : Nat), v15 = .int .i64 k ∧ v16 = .int .i64 i ∧ k ≤ L.length ∧ i ≤ Q.length ∧ Hid (delN n (Q.drop i) = delN n (L.drop k)) ∧ Hid (St W wr [.r 36 (.slice ma Q.length mc) Q, .r 36 (.slice a4 L.length c4) L]))
            (fun _ v16 _ => Q.length - (intOf v16).toNat)
          case atStart => exact ⟨0, 0, rfl, rfl, by omega, by omega, hQd, h8⟩
          case round =>
            clear h8
            obtain ⟨k, i, rfl, rfl, hk, hi, hI, hS⟩ := hrel
            by_cases hlt : i < Q.length
            · have hd : decide ((i : Int) < Q.length) = true := by simp; omega
              obtain ⟨f, hf, hdr⟩ := drop_cons hlt
              replace hf : Hid _ := ⟨hf⟩
              replace hdr : Hid _ := ⟨hdr⟩
              obtain ⟨g, rfl, _, _, x0, x1, _⟩ := (hS.out.mr (t := 36) (v := .slice ma Q.length mc) (es := Q) (by simp)).at hf.out
              haveI := lat_nonempty wr
              have x0' := lat_cell x0
              have x1' := lat_cell x1
              have hib : (i : Int) < Q.length := by omega
              by_cases hi0 : i = 0
              · have hd0 : decide ((i : Int) > 0) = false := by simp; omega
                have hd0n : decide (0 < i) = false := by simp; omega
                have hd0m : ¬ 0 < i := by omega
                replace hi0 : Hid _ := ⟨hi0⟩
                clear x0 x1
                go_wp2_with fail
                refine wp_region_lat (by kernel_rfl) (by kernel_rfl) ?_
                repeat (go_big_quiet_step (fail))
                refine wpQuiet_nil ?_
                intro _ hw'
                obtain ⟨p, hw''⟩ := hw'
                subst hw''
                have hS1 : Hid _ := Hid.mk (hS.out.grown p.h)
                obtain ⟨wp, hwp⟩ : ∃ wp, wp = p.W := ⟨_, rfl⟩
                rw [← hwp] at hS1 ⊢
                clear hwp p x0' x1'
                obtain ⟨_, e1, _, _, m0, m1, _⟩ := (hS1.out.mr (t := 36) (v := .slice (some ⟨g, 0, none⟩) Q.length mc) (es := Q) (by simp)).at hf.out
                cases e1
                by_cases hfn : f.n = n
                · have hq : (f.n.toList == n.toList) = true := by rw [str_beq']; simpa using hfn
                  have hat2 : (f.at_ != t) = false := by rw [hQm.out f (List.mem_of_getElem? hf.out) hfn]; simp
                  have hI2 : Hid (delN n (Q.drop (i + 1)) = delN n (L.drop k)) := ⟨by rw [← hI.out, hdr.out, delN_cons_eq hfn]⟩
                  clear hfn
                  go_wp2_with fail
                  go_roundw
                  case rel => exact ⟨k, i + 1, rfl, by go_num, by omega, by omega, hI2, hS1⟩
                  case measure => simp [intOf]; omega
                · have hq : (f.n.toList == n.toList) = false := by rw [str_beq']; simpa using hfn
                  have hI1 : Hid (delN n (L.drop k) = f :: delN n (Q.drop (i + 1))) := ⟨by rw [← hI.out, hdr.out, delN_cons_ne hfn]⟩
                  go_wp2_with fail
                  go_loop [15] (fun v => ∃ (j : Nat), v = .int .i64 j ∧ j ≤ L.length ∧ Hid (delN n (L.drop j) = f :: delN n (Q.drop (i + 1))))
                    (fun v => L.length - (intOf v).toNat)
                  case atStart => exact ⟨k, rfl, by omega, hI1⟩
                  case round =>
                    clear hI1
                    obtain ⟨j, rfl, hj, hIj⟩ := hrel
                    have hjl : j < L.length := by
                      rcases Nat.lt_or_ge j L.length with h | h
                      · exact h
                      · have := hIj.out
                        rw [List.drop_eq_nil_of_le h] at this
                        simp [delN] at this
                    obtain ⟨y, hy, hydr⟩ := drop_cons hjl
                    obtain ⟨g4, e4, _, _, l0, l1, _⟩ := (hS1.out.mr (t := 36) (v := .slice a4 L.length c4) (es := L) (by simp)).at hy
                    subst e4
                    have hdj : decide ((j : Int) < L.length) = true := by simp; omega
                    have hdj2 : decide ((j : Int) ≥ L.length) = false := by simp; omega
                    have hdj3 : decide (L.length ≤ j) = false := by simp; omega
                    have hjb : (j : Int) < L.length := by omega
                    by_cases hyn : y.n = n
                    · have hq2 : (y.n.toList == n.toList) = true := by rw [str_beq']; simpa using hyn
                      have hI3 : Hid (delN n (L.drop (j + 1)) = f :: delN n (Q.drop (i + 1))) := ⟨by rw [← hIj.out, hydr, delN_cons_eq hyn]⟩
                      replace hy : Hid _ := ⟨hy⟩
                      replace hydr : Hid _ := ⟨hydr⟩
                      clear hyn
                      go_wp2_with fail
                      go_round
                      case rel => exact ⟨j + 1, by go_num, by omega, hI3⟩
                      case measure => simp [intOf]; omega
                    · have hq2 : (y.n.toList == n.toList) = false := by rw [str_beq']; simpa using hyn
                      have hyf := hIj.out
                      rw [hydr, delN_cons_ne hyn] at hyf
                      simp only [List.cons.injEq] at hyf
                      obtain ⟨rfl, hI4⟩ := hyf
                      have hI5 : Hid (delN n (Q.drop (i + 1)) = delN n (L.drop (j + 1))) := ⟨hI4.symm⟩
                      haveI := lat_nonempty wp
                      have m0' := lat_cell m0
                      have m1' := lat_cell m1
                      have l0' := lat_cell l0
                      have l1' := lat_cell l1
                      have nq := fun p : Lat wp => neq36 y.n y.at_ p.W
                      replace hy : Hid _ := ⟨hy⟩
                      replace hydr : Hid _ := ⟨hydr⟩
                      clear hyn hI4 hIj
                      go_wp2_with fail
                      refine wp_region_lat (by kernel_rfl) (by kernel_rfl) ?_
                      repeat (go_big_quiet_step (fail))
                      refine wpQuiet_nil ?_
                      intro _ hw'
                      obtain ⟨p, hw''⟩ := hw'
                      subst hw''
                      have hS2 : Hid _ := Hid.mk (hS1.out.grown p.h)
                      clear m0' m1' l0' l1' nq
                      go_wp2_with fail
                      go_roundw
                      case rel => exact ⟨j + 1, i + 1, by go_num, by go_num, by omega, by omega, hI5, hS2⟩
                      case measure => simp [intOf]; omega
              · obtain ⟨m, rfl⟩ : ∃ m, i = m + 1 := ⟨i - 1, by omega⟩
                have hd0 : decide (((m + 1 : Nat) : Int) > 0) = true := by simp
                obtain ⟨u, hu⟩ := some_at (es := Q) (k := m) (by omega)
                have hlt' : lt u f := hsQ.out.next hu hf.out (by omega)
                obtain ⟨_, e1, _, _, y0, y1, _⟩ := (hS.out.mr (t := 36) (v := .slice (some ⟨g, 0, none⟩) Q.length mc) (es := Q) (by simp)).at hu
                cases e1
                have y0' := lat_cell y0
                have y1' := lat_cell y1
                have hmb : (m : Int) < Q.length := by omega
                have hmb1 : (m : Int) + 1 < Q.length := by omega
                replace hu : Hid _ := ⟨hu⟩
                replace hi0 : Hid _ := ⟨hi0⟩
                clear x0 x1 y0 y1
                rcases hlt' with hlt' | ⟨hle, hln⟩
                · have q1 : decide (f.at_ < u.at_) = false := by simp; omega
                  have q2 : (f.at_ == u.at_) = false := by simp; omega
                  clear hlt'
                  go_wp2_with fail
                  refine wp_region_lat (by kernel_rfl) (by kernel_rfl) ?_
                  repeat (go_big_quiet_step (fail))
                  refine wpQuiet_nil ?_
                  intro _ hw'
                  obtain ⟨p, hw''⟩ := hw'
                  subst hw''
                  have hS1 : Hid _ := Hid.mk (hS.out.grown p.h)
                  obtain ⟨wp, hwp⟩ : ∃ wp, wp = p.W := ⟨_, rfl⟩
                  rw [← hwp] at hS1 ⊢
                  clear hwp p x0' x1' y0' y1'
                  obtain ⟨_, e1, _, _, m0, m1, _⟩ := (hS1.out.mr (t := 36) (v := .slice (some ⟨g, 0, none⟩) Q.length mc) (es := Q) (by simp)).at hf.out
                  cases e1
                  by_cases hfn : f.n = n
                  · have hq : (f.n.toList == n.toList) = true := by rw [str_beq']; simpa using hfn
                    have hat2 : (f.at_ != t) = false := by rw [hQm.out f (List.mem_of_getElem? hf.out) hfn]; simp
                    have hI2 : Hid (delN n (Q.drop (m + 1 + 1)) = delN n (L.drop k)) := ⟨by rw [← hI.out, hdr.out, delN_cons_eq hfn]⟩
                    clear hfn
                    go_wp2_with fail
                    go_roundw
                    case rel => exact ⟨k, m + 1 + 1, rfl, by go_num, by omega, by omega, hI2, hS1⟩
                    case measure => simp [intOf]; omega
                  · have hq : (f.n.toList == n.toList) = false := by rw [str_beq']; simpa using hfn
                    have hI1 : Hid (delN n (L.drop k) = f :: delN n (Q.drop (m + 1 + 1))) := ⟨by rw [← hI.out, hdr.out, delN_cons_ne hfn]⟩
                    go_wp2_with fail
                    go_loop [15] (fun v => ∃ (j : Nat), v = .int .i64 j ∧ j ≤ L.length ∧ Hid (delN n (L.drop j) = f :: delN n (Q.drop (m + 1 + 1))))
                      (fun v => L.length - (intOf v).toNat)
                    case atStart => exact ⟨k, rfl, by omega, hI1⟩
                    case round =>
                      clear hI1
                      obtain ⟨j, rfl, hj, hIj⟩ := hrel
                      have hjl : j < L.length := by
                        rcases Nat.lt_or_ge j L.length with h | h
                        · exact h
                        · have := hIj.out
                          rw [List.drop_eq_nil_of_le h] at this
                          simp [delN] at this
                      obtain ⟨y, hy, hydr⟩ := drop_cons hjl
                      obtain ⟨g4, e4, _, _, l0, l1, _⟩ := (hS1.out.mr (t := 36) (v := .slice a4 L.length c4) (es := L) (by simp)).at hy
                      subst e4
                      have hdj : decide ((j : Int) < L.length) = true := by simp; omega
                      have hdj2 : decide ((j : Int) ≥ L.length) = false := by simp; omega
                      have hdj3 : decide (L.length ≤ j) = false := by simp; omega
                      have hjb : (j : Int) < L.length := by omega
                      by_cases hyn : y.n = n
                      · have hq2 : (y.n.toList == n.toList) = true := by rw [str_beq']; simpa using hyn
                        have hI3 : Hid (delN n (L.drop (j + 1)) = f :: delN n (Q.drop (m + 1 + 1))) := ⟨by rw [← hIj.out, hydr, delN_cons_eq hyn]⟩
                        replace hy : Hid _ := ⟨hy⟩
                        replace hydr : Hid _ := ⟨hydr⟩
                        clear hyn
                        go_wp2_with fail
                        go_round
                        case rel => exact ⟨j + 1, by go_num, by omega, hI3⟩
                        case measure => simp [intOf]; omega
                      · have hq2 : (y.n.toList == n.toList) = false := by rw [str_beq']; simpa using hyn
                        have hyf := hIj.out
                        rw [hydr, delN_cons_ne hyn] at hyf
                        simp only [List.cons.injEq] at hyf
                        obtain ⟨rfl, hI4⟩ := hyf
                        have hI5 : Hid (delN n (Q.drop (m + 1 + 1)) = delN n (L.drop (j + 1))) := ⟨hI4.symm⟩
                        haveI := lat_nonempty wp
                        have m0' := lat_cell m0
                        have m1' := lat_cell m1
                        have l0' := lat_cell l0
                        have l1' := lat_cell l1
                        have nq := fun p : Lat wp => neq36 y.n y.at_ p.W
                        replace hy : Hid _ := ⟨hy⟩
                        replace hydr : Hid _ := ⟨hydr⟩
                        clear hyn hI4 hIj
                        go_wp2_with fail
                        refine wp_region_lat (by kernel_rfl) (by kernel_rfl) ?_
                        repeat (go_big_quiet_step (fail))
                        refine wpQuiet_nil ?_
                        intro _ hw'
                        obtain ⟨p, hw''⟩ := hw'
                        subst hw''
                        have hS2 : Hid _ := Hid.mk (hS1.out.grown p.h)
                        clear m0' m1' l0' l1' nq
                        go_wp2_with fail
                        go_roundw
                        case rel => exact ⟨j + 1, m + 1 + 1, by go_num, by go_num, by omega, by omega, hI5, hS2⟩
                        case measure => simp [intOf]; omega
                · have q1 : decide (f.at_ < u.at_) = false := by simp; omega
                  have q2 : (f.at_ == u.at_) = true := by simp [hle]
                  have q3 : Op.bytesLess f.n.toList u.n.toList = false := by rw [bytesLess_eq]; simp only [decide_eq_false_iff_not]; exact fun h3 => List.lt_irrefl _ (List.lt_trans hln h3)
                  have q4 : (f.n.toList == u.n.toList) = false := by
                    simp only [beq_eq_false_iff_ne, ne_eq]
                    exact fun h4 => List.lt_irrefl _ (h4 ▸ hln)
                  clear hln
                  rw [hle] at y1'
                  clear hle
                  have q1' : decide (f.at_ < f.at_) = false := by simp
                  clear q1 q2
                  go_wp2_with fail
                  refine wp_region_lat (by kernel_rfl) (by kernel_rfl) ?_
                  repeat (go_big_quiet_step (fail))
                  refine wpQuiet_nil ?_
                  intro _ hw'
                  obtain ⟨p, hw''⟩ := hw'
                  subst hw''
                  have hS1 : Hid _ := Hid.mk (hS.out.grown p.h)
                  obtain ⟨wp, hwp⟩ : ∃ wp, wp = p.W := ⟨_, rfl⟩
                  rw [← hwp] at hS1 ⊢
                  clear hwp p x0' x1' y0' y1'
                  obtain ⟨_, e1, _, _, m0, m1, _⟩ := (hS1.out.mr (t := 36) (v := .slice (some ⟨g, 0, none⟩) Q.length mc) (es := Q) (by simp)).at hf.out
                  cases e1
                  by_cases hfn : f.n = n
                  · have hq : (f.n.toList == n.toList) = true := by rw [str_beq']; simpa using hfn
                    have hat2 : (f.at_ != t) = false := by rw [hQm.out f (List.mem_of_getElem? hf.out) hfn]; simp
                    have hI2 : Hid (delN n (Q.drop (m + 1 + 1)) = delN n (L.drop k)) := ⟨by rw [← hI.out, hdr.out, delN_cons_eq hfn]⟩
                    clear hfn
                    go_wp2_with fail
                    go_roundw
                    case rel => exact ⟨k, m + 1 + 1, rfl, by go_num, by omega, by omega, hI2, hS1⟩
                    case measure => simp [intOf]; omega
                  · have hq : (f.n.toList == n.toList) = false := by rw [str_beq']; simpa using hfn
                    have hI1 : Hid (delN n (L.drop k) = f :: delN n (Q.drop (m + 1 + 1))) := ⟨by rw [← hI.out, hdr.out, delN_cons_ne hfn]⟩
                    go_wp2_with fail
                    go_loop [15] (fun v => ∃ (j : Nat), v = .int .i64 j ∧ j ≤ L.length ∧ Hid (delN n (L.drop j) = f :: delN n (Q.drop (m + 1 + 1))))
                      (fun v => L.length - (intOf v).toNat)
                    case atStart => exact ⟨k, rfl, by omega, hI1⟩
                    case round =>
                      clear hI1
                      obtain ⟨j, rfl, hj, hIj⟩ := hrel
                      have hjl : j < L.length := by
                        rcases Nat.lt_or_ge j L.length with h | h
                        · exact h
                        · have := hIj.out
                          rw [List.drop_eq_nil_of_le h] at this
                          simp [delN] at this
                      obtain ⟨y, hy, hydr⟩ := drop_cons hjl
                      obtain ⟨g4, e4, _, _, l0, l1, _⟩ := (hS1.out.mr (t := 36) (v := .slice a4 L.length c4) (es := L) (by simp)).at hy
                      subst e4
                      have hdj : decide ((j : Int) < L.length) = true := by simp; omega
                      have hdj2 : decide ((j : Int) ≥ L.length) = false := by simp; omega
                      have hdj3 : decide (L.length ≤ j) = false := by simp; omega
                      have hjb : (j : Int) < L.length := by omega
                      by_cases hyn : y.n = n
                      · have hq2 : (y.n.toList == n.toList) = true := by rw [str_beq']; simpa using hyn
                        have hI3 : Hid (delN n (L.drop (j + 1)) = f :: delN n (Q.drop (m + 1 + 1))) := ⟨by rw [← hIj.out, hydr, delN_cons_eq hyn]⟩
                        replace hy : Hid _ := ⟨hy⟩
                        replace hydr : Hid _ := ⟨hydr⟩
                        clear hyn
                        go_wp2_with fail
                        go_round
                        case rel => exact ⟨j + 1, by go_num, by omega, hI3⟩
                        case measure => simp [intOf]; omega
                      · have hq2 : (y.n.toList == n.toList) = false := by rw [str_beq']; simpa using hyn
                        have hyf := hIj.out
                        rw [hydr, delN_cons_ne hyn] at hyf
                        simp only [List.cons.injEq] at hyf
                        obtain ⟨rfl, hI4⟩ := hyf
                        have hI5 : Hid (delN n (Q.drop (m + 1 + 1)) = delN n (L.drop (j + 1))) := ⟨hI4.symm⟩
                        haveI := lat_nonempty wp
                        have m0' := lat_cell m0
                        have m1' := lat_cell m1
                        have l0' := lat_cell l0
                        have l1' := lat_cell l1
                        have nq := fun p : Lat wp => neq36 y.n y.at_ p.W
                        replace hy : Hid _ := ⟨hy⟩
                        replace hydr : Hid _ := ⟨hydr⟩
                        clear hyn hI4 hIj
                        go_wp2_with fail
                        refine wp_region_lat (by kernel_rfl) (by kernel_rfl) ?_
                        repeat (go_big_quiet_step (fail))
                        refine wpQuiet_nil ?_
                        intro _ hw'
                        obtain ⟨p, hw''⟩ := hw'
                        subst hw''
                        have hS2 : Hid _ := Hid.mk (hS1.out.grown p.h)
                        clear m0' m1' l0' l1' nq
                        go_wp2_with fail
                        go_roundw
                        case rel => exact ⟨j + 1, m + 1 + 1, by go_num, by go_num, by omega, by omega, hI5, hS2⟩
                        case measure => simp [intOf]; omega
            · have hd : decide ((i : Int) < Q.length) = false := by simp; omega
              clear hI
              go_wp2_with fail
              refine (built_s hS.out ha hxl).mono ?_
              rintro r w9 ⟨rb, rfl, h9⟩
              rw [hL.out] at h9
              go_wp2_with fail
              refine (put_e h9 n t hnm ht (by omega) hhas hQ).mono ?_
              rintro r w10 ⟨rfl, h10⟩
              have hhQ : Hid (hasN n Q = true) := ⟨by rw [← hQ.out]; exact hasN_iff.2 ⟨_, mem_putE.2 (.inl rfl), rfl⟩⟩
              have hQb : Q.length < 100000 := by have := hQl.out; omega
              go_wp2_with fail
              refine (put_e h10 n x.at_ hnm hxa hQb hhQ hback).mono ?_
              rintro r w11 ⟨rfl, h11⟩
              go_wp2_with fail
              refine (due_e h11 18446744073709551615 hta1 hta2).mono ?_
              rintro r w12 ⟨a12, c12, rfl, h12⟩
              replace h12 : Hid _ := ⟨h12⟩
              clear h9 h10 h11 hS
              go_wp2_with fail
              go_loopw [19] (fun v wr => ∃ (k : Nat), v = .int .i64 k ∧ k ≤ L.length ∧ Hid (St W wr [.q rb [], .r 36 (.slice a12 L.length c12) L, .r 36 (.slice ma Q.length mc) Q, .r 36 (.slice a4 L.length c4) L]))
                (fun v _ => L.length - (intOf v).toNat)
              case atStart => exact ⟨0, rfl, by omega, h12⟩
              case round =>
                clear h12
                obtain ⟨k, rfl, hk, hS⟩ := hrel
                by_cases hlt : k < L.length
                · have hd : decide ((k : Int) < L.length) = true := by simp; omega
                  obtain ⟨f, hf⟩ := some_at hlt
                  obtain ⟨g1, rfl, _, _, x0, x1, _⟩ := (hS.out.mr (t := 36) (v := .slice a12 L.length c12) (es := L) (by simp)).at hf
                  obtain ⟨g2, e2, _, _, y0, y1, _⟩ := (hS.out.mr (t := 36) (v := .slice a4 L.length c4) (es := L) (by simp)).at hf
                  subst e2
                  haveI := lat_nonempty wr
                  have x0' := lat_cell x0
                  have x1' := lat_cell x1
                  have y0' := lat_cell y0
                  have y1' := lat_cell y1
                  have nq := fun p : Lat wr => neq36 f.n f.at_ p.W
                  have hkb : (k : Int) < L.length := by omega
                  replace hf : Hid _ := ⟨hf⟩
                  clear x0 x1 y0 y1
                  go_wp2_with fail
                  refine wp_region_lat (by kernel_rfl) (by kernel_rfl) ?_
                  repeat (go_big_quiet_step (fail))
                  refine wpQuiet_nil ?_
                  intro _ hw'
                  obtain ⟨p, hw''⟩ := hw'
                  subst hw''
                  have hS2 : Hid _ := Hid.mk (hS.out.grown p.h)
                  clear x0' x1' y0' y1' nq
                  go_wp2_with fail
                  go_roundw
                  case rel => exact ⟨k + 1, by go_num, by omega, hS2⟩
                  case measure => simp [intOf]; omega
                · have hd : decide ((k : Int) < L.length) = false := by simp; omega
                  have hq1 : ((Q.length : Int) == (L.length : Int)) = true := by rw [hQl.out]; simp
                  have hq2 : (Q.length == L.length) = true := by rw [hQl.out]; simp
                  have hq3 : decide (Q.length = L.length) = true := by rw [hQl.out]; simp
                  go_wp2_with fail
                  refine (alive_s hS.out).mono ?_
                  rintro r w14 ⟨rfl, h14⟩
                  go_wp2
                  go_ret
                  exact ⟨rfl, h14.2⟩
  · have hds : decide ((n.size : Int) > 40) = true := by simp; omega
    have hdsn : decide (40 < n.size) = true := by simp; omega
    go_wp2
    go_ret
    exact ⟨rfl, h2.2⟩
end Go.Proofs.Ytipcoghhnbgalaa
