/- The walk of QueuePlays. -/
import Derived.Test.YtipcoghhnbgalaaPlap
namespace Go.Proofs.Ytipcoghhnbgalaa
open Go.RowKit Go.IntWalk Go.Maps
set_option linter.unusedVariables false
theorem own_3 {w : World} {k : Nat} {a b c : Value} {t : TypeId} (hb : w.heap[k]? = some (.cells #[a, b, c] t (0, 0))) : w.cell? ⟨k, 0, none⟩ = some a ∧ w.cell? ⟨k, 1, none⟩ = some b ∧ w.cell? ⟨k, 2, none⟩ = some c :=
  ⟨by simp [World.cell?, hb], by simp [World.cell?, hb], by simp [World.cell?, hb]⟩
set_option maxRecDepth 100000 in
set_option maxHeartbeats 8000000 in
theorem plays_walk (a : Option Addr) (len cap : Nat) (xs : List Ac) (W : World) (ha : Acs W.heap.size W (.slice a len cap) xs) : Calls Try.prog 3 #[.slice a len cap] W fun e W' => e = .returned (.bool true) ∧ Below W.heap.size W W' := by
  obtain ⟨a', cap', e', hxl⟩ := ha.shape
  simp only [Value.slice.injEq] at e'
  obtain ⟨rfl, rfl, rfl⟩ := e'
  unfold maxLen at hxl
  go_enter Try.func3, Try.ntmps3
  go_wp2_with fail
  refine (new_s (St.start W)).mono ?_
  rintro r w1 ⟨qb, rfl, h1⟩
  replace h1 : Hid _ := ⟨h1⟩
  go_wp2_with fail
  go_loopw [4, 5] (fun v4 v5 wr => ∃ (k : Nat) (la : Option Addr) (lc : Nat) (L : List E) (rl : List Res), v5 = .int .i64 k ∧ v4 = .slice la L.length lc ∧ k ≤ xs.length ∧ k ≤ 150 ∧ L.length ≤ k ∧ Hid (St W wr (.q qb L :: rl) ∧ Lv (.slice la L.length lc) L rl))
    (fun _ v5 _ => 150 - (intOf v5).toNat)
  case atStart => exact ⟨0, none, 0, [], [], rfl, rfl, by omega, by omega, by simp, ⟨h1.out, .inl ⟨.inl rfl, rfl, rfl⟩⟩⟩
  case round =>
    clear h1
    obtain ⟨k, la, lc, L, rl, rfl, rfl, hk, hk2, hLk, hS⟩ := hrel
    by_cases hlt : k < xs.length
    · by_cases h150 : k < 150
      · have hd1 : decide ((k : Int) < xs.length) = true := by simp; omega
        have hd2 : decide ((k : Int) < 150) = true := by simp; omega
        obtain ⟨x, hx⟩ : ∃ x, xs[k]? = some x := ⟨xs[k], List.getElem?_eq_getElem hlt⟩
        obtain ⟨b, off, rfl, hb, hok, c0, c1, c2⟩ := (ha.below hS.out.1.2).at hx
        replace hx : Hid _ := ⟨hx⟩
        have hB := hS.out.1.box (.cells #[.int .i64 x.kd, .string x.nm, .int .u64 x.at_] 28)
        replace hB : Hid _ := ⟨hB⟩
        have hkb : (k : Int) < xs.length := by omega
        by_cases hsz : x.nm.size ≤ 40
        · have hds : decide ((x.nm.size : Int) > 40) = false := by simp; omega
          have hdsn : decide (40 < x.nm.size) = false := by simp; omega
          have hlc1 := hS.out.2.lc hB.out (fun r hr => by simp [hr])
          have hsL := hB.out.mq (qb := qb) (L := L) (by simp)
          obtain ⟨hb, hbb⟩ : ∃ hb, Hid (hasN x.nm L = hb) := ⟨_, ⟨rfl⟩⟩
          have hLb : L.length < 1000 := by omega
          go_wp2_with fail
          refine (find_any _ hlc1 (by omega) x.nm).mono ?_
          rintro r w2 ⟨i, rfl, hi, rfl⟩
          have hq2 : decide (i ≥ 0) = hb := by rw [hi.out, hbb.out]
          have hq3 : Hid (0 ≤ i ↔ hb = true) := ⟨by rw [← hq2]; simp⟩
          replace hlc1 : Hid _ := ⟨hlc1⟩
          replace hsL : Hid _ := ⟨hsL⟩
          clear hi c0 c1 c2
          by_cases k1 : x.kd = 1
          · have d1 : (x.kd == 1) = true := by simp [k1]
            obtain ⟨T, hT⟩ : ∃ T, Hid (putE ⟨x.nm, x.at_⟩ L = T) := ⟨_, ⟨rfl⟩⟩
            have hTl : T.length ≤ k + 1 := by rw [← hT.out]; have := putE_le hsL.out.1 ⟨x.nm, x.at_⟩; omega
            clear k1
            go_wp2_with fail
            refine (put_e hB.out.swap x.nm x.at_ hok.2.1 hok.2.2 (by omega) hbb hT).mono ?_
            rintro r w3 ⟨rfl, h3⟩
            obtain ⟨m0, m1, m2⟩ := own_3 (h3.mb (k := wr.heap.size) (o := .cells #[.int .i64 x.kd, .string x.nm, .int .u64 x.at_] 28 (0, 0)) (by simp))
            have hlc3 := hS.out.2.lc h3 (fun r hr => by simp [hr])
            go_wp2_with fail
            refine (rput_e w3 hlc3 (by omega) hsL.out.1 x.nm x.at_ hT).mono ?_
            rintro r w4 ⟨a4, c4, rfl, hr4, hg4, hn4⟩
            have h4 : Hid _ := Hid.mk (h3.row hg4 hr4 hn4)
            obtain ⟨m0, m1, m2⟩ := own_3 (h4.out.mb (k := wr.heap.size) (o := .cells #[.int .i64 x.kd, .string x.nm, .int .u64 x.at_] 28 (0, 0)) (by simp))
            have hlc4 := Lc.of_row hr4
            clear h3 hlc3 hn4 hg4
            go_wp2_with fail
            refine (stands_any h4.out (qb := qb) (L := T) (by simp) hlc4 x.nm hok.2.1).mono ?_
            rintro r w20 ⟨rfl, hg20⟩
            obtain ⟨rl', hst', hlv'⟩ := Lv.fresh (h4.out.grown hg20)
            have hN : Hid _ := Hid.mk (And.intro hst' hlv')
            clear hst' hlv' h4 hr4 hlc4
            go_wp2_with fail
            go_roundw
            case rel => exact ⟨k + 1, _, _, T, _, by go_num, rfl, by omega, by omega, by omega, hN⟩
            case measure => simp [intOf]; omega
          · have d1 : (x.kd == 1) = false := by simp [k1]
            by_cases k2 : x.kd = 2
            · have d2 : (x.kd == 2) = true := by simp [k2]
              obtain ⟨T, hT⟩ : ∃ T, Hid (delN x.nm L = T) := ⟨_, ⟨rfl⟩⟩
              have hTl : T.length ≤ k + 1 := by rw [← hT.out]; have := delN_le x.nm L; omega
              clear k1 k2
              go_wp2_with fail
              refine (drop_e hB.out.swap x.nm hok.2.1 hbb hT).mono ?_
              rintro r w3 ⟨rfl, h3⟩
              obtain ⟨m0, m1, m2⟩ := own_3 (h3.mb (k := wr.heap.size) (o := .cells #[.int .i64 x.kd, .string x.nm, .int .u64 x.at_] 28 (0, 0)) (by simp))
              have hlc3 := hS.out.2.lc h3 (fun r hr => by simp [hr])
              go_wp2_with fail
              refine (rdrop_e w3 hlc3 (by omega) x.nm hT).mono ?_
              rintro r w4 ⟨a4, c4, rfl, hr4, hg4, hn4⟩
              have h4 : Hid _ := Hid.mk (h3.row hg4 hr4 hn4)
              obtain ⟨m0, m1, m2⟩ := own_3 (h4.out.mb (k := wr.heap.size) (o := .cells #[.int .i64 x.kd, .string x.nm, .int .u64 x.at_] 28 (0, 0)) (by simp))
              have hlc4 := Lc.of_row hr4
              clear h3 hlc3 hn4 hg4
              go_wp2_with fail
              refine (stands_any h4.out (qb := qb) (L := T) (by simp) hlc4 x.nm hok.2.1).mono ?_
              rintro r w20 ⟨rfl, hg20⟩
              obtain ⟨rl', hst', hlv'⟩ := Lv.fresh (h4.out.grown hg20)
              have hN : Hid _ := Hid.mk (And.intro hst' hlv')
              clear hst' hlv' h4 hr4 hlc4
              go_wp2_with fail
              go_roundw
              case rel => exact ⟨k + 1, _, _, T, _, by go_num, rfl, by omega, by omega, by omega, hN⟩
              case measure => simp [intOf]; omega
            · have d2 : (x.kd == 2) = false := by simp [k2]
              by_cases k3 : x.kd = 3
              · have d3 : (x.kd == 3) = true := by simp [k3]
                clear k1 k2 k3
                obtain ⟨f, pb, hfr⟩ : ∃ f b, Hid (fr L = (f, b)) := ⟨_, _, ⟨rfl⟩⟩
                have hcase : (L = [] ∧ pb = false) ∨ (∃ M, L = f :: M ∧ pb = true) := by
                  have := hfr.out
                  cases hLL : L with
                  | nil => rw [hLL] at this; simp [fr] at this; exact .inl ⟨rfl, this.2⟩
                  | cons g M => rw [hLL] at this; simp [fr] at this; exact .inr ⟨M, by rw [this.1], this.2⟩
                obtain ⟨T, hT⟩ : ∃ T, Hid (L.tail = T) := ⟨_, ⟨rfl⟩⟩
                go_wp2_with fail
                refine (pop_e hB.out.swap hfr hT).mono ?_
                rintro r w3 ⟨rfl, h3⟩
                have h4 := h3.box (.cells #[.string f.n, .int .u64 f.at_] 36)
                have hlc4 := hS.out.2.lc h4 (fun r hr => by simp [hr])
                obtain ⟨e0, e1, _⟩ := own_b h4.b
                obtain ⟨m0, m1, m2⟩ := own_3 (h4.mb (k := wr.heap.size) (o := .cells #[.int .i64 x.kd, .string x.nm, .int .u64 x.at_] 28 (0, 0)) (by simp))
                haveI := lat_nonempty (w3.alloc (.cells #[.string f.n, .int .u64 f.at_] 36))
                have e0' := lat_cell e0
                have e1' := lat_cell e1
                replace h4 : Hid _ := ⟨h4⟩
                clear h3 e0 e1 hq2
                rcases hcase with ⟨hL0, rfl⟩ | ⟨M, hL0, rfl⟩
                · have hTL : T = L := by rw [← hT.out, hL0]; rfl
                  subst hTL
                  have z0 : decide ((T.length : Int) > 0) = false := by rw [hL0]; simp
                  have z1 : decide (0 < T.length) = false := by rw [hL0]; simp
                  have z2 : ¬ 0 < T.length := by rw [hL0]; simp
                  replace hL0 : Hid _ := ⟨hL0⟩
                  go_wp2_with fail
                  refine wp_region_lat (by kernel_rfl) (by kernel_rfl) ?_
                  repeat (go_big_quiet_step (fail))
                  refine wpQuiet_nil ?_
                  intro _ hw'
                  obtain ⟨p, hw''⟩ := hw'
                  subst hw''
                  have h5 : Hid _ := Hid.mk (h4.out.grown p.h)
                  have hlc5 := hlc4.grown0 p.h
                  obtain ⟨n0, n1, n2⟩ := own_3 (h5.out.mb (k := wr.heap.size) (o := .cells #[.int .i64 x.kd, .string x.nm, .int .u64 x.at_] 28 (0, 0)) (by simp))
                  clear e0' e1' z0 z1 z2 m0 m1 m2
                  go_wp2_with fail
                  refine (stands_any h5.out (qb := qb) (L := T) (by simp) hlc5 x.nm hok.2.1).mono ?_
                  rintro r w20 ⟨rfl, hg20⟩
                  have hN : Hid _ := Hid.mk (And.intro ((h5.out.grown hg20).drop.swap.drop) hS.out.2)
                  go_wp2_with fail
                  go_roundw
                  case rel => exact ⟨k + 1, _, _, T, _, by go_num, rfl, by omega, by omega, by omega, hN⟩
                  case measure => simp [intOf]; omega
                · have hTL : T = M := by rw [← hT.out, hL0]; rfl
                  subst hTL
                  have hf0 : L[0]? = some f := by rw [hL0]; rfl
                  obtain ⟨g, o, hla, _, y0, y1⟩ := hlc4.at hf0
                  subst hla
                  simp only [Nat.zero_mul, Nat.add_zero] at y0 y1
                  have y0' := lat_cell y0
                  have y1' := lat_cell y1
                  have kt := fun p : Lat (w3.alloc (.cells #[.string f.n, .int .u64 f.at_] 36)) => lat_told f.n f.at_ p
                  have nq := fun p : Lat (w3.alloc (.cells #[.string f.n, .int .u64 f.at_] 36)) => neq33 f.n f.at_ p.W
                  have hLT : Hid (L.length = T.length + 1) := ⟨by rw [hL0]; rfl⟩
                  have hpos : 0 < L.length := by have := hLT.out; omega
                  have z0 : decide ((L.length : Int) > 0) = true := by simp; omega
                  have z1 : decide (0 < L.length) = true := by simp; omega
                  have z3 : (0 : Int) < L.length := by omega
                  have hcap : Hid (L.length ≤ lc ∧ lc ≤ maxLen) := ⟨hS.out.2.cap.1, hS.out.2.cap.2.1⟩
                  have hcap1 : L.length ≤ lc := hcap.out.1
                  have hcap2 : lc ≤ 9223372036854775807 := by have := hcap.out.2; unfold maxLen at this; omega
                  replace hL0 : Hid _ := ⟨hL0⟩
                  replace hf0 : Hid _ := ⟨hf0⟩
                  clear y0 y1
                  go_wp2_with fail
                  refine wp_region_lat (by kernel_rfl) (by kernel_rfl) ?_
                  repeat (go_big_quiet_step (fail))
                  go_big_quiet_step ((go_at_call 16; exact kt _))
                  repeat (go_big_quiet_step (fail))
                  refine wpQuiet_nil ?_
                  intro _ hw'
                  obtain ⟨p, hw''⟩ := hw'
                  subst hw''
                  have h5 : Hid _ := Hid.mk (h4.out.grown p.h)
                  obtain ⟨n0, n1, n2⟩ := own_3 (h5.out.mb (k := wr.heap.size) (o := .cells #[.int .i64 x.kd, .string x.nm, .int .u64 x.at_] 28 (0, 0)) (by simp))
                  clear e0' e1' y0' y1' kt nq m0 m1 m2
                  by_cases hlc0 : lc - 1 = 0
                  · have hT0 : Hid (T = []) := ⟨List.eq_nil_of_length_eq_zero (by have := hLT.out; omega)⟩
                    have hLl : Hid (L.length - 1 = T.length) := ⟨by have := hLT.out; omega⟩
                    go_wp2_with fail
                    rw [hLl.out]
                    have hlcN : Lc p.W (.slice (some ⟨g, o, none⟩) T.length 0) T := .inl ⟨.inr ⟨_, _, by rw [hT0.out]; rfl⟩, hT0.out⟩
                    refine (stands_any h5.out (qb := qb) (L := T) (by simp) hlcN x.nm hok.2.1).mono ?_
                    rintro r w20 ⟨rfl, hg20⟩
                    have hN : Hid (St W w20 (.q qb T :: []) ∧ Lv (.slice (some ⟨g, o, none⟩) T.length 0) T []) := by
                      have h6 := (h5.out.grown hg20).drop
                      rw [hT0.out] at h6 ⊢
                      exact ⟨Lv.over h6 _ _ 0 (by unfold maxLen; omega)⟩
                    go_wp2_with fail
                    go_roundw
                    case rel => exact ⟨k + 1, _, _, T, _, by go_num, rfl, by omega, by omega, by have := hLT.out; omega, hN⟩
                    case measure => simp [intOf]; omega
                  · have hLl : Hid (L.length - 1 = T.length) := ⟨by have := hLT.out; omega⟩
                    have hlv : Hid (Lv (.slice (some ⟨g, o + 2, none⟩) T.length (lc - 1)) T rl) := ⟨hS.out.2.rest 1 (by omega) T (by rw [hL0.out]; rfl) _ (by omega) _ rfl _ rfl⟩
                    go_wp2_with fail
                    rw [hLl.out]
                    have hlcN := hlv.out.lc h5.out (fun r hr => by simp [hr])
                    refine (stands_any h5.out (qb := qb) (L := T) (by simp) hlcN x.nm hok.2.1).mono ?_
                    rintro r w20 ⟨rfl, hg20⟩
                    have hN : Hid _ := Hid.mk (And.intro ((h5.out.grown hg20).drop.swap.drop) hlv.out)
                    go_wp2_with fail
                    go_roundw
                    case rel => exact ⟨k + 1, _, _, T, _, by go_num, rfl, by omega, by omega, by have := hLT.out; omega, hN⟩
                    case measure => simp [intOf]; omega
              · have d3 : (x.kd == 3) = false := by simp [k3]
                by_cases k4 : x.kd = 4
                · have d4 : (x.kd == 4) = true := by simp [k4]
                  clear k1 k2 k3 k4
                  obtain ⟨A, hA⟩ : ∃ A, Hid (tkN x.at_ L = A) := ⟨_, ⟨rfl⟩⟩
                  obtain ⟨R, hR⟩ : ∃ R, Hid (drN x.at_ L = R) := ⟨_, ⟨rfl⟩⟩
                  have hAR : Hid (L = A ++ R) := ⟨by rw [← hA.out, ← hR.out]; exact (tk_dr x.at_ L).symm⟩
                  have hARl : Hid (L.length = A.length + R.length) := ⟨by rw [hAR.out, List.length_append]⟩
                  have hAl : A.length ≤ L.length := by have := hARl.out; omega
                  obtain ⟨m0, m1, m2⟩ := own_3 hB.out.b
                  clear hq2
                  go_wp2_with fail
                  refine (due_e hB.out.swap x.at_ hA hR).mono ?_
                  rintro r w3 ⟨a4, c4, rfl, h3⟩
                  have hlc3 := hS.out.2.lc h3 (fun r hr => by simp [hr])
                  clear m0 m1 m2
                  obtain ⟨m0, m1, m2⟩ := own_3 (h3.mb (k := wr.heap.size) (o := .cells #[.int .i64 x.kd, .string x.nm, .int .u64 x.at_] 28 (0, 0)) (by simp))
                  go_wp2_with fail
                  refine (rdue_e w3 hlc3 (by omega) x.at_ hA).mono ?_
                  rintro r w4 ⟨rfl, rfl⟩
                  replace h3 : Hid _ := ⟨h3⟩
                  have hcap := hS.out.2.cap
                  unfold maxLen at hcap
                  clear hlc3 m0 m1 m2
                  go_wp2_with fail
                  generalize hab : wr.heap.size = ab at *
                  go_loopw [12] (fun v wz => ∃ (j : Nat), v = .int .i64 j ∧ j ≤ A.length ∧ Hid (St W wz (.q qb R :: .r 36 (.slice a4 A.length c4) A :: .b ab (.cells #[.int .i64 x.kd, .string x.nm, .int .u64 x.at_] 28) :: rl)))
                    (fun v _ => A.length - (intOf v).toNat)
                  case atStart => exact ⟨0, rfl, by omega, h3⟩
                  case round =>
                    clear h3
                    obtain ⟨j, rfl, hj, hZ⟩ := hrel
                    have hlcZ := hS.out.2.lc hZ.out (fun r hr => by simp [hr])
                    by_cases hjl : j < A.length
                    · have hdj : decide ((j : Int) < A.length) = true := by simp; omega
                      obtain ⟨e, he⟩ := some_at hjl
                      have heL : L[j]? = some e := by rw [hAR.out, List.getElem?_append_left hjl]; exact he
                      obtain ⟨g1, hga, _, _, x0, x1, _⟩ := (hZ.out.mr (t := 36) (v := .slice a4 A.length c4) (es := A) (by simp)).at he
                      obtain ⟨g2, o2, hgl, _, y0, y1⟩ := hlcZ.at heL
                      subst hga hgl
                      haveI := lat_nonempty wr
                      have x0' := lat_cell x0
                      have x1' := lat_cell x1
                      have y0' := lat_cell y0
                      have y1' := lat_cell y1
                      have kt := fun p : Lat wr => lat_told e.n e.at_ p
                      have nq := fun p : Lat wr => neq33 e.n e.at_ p.W
                      have hjb : (j : Int) < A.length := by omega
                      have hjb2 : (j : Int) < L.length := by omega
                      replace he : Hid _ := ⟨he⟩
                      replace heL : Hid _ := ⟨heL⟩
                      clear x0 x1 y0 y1 hlcZ
                      go_wp2_with fail
                      refine wp_region_lat (by kernel_rfl) (by kernel_rfl) ?_
                      repeat (go_big_quiet_step (fail))
                      go_big_quiet_step ((go_at_call 16; exact kt _))
                      repeat (go_big_quiet_step (fail))
                      refine wpQuiet_nil ?_
                      intro _ hw'
                      obtain ⟨p, hw''⟩ := hw'
                      subst hw''
                      have hZ2 : Hid _ := Hid.mk (hZ.out.grown p.h)
                      clear x0' x1' y0' y1' kt nq
                      go_wp2_with fail
                      go_roundw
                      case rel => exact ⟨j + 1, by go_num, by omega, hZ2⟩
                      case measure => simp [intOf]; omega
                    · have hdj : decide ((j : Int) < A.length) = false := by simp; omega
                      obtain ⟨m0, m1, m2⟩ := own_3 (hZ.out.mb (k := ab) (o := .cells #[.int .i64 x.kd, .string x.nm, .int .u64 x.at_] 28 (0, 0)) (by simp))
                      have hRl : Hid (L.length - A.length = R.length) := ⟨by have := hARl.out; omega⟩
                      have hAi : (A.length : Int) ≤ L.length := by omega
                      have hAc : A.length ≤ lc := by omega
                      rcases hS.out.2.addr with ⟨rfl, rfl, hL0, hrl⟩ | ⟨g, o, rfl⟩
                      · have hA0 : A = [] := List.eq_nil_of_length_eq_zero (by rw [hL0] at hAl; simpa using hAl)
                        have hR0 : R = [] := List.eq_nil_of_length_eq_zero (by have := hARl.out; rw [hL0] at this; simp at this; omega)
                        subst hL0 hA0 hR0 hrl
                        have hlcN : Lc wr (.slice none ([] : List E).length 0) [] := .inl ⟨.inl rfl, rfl⟩
                        go_wp2_with fail
                        refine (stands_any hZ.out (qb := qb) (L := []) (by simp) hlcN x.nm hok.2.1).mono ?_
                        rintro r w20 ⟨rfl, hg20⟩
                        have hN : Hid (St W w20 (.q qb [] :: []) ∧ Lv (.slice none ([] : List E).length 0) [] []) := ⟨(hZ.out.grown hg20).sub (by simp), .inl ⟨.inl rfl, rfl, rfl⟩⟩
                        go_wp2_with fail
                        go_roundw
                        case rel => exact ⟨k + 1, none, 0, [], [], by go_num, rfl, by omega, by omega, by simp, hN⟩
                        case measure => simp [intOf]; omega
                      · by_cases hlc0 : lc - A.length = 0
                        · have hR0 : Hid (R = []) := ⟨List.eq_nil_of_length_eq_zero (by have := hARl.out; omega)⟩
                          have hlcN : Lc wr (.slice (some ⟨g, o, none⟩) R.length 0) R := .inl ⟨.inr ⟨_, _, by rw [hR0.out]; rfl⟩, hR0.out⟩
                          go_wp2_with fail
                          rw [hRl.out]
                          refine (stands_any hZ.out (qb := qb) (L := R) (by simp) hlcN x.nm hok.2.1).mono ?_
                          rintro r w20 ⟨rfl, hg20⟩
                          have hN : Hid (St W w20 (.q qb R :: []) ∧ Lv (.slice (some ⟨g, o, none⟩) R.length 0) R []) := by
                            have h6 := hZ.out.grown hg20
                            rw [hR0.out] at h6 ⊢
                            exact ⟨Lv.over h6 _ _ 0 (by unfold maxLen; omega)⟩
                          go_wp2_with fail
                          go_roundw
                          case rel => exact ⟨k + 1, _, _, R, _, by go_num, rfl, by omega, by omega, by have := hARl.out; omega, hN⟩
                          case measure => simp [intOf]; omega
                        · have hlv : Hid (Lv (.slice (some ⟨g, o + A.length * 2, none⟩) R.length (lc - A.length)) R rl) := ⟨hS.out.2.rest A.length hAl R (by rw [hAR.out]; simp) _ rfl _ rfl _ rfl⟩
                          have hlcN := hlv.out.lc hZ.out (fun r hr => by simp [hr])
                          go_wp2_with fail
                          rw [hRl.out]
                          refine (stands_any hZ.out (qb := qb) (L := R) (by simp) hlcN x.nm hok.2.1).mono ?_
                          rintro r w20 ⟨rfl, hg20⟩
                          have hN : Hid _ := Hid.mk (And.intro ((hZ.out.grown hg20).swap.drop.swap.drop) hlv.out)
                          go_wp2_with fail
                          go_roundw
                          case rel => exact ⟨k + 1, _, _, R, _, by go_num, rfl, by omega, by omega, by have := hARl.out; omega, hN⟩
                          case measure => simp [intOf]; omega
                · have d4 : (x.kd == 4) = false := by simp [k4]
                  clear k1 k2 k3 k4
                  obtain ⟨m0, m1, m2⟩ := own_3 hB.out.b
                  go_wp2_with fail
                  refine (stands_any hB.out (qb := qb) (L := L) (by simp) hlc1.out x.nm hok.2.1).mono ?_
                  rintro r w20 ⟨rfl, hg20⟩
                  have hN : Hid _ := Hid.mk (And.intro (hB.out.grown hg20).drop hS.out.2)
                  go_wp2_with fail
                  go_roundw
                  case rel => exact ⟨k + 1, _, _, L, _, by go_num, rfl, by omega, by omega, by omega, hN⟩
                  case measure => simp [intOf]; omega
        · have hds : decide ((x.nm.size : Int) > 40) = true := by simp; omega
          have hdsn : decide (40 < x.nm.size) = true := by simp; omega
          have hN : Hid _ := Hid.mk (And.intro hB.out.drop hS.out.2)
          go_wp2_with fail
          go_roundw
          case rel => exact ⟨k + 1, _, _, L, _, by go_num, rfl, by omega, by omega, by omega, hN⟩
          case measure => simp [intOf]; omega
      · have hd1 : decide ((k : Int) < xs.length) = true := by simp; omega
        have hd2 : decide ((k : Int) < 150) = false := by simp; omega
        go_wp2_with fail
        refine (alive_s hS.out.1).mono ?_
        rintro r w6 ⟨rfl, h6⟩
        go_wp2
        go_ret
        exact ⟨rfl, h6.2⟩
    · have hd1 : decide ((k : Int) < xs.length) = false := by simp; omega
      go_wp2_with fail
      refine (alive_s hS.out.1).mono ?_
      rintro r w6 ⟨rfl, h6⟩
      go_wp2
      go_ret
      exact ⟨rfl, h6.2⟩
end Go.Proofs.Ytipcoghhnbgalaa
