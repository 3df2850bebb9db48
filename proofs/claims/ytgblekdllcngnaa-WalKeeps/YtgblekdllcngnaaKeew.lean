/- The walk of WalKeeps. -/
import Derived.Test.YtgblekdllcngnaaLst
namespace Go.Proofs.Ytgblekdllcngnaa
open Go.RowKit Go.Shelf Plain Go.IntWalk
set_option linter.unusedVariables false
set_option maxRecDepth 100000 in
set_option maxHeartbeats 20000000 in
theorem keeps_walk (a : Option Addr) (cap : Nat) (xs : List Ac) (W : World) (h : Acs W (.slice a xs.length cap) xs) (a0 : Option Addr) (c0 : Nat) (z0 : List Int) (a1 : Option Addr) (c1 : Nat) (z1 : List Int)
    (i0 : Ins W.heap.size W (.slice a0 z0.length c0) z0) (i1 : Ins W.heap.size W (.slice a1 z1.length c1) z1) :
    Calls Try.prog 3 #[.slice a xs.length cap, .agg #[.slice a0 z0.length c0, .slice a1 z1.length c1]] W fun e w' => e = .returned (.bool true) ∧ Below W.heap.size W w' := by
  obtain ⟨W1, hW1⟩ : ∃ W1, W.alloc (.cells #[.slice a0 z0.length c0, .slice a1 z1.length c1] 24) = W1 := ⟨_, rfl⟩
  have hga : W.grownBy W1 none := by rw [← hW1]; exact World.grownBy_alloc W _ none
  have hnew : W1.heap[W.heap.size]? = some (.cells #[.slice a0 z0.length c0, .slice a1 z1.length c1] 24 (0, 0)) := by rw [← hW1]; exact heap_alloc_new W _
  have hsz : W1.heap.size = W.heap.size + 1 := by rw [← hW1]; simp
  have HKP : Hid (∀ k : Nat, k < 2 → ∃ ak ck zk, W1.cell? ⟨W.heap.size, k, none⟩ = some (.slice ak zk.length ck) ∧ Ins W.heap.size W (.slice ak zk.length ck) zk) := by
    intro k hk
    match k, hk with
    | 0, _ => exact ⟨a0, c0, z0, by simp [World.cell?, hnew], i0⟩
    | 1, _ => exact ⟨a1, c1, z1, by simp [World.cell?, hnew], i1⟩
  have HB1 : Hid (Below W.heap.size W W1) := by rw [← hW1]; exact (Below.refl _ W).alloc (Nat.le_refl _) _
  clear hnew i0 i1
  go_enter Try.func3, Try.ntmps3
  go_wp2_with fail
  refine (new_any W1).mono ?_
  rintro e w1 ⟨sb, bm, rfl, hsb, hbm, hD1, hg1⟩
  have hs1 := hg1.size
  have hD1' : Dsk w1 sb bm (fun k => k ≠ sb ∧ k ≠ bm) [] [] := hD1.mono (fun k hk => hk.elim) (fun e => e.1 rfl) (fun e => e.2 rfl)
  go_wp2_with fail
  refine (open_fresh w1 (fun k => k < W1.heap.size) (fun k hk => by omega) (by omega) (by omega) hD1').mono ?_
  rintro e w2 ⟨lb, sv, rfl, hlb, hL2, hK2⟩
  have hK02 : Kpt (fun k => k < W1.heap.size) W1 w2 := (Kpt.of hg1 (fun k hk => hk) (by simp)).trans hK2
  have hG2 := lgs_fresh hL2
  clear hL2 hK2 hD1 hD1' hg1
  go_wp2_with fail
  refine (alive_any _).mono ?_
  rintro e w3 ⟨rfl, hB3⟩
  have hG3 := hG2.keep (below_grown hB3)
  have hK03 := hK02.trans (hG2.kpt0 (below_grown hB3))
  clear hG2 hK02 hB3
  obtain ⟨M, hM⟩ : ∃ M : Nat → Prop, (fun k => k < W1.heap.size) = M := ⟨_, rfl⟩
  have HM : Hid (∀ k, k < W1.heap.size → M k) := fun k hk => by rw [← hM]; exact hk
  rw [hM] at hG3 hK03
  clear hM
  go_wp2_with fail
  go_loopw [8] (fun i wr => ∃ (j : Nat) (gs : List (List (List Int))) (seg fs F : Nat), j ≤ 40 ∧ i = .int .i64 j ∧ Lgs M wr lb sb bm gs seg fs F ∧ NoE gs ∧ fs + (cs gs).sum ≤ j ∧ Kpt M W1 wr) (fun i _ => 40 - (intOf i).toNat)
  case atStart => exact ⟨0, [], 0, 0, 0, by omega, rfl, hG3, (fun g hg => by cases hg), by simp [cs], hK03⟩
  case round =>
    obtain ⟨j, gs, seg, fs, F, hj, rfl, hG, hNE, hT, hK⟩ := hrel
    have HNE : Hid (NoE gs) := hNE
    clear hNE
    by_cases hin : j < xs.length ∧ j < 40
    · have hdj : decide ((j : Int) < (xs.length : Int)) = true := by simp; omega
      have hdj2 : decide ((j : Int) < 40) = true := by simp; omega
      have hjl : (j : Int) < (xs.length : Int) := by omega
      have hj40 : j < 40 := hin.2
      obtain ⟨y, hy⟩ : ∃ y, xs[j]? = some y := ⟨_, List.getElem?_eq_getElem hin.1⟩
      obtain ⟨b, off, rfl, hbl, hyo, hyc⟩ := h.at hy
      have hBw : Below W.heap.size W wr := HB1.out.trans (hK.below fun k hk => HM.out k (by omega))
      have HBW : Hid (Below W.heap.size W wr) := hBw
      have hc0 : wr.cell? ⟨b, off + j * 5, none⟩ = some (.int .i64 y.kd) := (hBw.cell (p := ⟨b, off + j * 5, none⟩) hbl).trans (by simpa using hyc 0 _ rfl)
      have hc1 : wr.cell? ⟨b, off + j * 5 + 1, none⟩ = some (.int .i64 y.s) := (hBw.cell (p := ⟨b, off + j * 5 + 1, none⟩) hbl).trans (by simpa using hyc 1 _ rfl)
      have hc2 : wr.cell? ⟨b, off + j * 5 + 2, none⟩ = some (.int .i64 y.n) := (hBw.cell (p := ⟨b, off + j * 5 + 2, none⟩) hbl).trans (by simpa using hyc 2 _ rfl)
      have hc3 : wr.cell? ⟨b, off + j * 5 + 3, none⟩ = some (.slice y.ba y.b.length y.bc) := (hBw.cell (p := ⟨b, off + j * 5 + 3, none⟩) hbl).trans (by simpa using hyc 3 _ rfl)
      have hc4 : wr.cell? ⟨b, off + j * 5 + 4, none⟩ = some (.slice y.ka y.k.length y.kc) := (hBw.cell (p := ⟨b, off + j * 5 + 4, none⟩) hbl).trans (by simpa using hyc 4 _ rfl)
      have hyb := hyo.2.2.2.1
      have hyn := hyo.2.2.1
      have hys := hyo.2.1
      obtain ⟨wA, hwA⟩ : ∃ wA, wr.alloc (.cells #[.int .i64 y.kd, .int .i64 y.s, .int .i64 y.n, .slice y.ba y.b.length y.bc, .slice y.ka y.k.length y.kc] 34) = wA := ⟨_, rfl⟩
      have hgA : wr.grownBy wA none := by rw [← hwA]; exact World.grownBy_alloc wr _ none
      have q0 : wA.cell? ⟨wr.heap.size, 0, none⟩ = some (.int .i64 y.kd) := by rw [← hwA]; simp
      have q1 : wA.cell? ⟨wr.heap.size, 1, none⟩ = some (.int .i64 y.s) := by rw [← hwA]; simp
      have q2 : wA.cell? ⟨wr.heap.size, 2, none⟩ = some (.int .i64 y.n) := by rw [← hwA]; simp
      have q3 : wA.cell? ⟨wr.heap.size, 3, none⟩ = some (.slice y.ba y.b.length y.bc) := by rw [← hwA]; simp
      have q4 : wA.cell? ⟨wr.heap.size, 4, none⟩ = some (.slice y.ka y.k.length y.kc) := by rw [← hwA]; simp
      have hszA : wA.heap.size = wr.heap.size + 1 := by rw [← hwA]; simp
      have hybA : Bts wA.heap.size wA (.slice y.ba y.b.length y.bc) y.b := ((hyb.below hBw).mono hBw.size).grown0 hgA
      have hGm := hG.more hgA
      have HMw : Hid (And_ M wr wA wr.heap.size) := .inr ⟨Nat.le_refl _, by omega⟩
      have hGA := hG.keep hgA
      have hKA := hK.trans (hG.kpt0 hgA)
      clear hyo hyc hyb hBw hG hK
      by_cases hlong : y.b.length > 300
      · have hdl : decide ((y.b.length : Int) > 300) = true := by simp; omega
        go_wp2
        go_roundw
        case rel => exact ⟨j + 1, gs, seg, fs, F, by omega, by go_num, hGA, HNE.out, by omega, hKA⟩
        case measure => simp [intOf]; omega
      · have hdl : decide ((y.b.length : Int) > 300) = false := by simp; omega
        by_cases hk1 : y.kd = 1
        · have hd1 : (y.kd == 1) = true := beq_iff_eq.2 hk1
          clear hk1
          go_wp2_with fail
          refine (body_any _ y.kd y.s y.n y.ba y.bc y.b _ hyn.1 hyn.2 hybA (by omega)).mono ?_
          rintro e w4 ⟨v4, zs, rfl, hb4, hz4, hg4⟩
          obtain ⟨a4, cap4, rfl⟩ := hb4.1.shape
          have hG4 := hGA.keep hg4
          have hK4 := hKA.trans (hGA.kpt0 hg4)
          go_wp2_with fail
          refine (ls_append_any _ hG4 HNE.out (by omega) a4 zs.length cap4 zs hb4.1).mono ?_
          rintro e w5 ⟨x5, c5, rfl, ⟨gs', F', hG5, hN5, hs5⟩, hK5⟩
          have HN5 : Hid (NoE gs') := hN5
          clear hN5
          go_wp2
          go_roundw
          case rel => exact ⟨j + 1, gs', seg, fs, F', by omega, by go_num, hG5, HN5.out, by omega, hK4.trans hK5⟩
          case measure => simp [intOf]; omega
        · have hd1 : (y.kd == 1) = false := beq_eq_false_iff_ne.2 hk1
          clear hk1
          by_cases hk2 : y.kd = 2
          · have hd2 : (y.kd == 2) = true := beq_iff_eq.2 hk2
            clear hk2
            go_wp2_with fail
            refine (ls_force _ hGA).mono ?_
            rintro e w5 ⟨rfl, hG5, hK5⟩
            go_wp2
            go_roundw
            case rel => exact ⟨j + 1, gs, seg, fs, _, by omega, by go_num, hG5, HNE.out, by omega, hKA.trans hK5⟩
            case measure => simp [intOf]; omega
          · have hd2 : (y.kd == 2) = false := beq_eq_false_iff_ne.2 hk2
            clear hk2
            by_cases hk3 : y.kd = 3
            · have hd3 : (y.kd == 3) = true := beq_iff_eq.2 hk3
              clear hk3
              have hGd := hGm.keep (grown_drew wA)
              obtain ⟨N, hN⟩ : ∃ N : Int, ((fs + (cs gs).sum : Nat) : Int) = N := ⟨_, rfl⟩
              obtain ⟨f, hf⟩ : ∃ f : Int, (fs : Int) = f := ⟨_, rfl⟩
              have kF := ls_first wA.drew hGd
              have kN := ls_next wA.drew hGd
              rw [hf] at kF
              rw [hN] at kN
              have hfN : 0 ≤ f ∧ f ≤ N ∧ N ≤ 1000 := by omega
              have HF : Hid ((fs : Int) = f) := hf
              have HKd : Hid (Kpt M W1 wA.drew) := hKA.trans (hGA.kpt0 (grown_drew wA))
              clear hf hN
              have hws : IntKind.i64.wrap (N - f) = N - f := by rw [IntKind.wrap_i64]; omega
              have hw1 : IntKind.i64.wrap (N - f + 1) = N - f + 1 := by rw [IntKind.wrap_i64]; omega
              have HQ1 : Hid (∀ w', Kpt (And_ M wr wA) wA.drew w' → w'.cell? ⟨wr.heap.size, 1, none⟩ = some (.int .i64 y.s)) := fun w' hk => hk.cell HMw.out q1
              go_wp2_with fail
              go_region_held3 (fun w' => w'.cell? ⟨wr.heap.size, 1, none⟩ = some (.int .i64 y.s))
                (first
                  | go_keep
                  | exact HQ1.out _ hK7
                  | assumption)
                (first
                  | (go_at_call 14
                     refine kF.mono ?_
                     rintro e w6 ⟨rfl, rfl⟩)
                  | (go_at_call 16
                     refine kN.mono ?_
                     rintro e w6 ⟨rfl, rfl⟩)
                  | (go_at_call 15
                     refine (pick_any y.s (N - f + 1) hys.1 hys.2 (by omega) (by omega) _).mono ?_
                     rintro e w6 ⟨k, rfl, hk0, hk1, rfl⟩
                     have hwk : IntKind.i64.wrap (f + k) = f + k := by rw [IntKind.wrap_i64]; omega)
                  | (go_at_call 13
                     refine (ls_truncate_any _ hGd (f + k) (by rw [HF.out]; omega)).mono ?_
                     rintro e w7 ⟨c7, rfl, ⟨gs', seg', fs', hG7, hN7, hs7⟩, hK7⟩))
              all_goals
                have HN7 : Hid (NoE gs') := hN7 HNE.out
                clear hN7
                go_wp2
                go_roundw
                case rel => exact ⟨j + 1, gs', seg', fs', F, by omega, by go_num, hG7.less (fun k hk => .inl hk), HN7.out, by omega, HKd.out.trans (hK7.mono fun k hk => .inl hk)⟩
                case measure => simp [intOf]; omega
            · have hd3 : (y.kd == 3) = false := beq_eq_false_iff_ne.2 hk3
              clear hk3
              go_wp2
              go_roundw
              case rel => exact ⟨j + 1, gs, seg, fs, F, by omega, by go_num, hGA, HNE.out, by omega, hKA⟩
              case measure => simp [intOf]; omega
    · have hex : (decide ((j : Int) < (xs.length : Int)) = false ∧ decide (j < xs.length) = false) ∨ ((decide ((j : Int) < (xs.length : Int)) = true ∧ decide (j < xs.length) = true) ∧ decide ((j : Int) < 40) = false ∧ decide (j < 40) = false) := by
        by_cases h1 : j < xs.length
        · right; simp; omega
        · left; simp; omega
      clear hin h
      rcases hex with ⟨hd1, hd1'⟩ | ⟨⟨hd1, hd1'⟩, hd2, hd2'⟩
      all_goals
        go_wp2_with fail
        go_loopw [5, 10] (fun d k wq => ∃ (k' sbd bmd lbd : Nat) (Md : Nat → Prop) (gsd : List (List (List Int))) (Fd : Nat), k' ≤ 2 ∧ d = .pointer (some ⟨sbd, 0, none⟩) ∧ k = .int .i64 k' ∧ Lgs M wq lb sb bm gs seg fs F ∧ Lgs Md wq lbd sbd bmd gsd seg fs Fd ∧ Hid (gsd.flatten <+: gs.flatten ∧ F ≤ Fd) ∧ Kpt M W1 wq) (fun _ k _ => 2 - (intOf k).toNat)
        case atStart => exact ⟨0, sb, bm, lb, M, gs, F, by omega, rfl, rfl, hG, hG, ⟨List.prefix_refl _, Nat.le_refl _⟩, hK⟩
        case round =>
          obtain ⟨k, sbd, bmd, lbd, Md, gsd, Fd, hk2, rfl, rfl, hGo, hGd, hP, hKq⟩ := hrel
          by_cases hlt : k < 2
          · have hdk : decide ((k : Int) < 2) = true := by simp; omega
            have hki : (k : Int) < 2 := by omega
            obtain ⟨ak, ck, zk, hck, hik⟩ := HKP.out k hlt
            have hcw := hKq.cell (HM.out W.heap.size (by omega)) hck
            have hBq : Below W.heap.size W wr := HB1.out.trans (hKq.below fun k hk => HM.out k (by omega))
            have hIq := hik.kept hBq hBq.size
            clear hck hik hBq
            go_wp2_with fail
            refine (ls_power _ hGd ak ck zk hIq).mono ?_
            rintro e w5 ⟨sb2, bm2, l2, root2, bs2, gs0, rfl, hs2, hb2, hD2, hrt2, hq2, hsf2, hbs2, hok2, hpre2, hF2, _, hg5⟩
            have htop : fs + gs0.flatten.length ≤ 1000 := by
              have h1 := hGd.top
              rw [cs_sum] at h1
              have h2 := hpre2.length_le
              omega
            have hOp := open_any w5 (fun k => k < wr.heap.size) (fun k hk => Nat.lt_of_lt_of_le hk hg5.size) (by omega) (by omega) hD2 seg fs hGd.le hrt2 bs2 hq2 hsf2 gs0 hbs2 hok2 htop
            have HP2 : Hid (gs0.flatten <+: gs.flatten ∧ F ≤ fs + gs0.flatten.length) := ⟨hpre2.trans hP.out.1, by have := hP.out.2; omega⟩
            clear hD2 hrt2 hq2 hsf2 hbs2 hok2 hpre2 hF2 hGd hP
            go_wp2_with fail
            refine hOp.mono ?_
            rintro e w6 ⟨lb3, gs3, rfl, hlb3, hG6, hfl, _, hK6⟩
            have hB6 : Below wr.heap.size wr w6 := ((Kpt.of (M := fun k => k < wr.heap.size) hg5 (fun k hk => hk) (by simp)).trans hK6).below fun k hk => hk
            have hGo6 := hGo.keep (below_grown hB6)
            have hKq6 := hKq.trans (hGo.kpt0 (below_grown hB6))
            obtain ⟨Mx, hMx⟩ : ∃ Mx : Nat → Prop, (fun k => k < wr.heap.size) = Mx := ⟨_, rfl⟩
            rw [hMx] at hG6
            have HP3 : Hid (gs3.flatten <+: gs.flatten) := by rw [hfl]; exact HP2.out.1
            have hlo : F ≤ fs + (cs gs3).sum := by rw [cs_sum, hfl]; exact HP2.out.2
            have hhi : (cs gs3).sum ≤ (cs gs).sum := by rw [cs_sum, cs_sum]; exact HP3.out.length_le
            have htp := hGo.top
            obtain ⟨T3, hT3⟩ : ∃ T3, (cs gs3).sum = T3 := ⟨_, rfl⟩
            rw [hT3] at hlo hhi hG6
            obtain ⟨N3, hN3⟩ : ∃ N3 : Int, ((fs + T3 : Nat) : Int) = N3 := ⟨_, rfl⟩
            obtain ⟨N, hN⟩ : ∃ N : Int, ((fs + (cs gs).sum : Nat) : Int) = N := ⟨_, rfl⟩
            obtain ⟨f, hf⟩ : ∃ f : Int, (fs : Int) = f := ⟨_, rfl⟩
            obtain ⟨G, hGe⟩ : ∃ G : Int, (F : Int) = G := ⟨_, rfl⟩
            have kx1 := ls_first w6 hG6
            have kx2 := ls_next w6 hG6
            have kx3 := ls_forced w6 hG6
            have ko1 := ls_first w6 hGo6
            have ko2 := ls_next w6 hGo6
            have ko3 := ls_forced w6 hGo6
            rw [hf] at kx1 ko1
            rw [hT3, hN3] at kx2
            rw [hN3] at kx3
            rw [hN] at ko2
            rw [hGe] at ko3
            have d1 : decide (N3 < G) = false := by simp; omega
            have d2 : decide (N3 > N) = false := by simp; omega
            have hfN : 0 ≤ f ∧ f + (T3 : Int) = N3 ∧ N3 ≤ 1000 := by omega
            have HE : Hid ((fs : Int) = f ∧ (cs gs3).sum = T3 ∧ ((fs + T3 : Nat) : Int) = N3) := ⟨hf, hT3, hN3⟩
            clear hN3 hN hf hGe hT3 hMx hK6 hB6 hfl hOp
            go_wp2_with fail
            refine kx1.mono ?_
            rintro e w7 ⟨rfl, rfl⟩
            go_wp2_with fail
            refine ko1.mono ?_
            rintro e w7 ⟨rfl, rfl⟩
            go_wp2_with fail
            refine kx2.mono ?_
            rintro e w7 ⟨rfl, rfl⟩
            go_wp2_with fail
            refine ko3.mono ?_
            rintro e w7 ⟨rfl, rfl⟩
            go_wp2_with fail
            refine kx2.mono ?_
            rintro e w7 ⟨rfl, rfl⟩
            go_wp2_with fail
            refine ko2.mono ?_
            rintro e w7 ⟨rfl, rfl⟩
            go_wp2_with fail
            refine kx3.mono ?_
            rintro e w7 ⟨rfl, rfl⟩
            go_wp2_with fail
            refine kx2.mono ?_
            rintro e w7 ⟨rfl, rfl⟩
            go_wp2_with fail
            refine kx1.mono ?_
            rintro e w7 ⟨rfl, rfl⟩
            clear kx1 kx2 kx3 ko1 ko2 ko3
            go_wp2_with fail
            go_loopw [13] (fun n wz => ∃ m : Nat, m ≤ T3 ∧ n = .int .i64 (f + (m : Int)) ∧ Lgs M wz lb sb bm gs seg fs F ∧ Lgs Mx wz lb3 sb2 bm2 gs3 seg fs (fs + T3) ∧ Kpt M W1 wz) (fun n _ => (N3 - intOf n).toNat)
            case atStart => exact ⟨0, by omega, by simp, hGo6, hG6, hKq6⟩
            case round =>
              obtain ⟨m, hm, rfl, hGz, hGx, hKz⟩ := hrel
              have kn := ls_next wr hGx
              rw [HE.out.2.1, HE.out.2.2] at kn
              by_cases hml : m < T3
              · have dm : decide (f + (m : Int) < N3) = true := by simp; omega
                have hlen3 : gs3.flatten.length = T3 := by rw [← cs_sum]; exact HE.out.2.1
                obtain ⟨r, hr⟩ : ∃ r, gs3.flatten[m]? = some r := ⟨_, List.getElem?_eq_getElem (by omega)⟩
                have hro : gs.flatten[m]? = some r := by
                  obtain ⟨q, hq⟩ := HP3.out
                  rw [← hq, List.getElem?_append_left (by omega)]; exact hr
                have hE : Hid (f + (m : Int) = ((fs + m : Nat) : Int)) := by show _ = _; rw [← HE.out.1]; omega
                have kr := ls_read wr hGx m r hr (f + (m : Int)) hE
                have HRO : Hid (gs.flatten[m]? = some r) := hro
                have hwm : IntKind.i64.wrap (f + (m : Int) + 1) = f + ((m + 1 : Nat) : Int) := by rw [IntKind.wrap_i64]; omega
                clear hr hro hlen3
                go_wp2_with fail
                refine kn.mono ?_
                rintro e w7 ⟨rfl, rfl⟩
                go_wp2_with fail
                refine kr.mono ?_
                rintro e w8 ⟨v8, rfl, hb8, hB8⟩
                have hGz8 := hGz.keep (below_grown hB8)
                have hGx8 := hGx.keep (below_grown hB8)
                have hKz8 := hKz.trans (hGz.kpt0 (below_grown hB8))
                go_wp2_with fail
                refine (ls_read w8 hGz8 m r HRO.out (f + (m : Int)) hE).mono ?_
                rintro e w9 ⟨v9, rfl, hb9, hB9⟩
                have cv8 := run_conv (hb8.1.grown0 (below_grown hB9))
                have cv9 := run_conv hb9.1
                have hGz9 := hGz8.keep (below_grown hB9)
                have hGx9 := hGx8.keep (below_grown hB9)
                have hKz9 := hKz8.trans (hGz8.kpt0 (below_grown hB9))
                go_wp2
                go_roundw
                case rel => exact ⟨m + 1, by omega, by first | rfl | simp, hGz9, hGx9, hKz9⟩
                case measure => simp [intOf]; omega
              · obtain rfl : m = T3 := by omega
                have dm : decide (f + (m : Int) < N3) = false := by simp; omega
                go_wp2_with fail
                refine kn.mono ?_
                rintro e w7 ⟨rfl, rfl⟩
                go_wp2
                go_roundw
                case rel => exact ⟨k + 1, sb2, bm2, lb3, Mx, gs3, fs + m, by omega, rfl, by go_num, hGz, hGx, ⟨HP3.out, by omega⟩, hKz⟩
                case measure => simp [intOf]; omega
          · obtain rfl : k = 2 := by omega
            have hdk : decide (((2 : Nat) : Int) < 2) = false := by simp
            go_wp2
            go_ret
            exact ⟨rfl, HB1.out.trans (hKq.below fun k hk => HM.out k (by omega))⟩
end Go.Proofs.Ytgblekdllcngnaa
