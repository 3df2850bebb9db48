/- The walk of the law DiskApart. -/
import Derived.Test.YtmhpbemfejkdaaaChg
import Derived.Test.YtmhpbemfejkdaaaSafw
import Derived.Deep.DeepCutAuto
import Derived.Deep.CutBlock
namespace Go.Proofs.Ytmhpbemfejkdaaa
open Go.RowKit Go.IntWalk Go.Maps Go.Sort
set_option linter.unusedVariables false
set_option linter.unusedSimpArgs false

theorem Try.info9 : (Try.prog.info? 9).map (fun i => (i.zero, i.size, i.bytes)) = some (some (.string ⟨#[]⟩), 1, 16) := by kernel_rfl
set_option maxRecDepth 100000 in
set_option maxHeartbeats 4000000 in
theorem apart_walk (a : Option Addr) (cap : Nat) (xs : List Ac) (x : Ac) (W : World) (h : Acs W (.slice a xs.length cap) xs) (hx : x.ok W) :
    Calls Try.prog 5 #[.slice a xs.length cap, .agg #[.int .i64 x.kd, .int .i64 x.s, .int .i64 x.n, .slice x.ba x.b.length x.bc, .slice x.ka x.k.length x.kc]] W fun e w' => e = .returned (.bool true) ∧ Below W.heap.size W w' := by
  have hgA := World.grownBy_alloc W (.cells #[.int .i64 x.kd, .int .i64 x.s, .int .i64 x.n, .slice x.ba x.b.length x.bc, .slice x.ka x.k.length x.kc] 32) none
  have q0 : (W.alloc (.cells #[.int .i64 x.kd, .int .i64 x.s, .int .i64 x.n, .slice x.ba x.b.length x.bc, .slice x.ka x.k.length x.kc] 32)).cell? ⟨W.heap.size, 0, none⟩ = some (.int .i64 x.kd) := by simp
  have q1 : (W.alloc (.cells #[.int .i64 x.kd, .int .i64 x.s, .int .i64 x.n, .slice x.ba x.b.length x.bc, .slice x.ka x.k.length x.kc] 32)).cell? ⟨W.heap.size, 1, none⟩ = some (.int .i64 x.s) := by simp
  have q2 : (W.alloc (.cells #[.int .i64 x.kd, .int .i64 x.s, .int .i64 x.n, .slice x.ba x.b.length x.bc, .slice x.ka x.k.length x.kc] 32)).cell? ⟨W.heap.size, 2, none⟩ = some (.int .i64 x.n) := by simp
  have q3 : (W.alloc (.cells #[.int .i64 x.kd, .int .i64 x.s, .int .i64 x.n, .slice x.ba x.b.length x.bc, .slice x.ka x.k.length x.kc] 32)).cell? ⟨W.heap.size, 3, none⟩ = some (.slice x.ba x.b.length x.bc) := by simp
  have hs0 := hgA.size
  go_enter Try.func5, Try.ntmps5
  go_wp2_with fail
  generalize W.alloc (.cells #[.int .i64 x.kd, .int .i64 x.s, .int .i64 x.n, .slice x.ba x.b.length x.bc, .slice x.ka x.k.length x.kc] 32) = W0 at *
  refine (new_any W0).mono ?_
  rintro r w1 ⟨sb, bm, rfl, hsb, hbm, hdk1, hg1⟩
  have p3 := grown_cell hg1 q3
  by_cases hlong : x.b.length > 1100
  · have hd1 : decide ((x.b.length : Int) > 1100) = true := by simp; omega
    go_wp2_with fail
    refine (alive_any w1).mono ?_
    rintro r w2 ⟨rfl, hg2⟩
    go_wp2
    go_ret
    exact ⟨rfl, grown_below (grown_none (grown_none hgA hg1) hg2)⟩
  have hd1 : decide ((x.b.length : Int) > 1100) = false := by simp; omega
  go_upto_block 0 with fail
  go_cut [] (fun wx => ∃ (N : Nat → Prop) (l : List Sg) (root : List Int), Dsk wx sb bm N l root ∧ W0.grownBy wx none)
  case first =>
    go_wp2_with fail
    go_loopw [6] (fun i wr => ∃ (j : Nat) (N : Nat → Prop) (l : List Sg) (root : List Int), j ≤ xs.length ∧ i = .int .i64 j ∧ Dsk wr sb bm N l root ∧ W0.grownBy wr none)
      (fun i _ => xs.length - (intOf i).toNat)
    case atStart => exact ⟨0, _, [], [], by omega, rfl, hdk1, hg1⟩
    case round =>
      obtain ⟨j, N, l, root, hj, rfl, hdk, hgw⟩ := hrel
      have hgW := grown_none hgA hgw
      by_cases hjl : j < xs.length
      · have hdj : decide ((j : Int) < (xs.length : Int)) = true := by simp; omega
        by_cases hj180 : j < 180
        · have hdj2 : decide ((j : Int) < 180) = true := by simp; omega
          obtain ⟨y, hy⟩ : ∃ y, xs[j]? = some y := ⟨_, List.getElem?_eq_getElem hjl⟩
          obtain ⟨b, off, rfl, hbl, hyo, hyc⟩ := h.at hy
          have hc0W : W.cell? ⟨b, off + j * 5, none⟩ = some (.int .i64 y.kd) := by simpa using hyc 0 _ rfl
          have hc1W : W.cell? ⟨b, off + j * 5 + 1, none⟩ = some (.int .i64 y.s) := by simpa using hyc 1 _ rfl
          have hc3W : W.cell? ⟨b, off + j * 5 + 3, none⟩ = some (.slice y.ba y.b.length y.bc) := by simpa using hyc 3 _ rfl
          have hc0 := grown_cell hgW hc0W
          have hc1 := grown_cell hgW hc1W
          have hc3 := grown_cell hgW hc3W
          have hyW := y.ok_grown hgW hyo
          by_cases hk1 : y.kd = 1
          · have e1 : (y.kd == 1) = true := by simp [hk1]
            have e6 : (y.kd == 6) = false := by simp [hk1]
            clear hk1
            by_cases hl : y.b.length ≤ 1100
            · have hdl : decide ((y.b.length : Int) ≤ 1100) = true := by simp; omega
              go_wp2_with fail
              go_region_held3 (fun w' => w'.cell? ⟨b, off + j * 5 + 1, none⟩ = some (.int .i64 y.s) ∧ w'.cell? ⟨b, off + j * 5 + 3, none⟩ = some (.slice y.ba y.b.length y.bc))
                (first
                  | go_keep
                  | exact ⟨grown_cell hgW2 hc1W, grown_cell hgW2 hc3W⟩)
                ((go_at_call 9
                  refine (append_chg _ (hdk.grown0 (grown_drew _)) y.s hyo.2.1.1 hyo.2.1.2 _ y.b (hyW.2.2.2.1.grown0 (grown_drew _))).mono ?_
                  rintro r w2 ⟨e, N2, l2, rfl, hd2, ho2, hg2⟩
                  have hgw2 := grown_new (grown_none hgw (grown_drew _)) hg2 hbm
                  have hgW2 := grown_none hgA hgw2))
              have hc0 := grown_cell hgW2 hc0W
              go_wp2_with fail
              go_roundw
              case rel => exact ⟨j + 1, N2, l2, root, by omega, by go_num, hd2, hgw2⟩
              case measure => simp [intOf]; omega
            · have hdl : decide ((y.b.length : Int) ≤ 1100) = false := by simp; omega
              go_wp2_with fail
              go_roundw
              case rel => exact ⟨j + 1, N, l, root, by omega, by go_num, hdk, hgw⟩
              case measure => simp [intOf]; omega
          · have e1 : (y.kd == 1) = false := by simp [hk1]
            clear hk1
            by_cases hk6 : y.kd = 6
            · have e6 : (y.kd == 6) = true := by simp [hk6]
              clear hk6
              by_cases hl : y.b.length ≤ 1100
              · have hdl : decide ((y.b.length : Int) ≤ 1100) = true := by simp; omega
                go_wp2_with fail
                refine (swap_chg wr hdk _ y.b hyW.2.2.2.1).mono ?_
                rintro r w2 ⟨e, N2, r2, rfl, hd2, hg2⟩
                go_wp2_with fail
                go_roundw
                case rel => exact ⟨j + 1, N2, l, r2, by omega, by go_num, hd2, grown_new hgw hg2 hsb⟩
                case measure => simp [intOf]; omega
              · have hdl : decide ((y.b.length : Int) ≤ 1100) = false := by simp; omega
                go_wp2_with fail
                go_roundw
                case rel => exact ⟨j + 1, N, l, root, by omega, by go_num, hdk, hgw⟩
                case measure => simp [intOf]; omega
            · have e6 : (y.kd == 6) = false := by simp [hk6]
              clear hk6
              go_wp2_with fail
              go_roundw
              case rel => exact ⟨j + 1, N, l, root, by omega, by go_num, hdk, hgw⟩
              case measure => simp [intOf]; omega
        · have hdj2 : decide ((j : Int) < 180) = false := by simp; omega
          go_wp2_with fail
          go_meet
          case rel => exact ⟨N, l, root, hdk, hgw⟩
      · have hdj : decide ((j : Int) < (xs.length : Int)) = false := by simp; omega
        go_wp2_with fail
        go_meet
        case rel => exact ⟨N, l, root, hdk, hgw⟩
  case rest =>
    obtain ⟨N, l, root, hdk, hgw⟩ := hcut
    go_wp2_with fail
    refine (segments_any wc hdk).mono ?_
    rintro r w2 ⟨g, gc, rfl, hrow, hg2⟩
    have hgw2 := grown_none hgw hg2
    have hdk2 := hdk.grown0 hg2
    have hlen := hdk.len
    have hrc : ∀ j, j < l.length → w2.cell? ⟨g, j, none⟩ = some (.int .i64 ((l.map Sg.n)[j]?.getD 0)) := fun j hj => by
      have hc := hrow.cells (g := g) rfl j (.int .i64 ((l.map Sg.n)[j]?.getD 0)) (by simp [hj])
      have hadd : (⟨g, 0, none⟩ : Addr).add j = ⟨g, j, none⟩ := by unfold Addr.add; split <;> simp_all
      rwa [hadd] at hc
    have hgg := (hrow.lt g rfl).1
    have HRC : Hid (∀ (j : Nat) (z : Sg), l[j]? = some z → w2.cell? ⟨g, j, none⟩ = some (.int .i64 z.n)) := fun j z hz => by
      have hjl : j < l.length := by
        rcases Nat.lt_or_ge j l.length with h | h
        · exact h
        · rw [List.getElem?_eq_none h] at hz; cases hz
      rw [hrc j hjl, List.getElem?_map, hz]
      rfl
    clear hrc hrow
    obtain ⟨i0, hi, hz0, hz1, hz2⟩ := info_parts Try.info9
    go_wp2_with fail
    go_loopw [8, 9] (fun v i wr => ∃ (j : Nat), j ≤ l.length ∧ i = .int .i64 j ∧ wr.ownsRow w2.heap.size 9 1 v j ((l.take j).map fun z => .string (strOfNums z.b)) ∧ w2.grownBy wr none)
      (fun _ i _ => l.length - (intOf i).toNat)
    case atStart => exact ⟨0, by omega, rfl, ⟨by simp, .inl ⟨rfl, rfl⟩⟩, grown_refl _⟩
    case round =>
      obtain ⟨j, hj, rfl, hown, hgr⟩ := hrel
      by_cases hjl : j < l.length
      · have hdj : decide ((j : Int) < (l.length : Int)) = true := by simp; omega
        obtain ⟨z, hz⟩ : ∃ z, l[j]? = some z := ⟨_, List.getElem?_eq_getElem hjl⟩
        have hjc := grown_cell hgr (HRC.out j z hz)
        have hdr := hdk2.grown0 hgr
        have hget := hdk.up.get (List.mem_of_getElem? hz)
        have hrs := hgr.size
        go_wp2_with fail
        refine (read_some wr hdr hget).mono ?_
        rintro r w3 ⟨v3, rfl, hb3, hg3⟩
        have k3 := run_conv hb3.1
        obtain ⟨a3, c3, rfl⟩ := hb3.1.shape
        have hs3 := hg3.size
        have hown3 := hown.kept hg3 (by
          cases hob : Value.ownBlock _ with
          | none => exact .inl rfl
          | some k => exact .inr (by simp))
        go_wp2_with (first
          | (at_builtin; refine wpList_append_own _ rfl _ _ 51 rfl w2.heap.size 9 i0 (.string ⟨#[]⟩) 1 16 Try.underlying51 hi hz0 hz1 hz2 rfl (by decide) _ _ _ rfl (hown3.alloc _) ⟨w3.heap.size, 0, none⟩ 1 1 [.string (strOfNums z.b)] rfl rfl (cell_one_new _ _ _) (by simp [Value.oneCell']) (by unfold maxLen at *; omega) (by omega) (by simp; omega) ?_; intro v4 w4 hown4 hg4 hnil4)
          | go_in)
        go_roundw
        case rel =>
          refine ⟨j + 1, by omega, by go_num, ?_, ?_⟩
          · rw [List.take_add_one, hz, List.map_append]
            exact hown4
          · exact (grown_none (grown_none hgr hg3) (World.grownBy_alloc w3 _ none)).andThen hg4 fun k hk => .inl (hown3.lt k hk).1
        case measure => simp [intOf]; omega
      · have hdj : decide ((j : Int) < (l.length : Int)) = false := by simp; omega
        obtain rfl : j = l.length := by omega
        rw [List.take_length] at hown
        obtain ⟨R, hR⟩ : ∃ R, Hid (R = strOfNums root) := ⟨_, rfl⟩
        go_wp2_with fail
        refine (root_any wr (hdk2.grown0 hgr)).mono ?_
        rintro r w5 ⟨v5, rfl, hb5, hg5⟩
        have k5 := run_conv hb5.1
        rw [← hR.out] at k5
        have hgw5 := grown_none (grown_none hgw2 hgr) hg5
        have hdk5 := (hdk2.grown0 hgr).grown0 hg5
        have hown5 := hown.kept hg5 (by
          cases hob : Value.ownBlock _ with
          | none => exact .inl rfl
          | some k => exact .inr (by simp))
        have g0 := grown_cell hgw5 q0
        have g1 := grown_cell hgw5 q1
        have g2 := grown_cell hgw5 q2
        have g3 := grown_cell hgw5 q3
        have hx5 := x.ok_grown (grown_none hgA hgw5) hx
        go_upto_block 4 with fail
        go_cut [] (fun wx => ∃ (N6 : Nat → Prop) (l6 : List Sg), Dsk wx sb bm N6 l6 root ∧ (∀ m, m ≠ x.s → getS m l6 = getS m l) ∧ w5.grownBy wx (some bm))
        case first =>
          by_cases hk1 : x.kd = 1
          · have f1 : (x.kd == 1) = true := by simp [hk1]
            clear hk1
            go_wp2_with fail
            refine (append_chg w5 hdk5 x.s hx5.2.1.1 hx5.2.1.2 _ x.b hx5.2.2.2.1).mono ?_
            rintro r w6 ⟨e6, N6, l6, rfl, hd6, ho6, hg6⟩
            go_wp2_with fail
            go_meet
            case rel => exact ⟨N6, l6, hd6, ho6, hg6⟩
          have f1 : (x.kd == 1) = false := by simp [hk1]
          clear hk1
          by_cases hk2 : x.kd = 2
          · have f2 : (x.kd == 2) = true := by simp [hk2]
            clear hk2
            go_wp2_with fail
            refine (sync_chg w5 hdk5 x.s hx5.2.1.1 hx5.2.1.2).mono ?_
            rintro r w6 ⟨e6, N6, l6, rfl, hd6, ho6, hg6⟩
            go_wp2_with fail
            go_meet
            case rel => exact ⟨N6, l6, hd6, ho6, hg6⟩
          have f2 : (x.kd == 2) = false := by simp [hk2]
          clear hk2
          by_cases hk3 : x.kd = 3
          · have f3 : (x.kd == 3) = true := by simp [hk3]
            clear hk3
            go_wp2_with fail
            refine (cut_chg w5 hdk5 x.s x.n hx5.2.1.1 hx5.2.1.2).mono ?_
            rintro r w6 ⟨e6, N6, l6, rfl, hd6, ho6, hg6⟩
            go_wp2_with fail
            go_meet
            case rel => exact ⟨N6, l6, hd6, ho6, hg6⟩
          have f3 : (x.kd == 3) = false := by simp [hk3]
          clear hk3
          by_cases hk4 : x.kd = 4
          · have f4 : (x.kd == 4) = true := by simp [hk4]
            clear hk4
            go_wp2_with fail
            refine (remove_chg w5 hdk5 x.s hx5.2.1.1 hx5.2.1.2).mono ?_
            rintro r w6 ⟨e6, N6, l6, rfl, hd6, ho6, hg6⟩
            go_wp2_with fail
            go_meet
            case rel => exact ⟨N6, l6, hd6, ho6, hg6⟩
          have f4 : (x.kd == 4) = false := by simp [hk4]
          clear hk4
          go_wp2_with fail
          go_meet
          case rel => exact ⟨_, l, hdk5, fun m hm => rfl, (grown_refl _).but _⟩
        case rest =>
          obtain ⟨N6, l6, hd6, ho6, hg6⟩ := hcut
          have hbm2 := hdk2.bml
          have hgr' := hgr.size
          have hg5' := hg5.size
          have hgbm : Hid (some g ≠ some bm) := fun e => by
            have := hdk.bml
            cases e
            omega
          have hown6 := hown5.kept hg6 (by
            cases hob : Value.ownBlock _ with
            | none => exact .inl rfl
            | some k =>
              refine .inr fun e => ?_
              cases e
              have := (hown5.lt _ hob).1
              omega)
          have hnW : Hid (some W.heap.size ≠ some bm) := fun e => by
            have := World.block_lt_of_cell? _ _ q0
            cases e
            simp at this
            omega
          have g1' := hg6.cell g1 hnW.out
          have HR6 : Hid (∀ (j : Nat) (z : Sg), l[j]? = some z → wc.cell? ⟨g, j, none⟩ = some (.int .i64 z.n)) := fun j z hz => hg6.cell (grown_cell hg5 (grown_cell hgr (HRC.out j z hz))) hgbm.out
          have hgwc : W0.grownBy wc none := grown_new hgw5 hg6 hbm
          go_wp2_with fail
          clear g0 g1 g2 g3 hown hown5 k5
          go_loopw [13] (fun i wr => ∃ (j : Nat), j ≤ l.length ∧ i = .int .i64 j ∧ wc.grownBy wr none)
            (fun i _ => l.length - (intOf i).toNat)
          case atStart => exact ⟨0, by omega, rfl, grown_refl _⟩
          case round =>
            obtain ⟨j, hj, rfl, hgr3⟩ := hrel
            by_cases hjl : j < l.length
            · have hdj : decide ((j : Int) < (l.length : Int)) = true := by simp; omega
              obtain ⟨z, hz⟩ : ∃ z, l[j]? = some z := ⟨_, List.getElem?_eq_getElem hjl⟩
              have hjc := grown_cell hgr3 (HR6.out j z hz)
              have hdr := hd6.grown0 hgr3
              have hzm := List.mem_of_getElem? hz
              have hget := hdk.up.get hzm
              have hzs := hdk.seg z hzm
              obtain ⟨gw, cw, hu⟩ := Joins.ownsRow_form hown6 (by omega)
              subst hu
              have hwj : wc.cell? ⟨gw, j, none⟩ = some (.string (strOfNums z.b)) := by
                have hc := hown6.cells (g := gw) rfl j (.string (strOfNums z.b)) (by simp [hz])
                have hadd : (⟨gw, 0, none⟩ : Addr).add j = ⟨gw, j, none⟩ := by unfold Addr.add; split <;> simp_all
                rwa [hadd] at hc
              by_cases hne : z.n = x.s
              · have e1 : (z.n == x.s) = true := by simp [hne]
                have e2 : (z.n != x.s) = false := by simp [hne]
                have e3 : decide (z.n = x.s) = true := by simp [hne]
                have hz1 : -9223372036854775808 ≤ z.n := by omega
                have hz2 := hzs.2.1
                clear hne hzs hget
                go_wp2_with fail
                refine (read_any wr hdr (n := z.n) hz1 hz2).mono ?_
                rintro r w7 ⟨v7, rfl, hb7, hg7⟩
                generalize errA z.n (l6.map Sg.abs) = e7
                obtain ⟨a7, c7, rfl⟩ := hb7.1.shape
                go_wp2_with fail
                haveI := lat_nonempty w7
                have c0 := lat_cell (grown_cell hg7 hjc)
                have c1 := lat_cell (grown_cell (grown_none hgr3 hg7) g1')
                refine wp_region_lat (by kernel_rfl) (by kernel_rfl) ?_
                repeat (go_big_quiet_step (fail))
                refine wpQuiet_nil ?_
                intro _ hw'
                obtain ⟨q, hw''⟩ := hw'
                subst hw''
                clear c0 c1
                go_wp2
                go_roundw
                case rel => exact ⟨j + 1, by omega, by go_num, grown_none (grown_none hgr3 hg7) q.h⟩
                case measure => simp [intOf]; omega
              · have e1 : (z.n == x.s) = false := by simp [hne]
                have e2 : (z.n != x.s) = true := by simp [hne]
                have e3 : decide (z.n = x.s) = false := by simp [hne]
                have hget6 := (ho6 z.n hne).trans hget
                clear hne hzs hget
                go_wp2_with fail
                refine (read_some wr hdr hget6).mono ?_
                rintro r w7 ⟨v7, rfl, hb7, hg7⟩
                obtain ⟨a7, c7, rfl⟩ := hb7.1.shape
                go_wp2_with fail
                haveI := lat_nonempty w7
                have c0 := lat_cell (grown_cell hg7 hjc)
                have c1 := lat_cell (grown_cell (grown_none hgr3 hg7) g1')
                have c2 := lat_cell (grown_cell (grown_none hgr3 hg7) hwj)
                have k0 := lat_conv (A := strOfNums z.b) hb7.1 rfl
                refine wp_region_lat (by kernel_rfl) (by kernel_rfl) ?_
                repeat (go_big_quiet_step (fail))
                refine wpQuiet_nil ?_
                intro _ hw'
                obtain ⟨q, hw''⟩ := hw'
                subst hw''
                clear c0 c1 c2 k0
                go_wp2
                go_roundw
                case rel => exact ⟨j + 1, by omega, by go_num, grown_none (grown_none hgr3 hg7) q.h⟩
                case measure => simp [intOf]; omega
            · have hdj : decide ((j : Int) < (l.length : Int)) = false := by simp; omega
              go_wp2_with fail
              refine (alive_any wr).mono ?_
              rintro r w7 ⟨rfl, hg7⟩
              go_wp2_with fail
              refine (root_any w7 ((hd6.grown0 hgr3).grown0 hg7)).mono ?_
              rintro r w8 ⟨v8, rfl, hb8, hg8⟩
              have k8 := run_conv hb8.1
              rw [← hR.out] at k8
              go_wp2
              go_ret
              exact ⟨rfl, grown_below (grown_none (grown_none (grown_none (grown_none hgA hgwc) hgr3) hg7) hg8)⟩
end Go.Proofs.Ytmhpbemfejkdaaa
