/- The document's wheel: Slot; same; stands. -/
import Derived.Test.YtlljfgpmjpmoiaaRad
namespace Go.Proofs.Ytlljfgpmjpmoiaa
open Go.RowKit Go.IntWalk Go.Maps Go.Shelf
set_option linter.unusedVariables false
theorem lat_level {w : World} (a b : Int) (ha : 0 ≤ a ∧ a < 18446744073709551616) (hb : 0 ≤ b ∧ b < 18446744073709551616) (hne : a ≠ b) {l : Nat} (hl : Hid (lv a.toNat b.toNat = l)) (p : Lat w) : Calls Try.prog 48 #[.int .u64 a, .int .u64 b] p.W fun e w'' => e = .returned (.int .i64 l) ∧ ∃ p' : Lat w, w'' = p'.W :=
  (level_any a b p.W ha hb hne).mono fun e w'' ⟨he, hB⟩ => ⟨by rw [he, hl.out], p, hB⟩
theorem rfigure_e (a : Int) (k : Nat) (w : World) (ha : 0 ≤ a ∧ a < 18446744073709551616) (hk : k < 16) {f : Nat} (hf : Hid (fg a.toNat k = f)) : Calls Try.prog 49 #[.int .u64 a, .int .i64 k] w fun e w' => e = .returned (.int .i64 f) ∧ w' = w := by
  obtain ⟨rfl⟩ := hf
  exact rfigure_any a k w ha hk
theorem atP_skip {nw : Int} {L : List E} {k i : Nat} {x : E} (hx : L[k]? = some x) (h : pE nw x ≠ i) : atP nw (L.take k) i = atP nw (L.take (k + 1)) i := by
  rw [List.take_add_one, hx]; simp [atP, h]
theorem atP_more {nw : Int} {L : List E} {k i : Nat} {x : E} (hx : L[k]? = some x) (h : pE nw x = i) : atP nw (L.take k) i ++ [x] = atP nw (L.take (k + 1)) i := by
  rw [List.take_add_one, hx]; simp [atP, h]
set_option maxRecDepth 100000 in
set_option maxHeartbeats 8000000 in
/-- belfryref07.Wheel.Slot. -/
theorem rslot_any {w : World} {mb : Nat} {nw : Int} {L : List E} {a : Option Addr} {cap : Nat} (hLc : Lc w (.slice a L.length cap) L) (c0 : w.cell? ⟨mb, 0, none⟩ = some (.int .u64 nw)) (c1 : w.cell? ⟨mb, 1, none⟩ = some (.slice a L.length cap)) (hab : ∀ e ∈ L, nw < e.at_) (hok : ∀ e ∈ L, e.ok) (hnw : 0 ≤ nw ∧ nw < 18446744073709551616) (hl : L.length ≤ 100000) {k q : Nat} (hk : k < 4) (hq : q < 16) {M : List E} (hM : Hid (atP nw L (16 * k + q) = M)) :
    Calls Try.prog 38 #[.pointer (some ⟨mb, 0, none⟩), .int .i64 k, .int .i64 q] w fun r w' => ∃ a cap, r = .returned (.slice a M.length cap) ∧ Rw 45 w' (.slice a M.length cap) M ∧ w.grownBy w' none ∧ ∀ k, (Value.slice a M.length cap).ownBlock = some k → w.heap.size ≤ k := by
  go_enter Try.func38, Try.ntmps38
  go_wp2_with fail
  go_loopw [7, 8] (fun o i wr => ∃ (j : Nat) (oa : Option Addr) (oc : Nat) (N : List E), j ≤ L.length ∧ o = .slice oa N.length oc ∧ i = .int .i64 j ∧ Hid (N = atP nw (L.take j) (16 * k + q)) ∧ Hid (Rw 45 wr (.slice oa N.length oc) N ∧ w.grownBy wr none ∧ ∀ j, (Value.slice oa N.length oc).ownBlock = some j → w.heap.size ≤ j))
    (fun _ i _ => L.length - (intOf i).toNat)
  case atStart => exact ⟨0, none, 0, [], by omega, rfl, rfl, ⟨by simp [atP]⟩, ⟨World.ownsRow_nil _ _ _ _, grown_refl w, by simp [Value.ownBlock]⟩⟩
  case round =>
    obtain ⟨j, oa, oc, N, hj, rfl, rfl, hNe, hR⟩ := hrel
    have hNl : N.length ≤ 100000 := by
      have := atP_len nw (L.take j) (16 * k + q)
      rw [← hNe.out, List.length_take] at this
      omega
    have d0 := grown_cell hR.out.2.1 c0
    have d1 := grown_cell hR.out.2.1 c1
    by_cases hlt : j < L.length
    · have hd : decide ((j : Int) < L.length) = true := by simp; omega
      obtain ⟨x, hx⟩ := some_at hlt
      have hxm := List.mem_of_getElem? hx
      have hxa := hab x hxm
      have hxo := (hok x hxm).2
      obtain ⟨b, off, rfl, hbl, k0, k1⟩ := (hLc.grown0 hR.out.2.1).at hx
      obtain ⟨lx, hlx⟩ : ∃ lx, Hid (lv x.at_.toNat nw.toNat = lx) := ⟨_, ⟨rfl⟩⟩
      obtain ⟨fx, hfx⟩ : ∃ fx, Hid (fg x.at_.toNat lx = fx) := ⟨_, ⟨rfl⟩⟩
      have hl16 : lx < 16 := by rw [← hlx.out]; exact lv_lt (by omega) (by omega) (by omega)
      haveI := lat_nonempty wr
      have kc0 := lat_cell d0
      have kc1 := lat_cell d1
      have kc2 := lat_cell k0
      have kc3 := lat_cell k1
      have ka := fun p : Lat wr => lat_level x.at_ nw hxo hnw (by omega) hlx p
      replace hx : Hid _ := ⟨hx⟩
      go_wp2_with fail
      refine wp_region_lat (by kernel_rfl) (by kernel_rfl) ?_
      repeat (go_big_quiet_step (fail))
      go_big_quiet_step ((go_at_call 48; exact ka _))
      repeat (go_big_quiet_step (fail))
      refine wpQuiet_nil ?_
      intro _ hw'
      obtain ⟨p, hw''⟩ := hw'
      subst hw''
      have hp := p.h
      obtain ⟨wp, hwp⟩ : ∃ wp, wp = p.W := ⟨_, rfl⟩
      rw [← hwp] at hp ⊢
      clear hwp p ka kc0 kc1 kc2 kc3
      have e0 := grown_cell hp d0
      have e1 := grown_cell hp d1
      have e2 := grown_cell hp k0
      have e3 := grown_cell hp k1
      clear d0 d1 k0 k1
      have hR1 : Hid (Rw 45 wp (.slice oa N.length oc) N ∧ w.grownBy wp none ∧ ∀ j, (Value.slice oa N.length oc).ownBlock = some j → w.heap.size ≤ j) := ⟨World.ownsRow.kept hR.out.1 hp (Classical.em _), grown_none hR.out.2.1 hp, hR.out.2.2⟩
      have hk4 : decide ((k : Int) < 4) = true := by simp; omega
      have hk0 : decide ((k : Int) ≥ 0) = true := by simp
      have hk0' : decide (0 ≤ (k : Int)) = true := by simp
      have hkn : ((k : Int) == 4) = false := by simp; omega
      have hfx16 : fx < 16 := by rw [← hfx.out]; exact fg_lt _ _
      by_cases hlk : lx = k
      · have hq1 : ((lx : Int) == (k : Int)) = true := by simp [hlk]
        have hpe : Hid (pE nw x = 16 * lx + fx) := ⟨by unfold pE; rw [plc_near (by rw [hlx.out]; omega), hlx.out, hfx.out]⟩
        by_cases hfq : fx = q
        · have hq2 : ((fx : Int) == (q : Int)) = true := by simp [hfq]
          have hN2 : Hid (N ++ [x] = atP nw (L.take (j + 1)) (16 * k + q)) := ⟨by rw [hNe.out]; exact atP_more hx.out (by rw [hpe.out]; omega)⟩
          have hg1 := World.grownBy_alloc wp (.cells #[.string x.n, .int .u64 x.at_] 45) none
          obtain ⟨oa', oc', w2, hrun, hr2, hg2, ho2⟩ := run_append_ref (wp.alloc (.cells #[.string x.n, .int .u64 x.at_] 45)) (.slice oa N.length oc) N x wp.heap.size ⟨by simp, by simp⟩ (World.ownsRow.kept hR1.out.1 hg1 (Classical.em _)) hNl 27
          have hR2 : Hid (Rw 45 w2 (.slice oa' (N ++ [x]).length oc') (N ++ [x]) ∧ w.grownBy w2 none ∧ ∀ j, (Value.slice oa' (N ++ [x]).length oc').ownBlock = some j → w.heap.size ≤ j) := by
            have hlen : (N ++ [x]).length = N.length + 1 := by simp
            have hw := hR1.out.2.1.size
            rw [hlen]
            refine ⟨hr2, ?_, fun j hj => ?_⟩
            · have h3 := grown_none hR1.out.2.1 hg1
              exact h3.andThen hg2 fun j hj => .inl (hR1.out.2.2 j hj)
            · rcases ho2 with ho | ⟨i, hi, hil⟩
              · exact hR1.out.2.2 j (by rw [← ho]; exact hj)
              · rw [hi] at hj; cases hj; simp at hil; omega
          clear hlk hfq hR hNe hr2 ho2
          replace hg2 : Hid _ := ⟨hg2⟩
          go_wp2_with (at_builtin; refine wpList_append_run rfl _ _ 27 rfl _ _ rfl rfl hrun ?_)
          refine (rfigure_e x.at_ lx _ hxo (by omega) hfx).mono ?_
          rintro r w1 ⟨rfl, rfl⟩
          go_wp2_with (at_builtin; refine wpList_append_run rfl _ _ 27 rfl _ _ rfl rfl hrun ?_)
          go_roundw
          case rel => exact ⟨j + 1, oa', oc', N ++ [x], by omega, by simp, by go_num, hN2, hR2⟩
          case measure => simp [intOf]; omega
        · have hq2 : ((fx : Int) == (q : Int)) = false := by simp; omega
          have hN2 : Hid (N = atP nw (L.take (j + 1)) (16 * k + q)) := ⟨by rw [hNe.out]; exact atP_skip hx.out (by rw [hpe.out]; omega)⟩
          clear hlk hfq hR hNe
          go_wp2_with fail
          refine (rfigure_e x.at_ lx _ hxo (by omega) hfx).mono ?_
          rintro r w1 ⟨rfl, rfl⟩
          go_wp2_with fail
          go_roundw
          case rel => exact ⟨j + 1, oa, oc, N, by omega, rfl, by go_num, hN2, hR1⟩
          case measure => simp [intOf]; omega
      · have hq1 : ((lx : Int) == (k : Int)) = false := by simp; omega
        have hpe : Hid (pE nw x = if lx < 4 then 16 * lx + fx else 64) := ⟨by
          unfold pE
          split
          · rw [plc_near (by rw [hlx.out]; omega), hlx.out, hfx.out]
          · rw [plc_far (by rw [hlx.out]; omega)]⟩
        have hN2 : Hid (N = atP nw (L.take (j + 1)) (16 * k + q)) := ⟨by rw [hNe.out]; exact atP_skip hx.out (by rw [hpe.out]; split <;> omega)⟩
        clear hR hNe
        go_wp2_with fail
        go_roundw
        case rel => exact ⟨j + 1, oa, oc, N, by omega, rfl, by go_num, hN2, hR1⟩
        case measure => simp [intOf]; omega

    · have hd : decide ((j : Int) < L.length) = false := by simp; omega
      have hMe2 : Hid (N = M) := ⟨by rw [hNe.out, List.take_of_length_le (by omega), hM.out]⟩
      go_wp2_with fail
      go_ret
      rw [← hMe2.out]
      exact ⟨_, _, rfl, hR.out⟩
end Go.Proofs.Ytlljfgpmjpmoiaa
