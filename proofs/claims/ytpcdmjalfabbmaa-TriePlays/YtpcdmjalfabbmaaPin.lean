/- partialInsertionSort of bytes: the same bytes, and where it says true they are in order. -/
import Derived.Test.YtpcdmjalfabbmaaPeq
namespace Go.Proofs.Ytpcdmjalfabbmaa
open Go.RowKit Go.Shelf Go.IntWalk Go.Maps
set_option linter.unusedVariables false
/-- None of those at a to b lies below the one ahead of them. -/
def Low (es : List UInt8) (a b : Nat) : Prop := 0 < a → ∀ k x z, a ≤ k → k < b → es[k]? = some x → es[a - 1]? = some z → z.toNat ≤ x.toNat
theorem take_eq {es fs : List UInt8} {a : Nat} (h : ∀ k, k < a → fs[k]? = es[k]?) : fs.take a = es.take a := by
  apply List.ext_getElem?
  intro k
  rw [List.getElem?_take, List.getElem?_take]
  split
  · exact h k (by assumption)
  · rfl
theorem drop_eq {es fs : List UInt8} {b : Nat} (h : ∀ k, b ≤ k → fs[k]? = es[k]?) : fs.drop b = es.drop b := by
  apply List.ext_getElem?
  intro k
  rw [List.getElem?_drop, List.getElem?_drop]
  exact h _ (by omega)
theorem Pm.seg {es fs : List UInt8} {a b : Nat} (h : Pm a b es fs) (hab : a ≤ b) {k : Nat} {x : UInt8} (h1 : a ≤ k) (h2 : k < b) (hx : fs[k]? = some x) : ∃ k', a ≤ k' ∧ k' < b ∧ es[k']? = some x := by
  have e1 := take_eq fun k hk => h.out k (.inl hk)
  have e2 := drop_eq fun k hk => h.out k (.inr hk)
  have sp : ∀ l : List UInt8, l = l.take a ++ ((l.drop a).take (b - a) ++ l.drop b) := fun l => by
    have : l.drop b = (l.drop a).drop (b - a) := by rw [List.drop_drop]; congr 1; omega
    rw [this, List.take_append_drop, List.take_append_drop]
  have hp := h.perm
  rw [sp fs, sp es, e1, e2] at hp
  have hp2 := (List.perm_append_right_iff _).1 ((List.perm_append_left_iff _).1 hp)
  have hm : x ∈ (fs.drop a).take (b - a) := List.mem_of_getElem? (i := k - a) (by
    rw [List.getElem?_take, if_pos (by omega), List.getElem?_drop]
    rw [show a + (k - a) = k by omega]
    exact hx)
  obtain ⟨i, hi⟩ := List.mem_iff_getElem?.1 (hp2.mem_iff.1 hm)
  rw [List.getElem?_take] at hi
  split at hi
  · rw [List.getElem?_drop] at hi
    exact ⟨a + i, by omega, by omega, hi⟩
  · cases hi
theorem Low.pm {es fs : List UInt8} {a b : Nat} (h : Low es a b) (hab : a ≤ b) (hp : Pm a b es fs) : Low fs a b := fun h0 k x z h1 h2 hx hz => by
  obtain ⟨k', h3, h4, h5⟩ := hp.seg hab h1 h2 hx
  rw [hp.out _ (.inl (by omega))] at hz
  exact h h0 k' x z h3 h4 h5 hz
theorem Sd.next {fs : List UInt8} {a i : Nat} {x y : UInt8} (h : Sd fs a i) (hai : a < i) (hx : fs[i - 1]? = some x) (hy : fs[i]? = some y) (hxy : x.toNat ≤ y.toNat) : Sd fs a (i + 1) := fun p q u v h1 h2 h3 h5 h6 => by
  by_cases e : q = i
  · subst e
    rw [hy] at h6
    cases h6
    by_cases e2 : p = q - 1
    · subst e2
      rw [hx] at h5
      cases h5
      exact hxy
    · have := h p (q - 1) u x h1 (by omega) (by omega) h5 hx
      omega
  · exact h p q u v h1 h2 (by omega) h5 h6
theorem Sd.one (fs : List UInt8) (a : Nat) : Sd fs a (a + 1) := fun p q x y h1 h2 h3 => by omega
theorem Sd.keep {fs gs : List UInt8} {a i : Nat} (h : Sd fs a i) (e : ∀ k, k < i → gs[k]? = fs[k]?) : Sd gs a i := fun p q x y h1 h2 h3 h5 h6 => h p q x y h1 h2 h3 (by rw [← e p (by omega)]; exact h5) (by rw [← e q h3]; exact h6)
set_option maxRecDepth 100000 in
set_option maxHeartbeats 8000000 in
theorem partial_b (w : World) {base : Nat} {v : Value} {es : List UInt8} (h : Br w base v es) (hl : es.length ≤ 256) (a b : Nat) (hab : a + 12 < b) (hb : b ≤ es.length) (hlow : Low es a b) :
    Calls Try.prog 61 #[v, .int .i64 a, .int .i64 b] w fun r w' => ∃ (d : Bool) (es' : List UInt8), r = .returned (.bool d) ∧ Br w' base v es' ∧ Pm a b es es' ∧ (d = true → Sd es' a b) ∧ w.grownBy w' v.ownBlock := by
  obtain ⟨ad, cap, rfl⟩ := h.shape
  obtain ⟨x, hx⟩ := some8 (es := es) (k := a) (by omega)
  obtain ⟨g, rfl, hgl1, -, -, -⟩ := h.at hx
  have hst : Hid (Br w base (.slice (some ⟨g, 0, none⟩) es.length cap) es ∧ Pm a b es es ∧ Sd es a (a + 1) ∧ w.grownBy w (some g)) := ⟨h, Pm.refl _ _ _, Sd.one _ _, (grown_refl w).but _⟩
  have ha6 : a ≤ 256 := by omega
  have hb6 : b ≤ 256 := by omega
  replace hlow : Hid _ := ⟨hlow⟩
  clear hx h
  go_enter Try.func61, Try.ntmps61
  go_wp2_with fail
  go_loopw [7, 8] (fun u v wr => ∃ (i c : Nat) (fs : List UInt8), u = .int .i64 i ∧ v = .int .i64 c ∧ a + 1 ≤ i ∧ i ≤ b ∧ c ≤ 5 ∧ Hid (Br wr base (.slice (some ⟨g, 0, none⟩) es.length cap) fs ∧ Pm a b es fs ∧ Sd fs a i ∧ w.grownBy wr (some g)))
    (fun u v _ => 5 - (intOf v).toNat)
  case atStart => exact ⟨a + 1, 0, _, by go_num, rfl, by omega, by omega, by omega, hst⟩
  case round =>
    clear hst
    obtain ⟨i0, c, fs, rfl, rfl, hai0, hib0, hc5, hst⟩ := hrel
    by_cases hc : c < 5
    · have hcd : (c : Int) < 5 := by omega
      have hfl := hst.out.2.1.len
      go_upto_block 2 with fail
      go_cut [7] from 13 to 132 (fun s wx => ∃ i : Nat, s = .int .i64 i ∧ a + 1 ≤ i ∧ i ≤ b ∧ Hid (Br wx base (.slice (some ⟨g, 0, none⟩) es.length cap) fs ∧ Pm a b es fs ∧ Sd fs a i ∧ w.grownBy wx (some g)))
      case first =>
        go_wp2_with fail
        go_loopw [7] (fun s wr => ∃ i : Nat, s = .int .i64 i ∧ a + 1 ≤ i ∧ i ≤ b ∧ Hid (Br wr base (.slice (some ⟨g, 0, none⟩) es.length cap) fs ∧ Pm a b es fs ∧ Sd fs a i ∧ w.grownBy wr (some g)))
          (fun s _ => 300 - (intOf s).toNat)
        case atStart => exact ⟨i0, rfl, hai0, hib0, hst⟩
        case round =>
          clear hst
          obtain ⟨i, rfl, hai, hib, hR⟩ := hrel
          obtain ⟨hB, hP, hS, hG⟩ := hR.out
          haveI := lat_nonempty wr
          by_cases hlt : i < b
          · have hd2 : (i : Int) < b := by omega
            obtain ⟨x, hx⟩ := some8 (es := fs) (k := i - 1) (by omega)
            obtain ⟨y, hy⟩ := some8 (es := fs) (k := i) (by omega)
            obtain ⟨_, e1, -, -, k1, f1⟩ := hB.at hx
            cases e1
            obtain ⟨_, e1, -, -, k2, -⟩ := hB.at hy
            cases e1
            obtain ⟨i1, hi1⟩ : ∃ i1, Hid (i1 = i - 1) := ⟨_, ⟨rfl⟩⟩
            have hi1' := hi1.out
            have e5 : (i : Int) - 1 = (i1 : Nat) := by omega
            rw [← hi1'] at k1
            have kk1 := lat_cell k1
            have kk2 := lat_cell k2
            have hil : i < es.length := by omega
            have hil1 : i1 < es.length := by omega
            have hi6 : i ≤ 256 := by omega
            by_cases hyx : y < x
            · have hdx : decide (y < x) = true := by simpa using hyx
              have ka := fun q : Lat wr => lat_less q y x hdx
              replace hB : Hid _ := ⟨hB⟩
              replace hP : Hid _ := ⟨hP⟩
              replace hS : Hid _ := ⟨hS⟩
              replace hG : Hid _ := ⟨hG⟩
              clear hR hx hy hfl hi1'
              go_wp2_with fail
              refine wp_region_lat (by kernel_rfl) (by kernel_rfl) ?_
              repeat (go_big_quiet_step (fail))
              go_big_quiet_step ((go_at_call 62; exact ka _))
              repeat (go_big_quiet_step (fail))
              refine wpQuiet_nil ?_
              intro _ hw'
              obtain ⟨x0, hw''⟩ := hw'
              subst hw''
              have hst : Hid (Br x0.W base (.slice (some ⟨g, 0, none⟩) es.length cap) fs ∧ Pm a b es fs ∧ Sd fs a i ∧ w.grownBy x0.W (some g)) := ⟨hB.out.keep0 x0.h, hP.out, hS.out, grown_add hG.out x0.h⟩
              go_wp2_with fail
              go_meet
              case rel => exact ⟨i, rfl, hai, hib, hst⟩
            · have hdx : decide (y < x) = false := by simpa using hyx
              have ka := fun q : Lat wr => lat_less q y x hdx
              have hS2 := hS.next (by omega) hx hy (by rw [UInt8.lt_iff_toNat_lt] at hyx; omega)
              replace hB : Hid _ := ⟨hB⟩
              replace hP : Hid _ := ⟨hP⟩
              replace hS2 : Hid _ := ⟨hS2⟩
              replace hG : Hid _ := ⟨hG⟩
              clear hR hx hy hfl hi1' hS
              go_wp2_with fail
              refine wp_region_lat (by kernel_rfl) (by kernel_rfl) ?_
              repeat (go_big_quiet_step (fail))
              go_big_quiet_step ((go_at_call 62; exact ka _))
              repeat (go_big_quiet_step (fail))
              refine wpQuiet_nil ?_
              intro _ hw'
              obtain ⟨x0, hw''⟩ := hw'
              subst hw''
              have hst : Hid (Br x0.W base (.slice (some ⟨g, 0, none⟩) es.length cap) fs ∧ Pm a b es fs ∧ Sd fs a (i + 1) ∧ w.grownBy x0.W (some g)) := ⟨hB.out.keep0 x0.h, hP.out, hS2.out, grown_add hG.out x0.h⟩
              go_wp2_with fail
              exact ⟨⟨i + 1, by go_num, by omega, by omega, hst⟩, by simp [intOf]; omega⟩
          · have hd2 : decide ((i : Int) < b) = false := by simp; omega
            have hd3 : decide (i < b) = false := by simp; omega
            replace hB : Hid _ := ⟨hB⟩
            replace hP : Hid _ := ⟨hP⟩
            replace hS : Hid _ := ⟨hS⟩
            replace hG : Hid _ := ⟨hG⟩
            clear hR hfl
            go_wp2_with fail
            refine wp_region_lat (by kernel_rfl) (by kernel_rfl) ?_
            repeat (go_big_quiet_step (fail))
            refine wpQuiet_nil ?_
            intro _ hw'
            obtain ⟨x0, hw''⟩ := hw'
            subst hw''
            have hst : Hid (Br x0.W base (.slice (some ⟨g, 0, none⟩) es.length cap) fs ∧ Pm a b es fs ∧ Sd fs a i ∧ w.grownBy x0.W (some g)) := ⟨hB.out.keep0 x0.h, hP.out, hS.out, grown_add hG.out x0.h⟩
            go_wp2_with fail
            go_meet
            case rel => exact ⟨i, rfl, hai, hib, hst⟩
      case rest =>
        obtain ⟨i, rfl, hai, hib, hst2⟩ := hcut
        obtain ⟨hB, hP, hS, hG⟩ := hst2.out
        have hab' : ((b : Int) - a) = ((b - a : Nat) : Int) := by omega
        by_cases hie : i = b
        · subst hie
          have hfin : Hid (Br wc base (.slice (some ⟨g, 0, none⟩) es.length cap) fs ∧ Pm a i es fs ∧ Sd fs a i ∧ w.grownBy wc (some g)) := ⟨hB, hP, hS, hG⟩
          clear hst2 hB hP hS hG hst
          go_wp2_with fail
          go_ret
          exact ⟨true, fs, rfl, hfin.out.1, hfin.out.2.1, fun _ => hfin.out.2.2.1, hfin.out.2.2.2⟩
        · have hie1 : ((i : Int) == b) = false := by simp; omega
          by_cases h50 : b - a < 50
          · have h51 : (b : Int) - a < 50 := by omega
            have hfin : Hid (Br wc base (.slice (some ⟨g, 0, none⟩) es.length cap) fs ∧ Pm a b es fs ∧ w.grownBy wc (some g)) := ⟨hB, hP, hG⟩
            clear hst2 hB hP hS hG hst hie
            go_wp2_with fail
            go_ret
            exact ⟨false, fs, rfl, hfin.out.1, hfin.out.2.1, (fun e => by cases e), hfin.out.2.2⟩
          · have h51 : decide ((b : Int) - a < 50) = false := by simp; omega
            obtain ⟨i1, hi1⟩ : ∃ i1, i1 = i - 1 := ⟨_, rfl⟩
            have e5 : (i : Int) - 1 = (i1 : Nat) := by omega
            obtain ⟨x, hx⟩ := some8 (es := fs) (k := i) (by omega)
            obtain ⟨y, hy⟩ := some8 (es := fs) (k := i1) (by omega)
            obtain ⟨_, e1, -, -, k1, f1⟩ := hB.at hx
            cases e1
            obtain ⟨_, e1, -, -, k2, -⟩ := hB.at hy
            cases e1
            obtain ⟨s1, s2⟩ := hB.swap hx hy
            have s3 := hP.trans (sw_pm hx hy (by omega) (by omega) (by omega) (by omega))
            have hSj : Sj (sw fs i i1 x y) a i i1 := fun p q u v h1 h2 h3 h4 h5 h6 => by
              rw [sw_at hx hy, if_neg (by omega), if_neg (by omega)] at h5 h6
              exact hS p q u v h1 h2 h3 h5 h6
            have hil : i < es.length := by omega
            have hil1 : i1 < es.length := by omega
            have hi6 : i ≤ 256 := by omega
            have hne : i ≠ i1 := by omega
            have hai1 : a ≤ i1 ∧ i1 + 1 = i := by omega
            obtain ⟨gs, hgs⟩ : ∃ gs, sw fs i i1 x y = gs := ⟨_, rfl⟩
            rw [hgs] at s1 s3 hSj
            have hst : Hid (Br (World.drew (World.setCell (World.setCell wc ⟨g, i, none⟩ (u8 y)) ⟨g, i1, none⟩ (u8 x))) base (.slice (some ⟨g, 0, none⟩) es.length cap) gs ∧ Pm a b es gs ∧ Sj gs a i i1 ∧ w.grownBy (World.drew (World.setCell (World.setCell wc ⟨g, i, none⟩ (u8 y)) ⟨g, i1, none⟩ (u8 x))) (some g)) := ⟨s1, s3, hSj, hG.trans s2⟩
            clear hst2 hx hy hB hP hS hG s1 s2 s3 hSj hgs hfl hi1 hab' h50
            go_wp2_with fail
            go_region
            generalize (World.drew (World.setCell (World.setCell wc ⟨g, i, none⟩ (u8 y)) ⟨g, i1, none⟩ (u8 x))) = wA at *
            clear k1 k2 f1
            go_upto_if 61 with fail
            go_cut [9] from 13 to 132 (fun s wx => ∃ hs : List UInt8, Hid (Br wx base (.slice (some ⟨g, 0, none⟩) es.length cap) hs ∧ Pm a b es hs ∧ Sd hs a i ∧ w.grownBy wx (some g)))
            case first =>
              by_cases h2 : i = a + 1
              · have h3 : decide ((2 : Int) ≤ (i : Int) - a) = false := by simp; omega
                have h4 : i1 = a := by omega
                have hst2 : Hid (Br wA base (.slice (some ⟨g, 0, none⟩) es.length cap) gs ∧ Pm a b es gs ∧ Sd gs a i ∧ w.grownBy wA (some g)) := ⟨hst.out.1, hst.out.2.1, by rw [h2]; exact Sd.one _ _, hst.out.2.2.2⟩
                clear hst h4
                go_wp2_with fail
                go_meet
                case rel => exact ⟨gs, hst2⟩
              · have h3 : (2 : Int) ≤ (i : Int) - a := by omega
                go_wp2_with fail
                go_loopw [9] (fun s wr => ∃ (j : Nat) (hs : List UInt8), s = .int .i64 j ∧ a ≤ j ∧ j ≤ i1 ∧ Hid (Br wr base (.slice (some ⟨g, 0, none⟩) es.length cap) hs ∧ Pm a b es hs ∧ Sj hs a i j ∧ w.grownBy wr (some g)))
                  (fun s _ => (intOf s).toNat)
                case atStart => exact ⟨i1, gs, rfl, hai1.1, Nat.le_refl _, hst⟩
                case round =>
                  clear hst
                  obtain ⟨j, hs, rfl, haj, hji, hR⟩ := hrel
                  obtain ⟨hB, hP, hS, hG⟩ := hR.out
                  have hgl := hP.len
                  haveI := lat_nonempty wr
                  have hS' : Sj hs a (i1 + 1) j := by rw [hai1.2]; exact hS
                  by_cases hj0 : j = 0
                  · have hd0 : decide ((1 : Int) ≤ j) = false := by simp; omega
                    have hSd : Sd hs a i := by
                      have ha0 : j = a := by omega
                      rw [ha0] at hS'
                      rw [← hai1.2]
                      exact hS'.done0
                    have hst2 : Hid (Br wr base (.slice (some ⟨g, 0, none⟩) es.length cap) hs ∧ Pm a b es hs ∧ Sd hs a i ∧ w.grownBy wr (some g)) := ⟨hB, hP, hSd, hG⟩
                    clear hR hB hP hS hS' hG hSd hgl hj0
                    go_wp2_with fail
                    go_meet
                    case rel => exact ⟨hs, hst2⟩
                  · have hd0 : (1 : Int) ≤ j := by omega
                    obtain ⟨j1, hj1⟩ : ∃ j1, Hid (j1 = j - 1) := ⟨_, ⟨rfl⟩⟩
                    have hj1' := hj1.out
                    have e6 : (j : Int) - 1 = (j1 : Nat) := by omega
                    obtain ⟨y, hy⟩ := some8 (es := hs) (k := j) (by omega)
                    obtain ⟨x, hx⟩ := some8 (es := hs) (k := j1) (by omega)
                    obtain ⟨_, e1, -, -, k1, f1⟩ := hB.at hx
                    cases e1
                    obtain ⟨_, e1, -, -, k2, -⟩ := hB.at hy
                    cases e1
                    have kk1 := lat_cell k1
                    have kk2 := lat_cell k2
                    have hjl : j < es.length := by omega
                    have hjl1 : j1 < es.length := by omega
                    have hj6 : j ≤ 256 := by omega
                    by_cases hyx : y < x
                    · have hdx : decide (y < x) = true := by simpa using hyx
                      have ka := fun q : Lat wr => lat_less q y x hdx
                      have hyx' : y.toNat < x.toNat := by rw [UInt8.lt_iff_toNat_lt] at hyx; exact hyx
                      have haj2 : a < j := by
                        rcases Nat.lt_or_eq_of_le haj with e | e
                        · exact e
                        · exfalso
                          have := hlow.out.pm (by omega) hP (by omega) j y x haj (by omega) hy (by rw [e, ← hj1']; exact hx)
                          omega
                      have hS2 := hS'.step haj2 hji (by rw [← hj1']; exact hx) hy hyx'
                      rw [hai1.2, ← hj1'] at hS2
                      have hP2 := hP.trans (sw_pm hy hx (by omega) (by omega) (by omega) (by omega))
                      replace hB : Hid _ := ⟨hB⟩
                      replace hP2 : Hid _ := ⟨hP2⟩
                      replace hS2 : Hid _ := ⟨hS2⟩
                      replace hG : Hid _ := ⟨hG⟩
                      replace hx : Hid _ := ⟨hx⟩
                      replace hy : Hid _ := ⟨hy⟩
                      have hjj : j ≠ j1 := by omega
                      clear hR hP hS hS' hgl hj1' hyx'
                      go_wp2_with fail
                      refine wp_region_lat (by kernel_rfl) (by kernel_rfl) ?_
                      repeat (go_big_quiet_step (fail))
                      go_big_quiet_step ((go_at_call 62; exact ka _))
                      repeat (go_big_quiet_step (fail))
                      refine wpQuiet_nil ?_
                      intro _ hw'
                      obtain ⟨x0, hw''⟩ := hw'
                      subst hw''
                      have hp := x0.h
                      have hBp := hB.out.keep0 hp
                      have hGp := grown_add hG.out hp
                      generalize x0.W = w5 at *
                      have k1 := grown_cell hp k1
                      have k2 := grown_cell hp k2
                      have f1 : ∀ k, w5.frozen? ⟨g, k, none⟩ = false := fun k => (hBp.at hx.out).elim fun _ h => by obtain ⟨e, _, _, _, h5⟩ := h; cases e; exact h5 k
                      obtain ⟨s1, s2⟩ := hBp.swap hy.out hx.out
                      have hst2 : Hid (Br (World.drew (World.setCell (World.setCell w5 ⟨g, j, none⟩ (u8 x)) ⟨g, j1, none⟩ (u8 y))) base (.slice (some ⟨g, 0, none⟩) es.length cap) (sw hs j j1 y x) ∧ Pm a b es (sw hs j j1 y x) ∧ Sj (sw hs j j1 y x) a i j1 ∧ w.grownBy (World.drew (World.setCell (World.setCell w5 ⟨g, j, none⟩ (u8 x)) ⟨g, j1, none⟩ (u8 y))) (some g)) := ⟨s1, hP2.out, hS2.out, hGp.trans s2⟩
                      clear kk1 kk2 hp hBp hGp s1 s2
                      go_wp2_with fail
                      go_region
                      go_wp2_with fail
                      exact ⟨⟨j1, _, by first | rfl | (simp; omega), by have := hj1.out; omega, by have := hj1.out; omega, hst2⟩, by have := hj1.out; simp [intOf]; omega⟩
                    · have hdx : decide (y < x) = false := by simpa using hyx
                      have ka := fun q : Lat wr => lat_less q y x hdx
                      have hSd : Sd hs a i := by
                        rw [← hai1.2]
                        rcases Nat.lt_or_eq_of_le haj with e | e
                        · exact hS'.done e hji (by rw [← hj1']; exact hx) hy (by rw [UInt8.lt_iff_toNat_lt] at hyx; omega)
                        · rw [← e] at hS'
                          exact hS'.done0
                      replace hB : Hid _ := ⟨hB⟩
                      replace hP : Hid _ := ⟨hP⟩
                      replace hSd : Hid _ := ⟨hSd⟩
                      replace hG : Hid _ := ⟨hG⟩
                      clear hR hS hS' hgl hj1' hx hy
                      go_wp2_with fail
                      refine wp_region_lat (by kernel_rfl) (by kernel_rfl) ?_
                      repeat (go_big_quiet_step (fail))
                      go_big_quiet_step ((go_at_call 62; exact ka _))
                      repeat (go_big_quiet_step (fail))
                      refine wpQuiet_nil ?_
                      intro _ hw'
                      obtain ⟨x0, hw''⟩ := hw'
                      subst hw''
                      have hst2 : Hid (Br x0.W base (.slice (some ⟨g, 0, none⟩) es.length cap) hs ∧ Pm a b es hs ∧ Sd hs a i ∧ w.grownBy x0.W (some g)) := ⟨hB.out.keep0 x0.h, hP.out, hSd.out, grown_add hG.out x0.h⟩
                      go_wp2_with fail
                      go_meet
                      case rel => exact ⟨hs, hst2⟩
            case rest =>
              obtain ⟨hs, hst3⟩ := hcut
              by_cases h2 : 2 ≤ b - i
              · have h3 : (2 : Int) ≤ (b : Int) - i := by omega
                go_wp2_with fail
                go_loopw [10] (fun s wr => ∃ (j : Nat) (hs : List UInt8), s = .int .i64 j ∧ i + 1 ≤ j ∧ j ≤ b ∧ Hid (Br wr base (.slice (some ⟨g, 0, none⟩) es.length cap) hs ∧ Pm a b es hs ∧ Sd hs a i ∧ w.grownBy wr (some g)))
                  (fun s _ => 300 - (intOf s).toNat)
                case atStart => exact ⟨i + 1, hs, by go_num, by omega, by omega, hst3⟩
                case round =>
                  clear hst3
                  obtain ⟨j, hs, rfl, haj, hji, hR⟩ := hrel
                  obtain ⟨hB, hP, hS, hG⟩ := hR.out
                  have hgl := hP.len
                  haveI := lat_nonempty wr
                  by_cases hjb : j < b
                  · have hd0 : (j : Int) < b := by omega
                    obtain ⟨j1, hj1⟩ : ∃ j1, Hid (j1 = j - 1) := ⟨_, ⟨rfl⟩⟩
                    have hj1' := hj1.out
                    have e6 : (j : Int) - 1 = (j1 : Nat) := by omega
                    obtain ⟨y, hy⟩ := some8 (es := hs) (k := j) (by omega)
                    obtain ⟨x, hx⟩ := some8 (es := hs) (k := j1) (by omega)
                    obtain ⟨_, e1, -, -, k1, f1⟩ := hB.at hx
                    cases e1
                    obtain ⟨_, e1, -, -, k2, -⟩ := hB.at hy
                    cases e1
                    have kk1 := lat_cell k1
                    have kk2 := lat_cell k2
                    have hjl : j < es.length := by omega
                    have hjl1 : j1 < es.length := by omega
                    have hj6 : j ≤ 256 := by omega
                    by_cases hyx : y < x
                    · have hdx : decide (y < x) = true := by simpa using hyx
                      have ka := fun q : Lat wr => lat_less q y x hdx
                      have hS2 : Sd (sw hs j j1 y x) a i := hS.keep fun k hk => by rw [sw_at hy hx, if_neg (by omega), if_neg (by omega)]
                      have hP2 := hP.trans (sw_pm hy hx (by omega) (by omega) (by omega) (by omega))
                      replace hB : Hid _ := ⟨hB⟩
                      replace hP2 : Hid _ := ⟨hP2⟩
                      replace hS2 : Hid _ := ⟨hS2⟩
                      replace hG : Hid _ := ⟨hG⟩
                      replace hx : Hid _ := ⟨hx⟩
                      replace hy : Hid _ := ⟨hy⟩
                      have hjj : j ≠ j1 := by omega
                      clear hR hP hS hgl hj1'
                      go_wp2_with fail
                      refine wp_region_lat (by kernel_rfl) (by kernel_rfl) ?_
                      repeat (go_big_quiet_step (fail))
                      go_big_quiet_step ((go_at_call 62; exact ka _))
                      repeat (go_big_quiet_step (fail))
                      refine wpQuiet_nil ?_
                      intro _ hw'
                      obtain ⟨x0, hw''⟩ := hw'
                      subst hw''
                      have hp := x0.h
                      have hBp := hB.out.keep0 hp
                      have hGp := grown_add hG.out hp
                      generalize x0.W = w5 at *
                      have k1 := grown_cell hp k1
                      have k2 := grown_cell hp k2
                      have f1 : ∀ k, w5.frozen? ⟨g, k, none⟩ = false := fun k => (hBp.at hx.out).elim fun _ h => by obtain ⟨e, _, _, _, h5⟩ := h; cases e; exact h5 k
                      obtain ⟨s1, s2⟩ := hBp.swap hy.out hx.out
                      have hst2 : Hid (Br (World.drew (World.setCell (World.setCell w5 ⟨g, j, none⟩ (u8 x)) ⟨g, j1, none⟩ (u8 y))) base (.slice (some ⟨g, 0, none⟩) es.length cap) (sw hs j j1 y x) ∧ Pm a b es (sw hs j j1 y x) ∧ Sd (sw hs j j1 y x) a i ∧ w.grownBy (World.drew (World.setCell (World.setCell w5 ⟨g, j, none⟩ (u8 x)) ⟨g, j1, none⟩ (u8 y))) (some g)) := ⟨s1, hP2.out, hS2.out, hGp.trans s2⟩
                      clear kk1 kk2 hp hBp hGp s1 s2
                      go_wp2_with fail
                      go_region
                      go_wp2_with fail
                      exact ⟨⟨j + 1, _, by go_num, by omega, by omega, hst2⟩, by simp [intOf]; omega⟩
                    · have hdx : decide (y < x) = false := by simpa using hyx
                      have ka := fun q : Lat wr => lat_less q y x hdx
                      replace hB : Hid _ := ⟨hB⟩
                      replace hP : Hid _ := ⟨hP⟩
                      replace hS : Hid _ := ⟨hS⟩
                      replace hG : Hid _ := ⟨hG⟩
                      clear hR hgl hj1' hx hy
                      go_wp2_with fail
                      refine wp_region_lat (by kernel_rfl) (by kernel_rfl) ?_
                      repeat (go_big_quiet_step (fail))
                      go_big_quiet_step ((go_at_call 62; exact ka _))
                      repeat (go_big_quiet_step (fail))
                      refine wpQuiet_nil ?_
                      intro _ hw'
                      obtain ⟨x0, hw''⟩ := hw'
                      subst hw''
                      have hst2 : Hid (Br x0.W base (.slice (some ⟨g, 0, none⟩) es.length cap) hs ∧ Pm a b es hs ∧ Sd hs a i ∧ w.grownBy x0.W (some g)) := ⟨hB.out.keep0 x0.h, hP.out, hS.out, grown_add hG.out x0.h⟩
                      go_wp2_with fail
                      exact ⟨⟨i, c + 1, hs, rfl, by go_num, by omega, by omega, by omega, hst2⟩, by simp [intOf]; omega⟩
                  · have hd0 : decide ((j : Int) < b) = false := by simp; omega
                    have hst2 : Hid (Br wr base (.slice (some ⟨g, 0, none⟩) es.length cap) hs ∧ Pm a b es hs ∧ Sd hs a i ∧ w.grownBy wr (some g)) := ⟨hB, hP, hS, hG⟩
                    clear hR hB hP hS hG hgl
                    go_wp2_with fail
                    exact ⟨⟨i, c + 1, hs, rfl, by go_num, by omega, by omega, by omega, hst2⟩, by simp [intOf]; omega⟩
              · have h3 : decide ((2 : Int) ≤ (b : Int) - i) = false := by simp; omega
                go_wp2_with fail
                exact ⟨⟨i, c + 1, hs, rfl, by go_num, by omega, by omega, by omega, hst3⟩, by simp [intOf]; omega⟩
    · have hcd : decide ((c : Int) < 5) = false := by simp; omega
      go_wp2_with fail
      go_ret
      exact ⟨false, fs, rfl, hst.out.1, hst.out.2.1, (fun e => by cases e), hst.out.2.2.2⟩
end Go.Proofs.Ytpcdmjalfabbmaa
