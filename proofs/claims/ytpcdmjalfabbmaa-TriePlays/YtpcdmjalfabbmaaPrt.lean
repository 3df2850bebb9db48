/- partition of bytes: what lies ahead, what lies behind. -/
import Derived.Test.YtpcdmjalfabbmaaBrk
import Derived.Deep.CutRange
import Derived.Deep.CutBlock
namespace Go.Proofs.Ytpcdmjalfabbmaa
open Go.RowKit Go.Shelf Go.IntWalk Go.Maps
set_option linter.unusedVariables false
/-- Between i and j nothing is known; ahead of i they lie below the pivot, behind j they don't. -/
structure Pq (es fs : List UInt8) (a b : Nat) (pv : UInt8) (i j : Nat) : Prop where
  pm : Pm a b es fs
  ai : a + 1 ≤ i
  ij : i ≤ j + 1
  jb : j < b
  lo : ∀ k x, a < k → k < i → fs[k]? = some x → x.toNat < pv.toNat
  up : ∀ k x, j < k → k < b → fs[k]? = some x → pv.toNat ≤ x.toNat
  at_ : fs[a]? = some pv
section
variable {es fs : List UInt8} {a b i j : Nat} {pv x y : UInt8}
theorem Pq.incr (h : Pq es fs a b pv i j) (hij : i ≤ j) (hx : fs[i]? = some x) (hl : x.toNat < pv.toNat) : Pq es fs a b pv (i + 1) j :=
  ⟨h.pm, by have := h.ai; omega, by omega, h.jb, fun k z h1 h2 h3 => by
    by_cases e : k = i
    · subst e; rw [hx] at h3; cases h3; exact hl
    · exact h.lo k z h1 (by omega) h3, h.up, h.at_⟩
theorem Pq.decr (h : Pq es fs a b pv i j) (hij : i ≤ j) (hy : fs[j]? = some y) (hl : pv.toNat ≤ y.toNat) : Pq es fs a b pv i (j - 1) :=
  ⟨h.pm, h.ai, by have := h.ai; omega, by have := h.jb; omega, h.lo, fun k z h1 h2 h3 => by
    by_cases e : k = j
    · subst e; rw [hy] at h3; cases h3; exact hl
    · exact h.up k z (by omega) h2 h3, h.at_⟩
theorem Pq.swap (h : Pq es fs a b pv i j) (hij : i < j) (hx : fs[i]? = some x) (hy : fs[j]? = some y) (h1 : pv.toNat ≤ x.toNat) (h2 : y.toNat < pv.toNat) : Pq es (sw fs i j x y) a b pv (i + 1) (j - 1) := by
  have hai := h.ai
  have hjb := h.jb
  refine ⟨h.pm.trans (sw_pm hx hy (by omega) (by omega) (by omega) hjb), by omega, by omega, by omega, fun k z k1 k2 k3 => ?_, fun k z k1 k2 k3 => ?_, ?_⟩
  · rw [sw_at hx hy, if_neg (by omega)] at k3
    by_cases e : k = i
    · rw [if_pos e] at k3; cases k3; exact h2
    · rw [if_neg e] at k3; exact h.lo k z k1 (by omega) k3
  · rw [sw_at hx hy] at k3
    by_cases e : k = j
    · rw [if_pos e] at k3; cases k3; exact h1
    · rw [if_neg e, if_neg (by omega)] at k3; exact h.up k z (by omega) k2 k3
  · rw [sw_at hx hy, if_neg (by omega), if_neg (by omega)]
    exact h.at_
/-- What a partition leaves: all ahead of m are not above what lies there, all behind not below. -/
structure Pd (es fs : List UInt8) (a b : Nat) (m : Nat) : Prop where
  pm : Pm a b es fs
  am : a ≤ m
  mb : m < b
  lo : ∀ k x z, a ≤ k → k < m → fs[k]? = some x → fs[m]? = some z → x.toNat ≤ z.toNat
  up : ∀ k x z, m < k → k < b → fs[k]? = some x → fs[m]? = some z → z.toNat ≤ x.toNat
theorem Pq.done (h : Pq es fs a b pv (j + 1) j) (hy : fs[j]? = some y) : Pd es (sw fs j a y pv) a b j := by
  have hai := h.ai
  have hjb := h.jb
  have hat := h.at_
  have hm : (sw fs j a y pv)[j]? = some pv := by
    rw [sw_at hy hat]
    by_cases e : j = a
    · rw [if_pos e]
      rw [e, hat] at hy
      exact hy.symm
    · rw [if_neg e, if_pos rfl]
  refine ⟨h.pm.trans (sw_pm hy hat (by omega) hjb (Nat.le_refl _) (by omega)), by omega, hjb, fun k z u k1 k2 k3 k4 => ?_, fun k z u k1 k2 k3 k4 => ?_⟩
  · rw [hm] at k4
    cases k4
    rw [sw_at hy hat] at k3
    by_cases e : k = a
    · rw [if_pos e] at k3
      cases k3
      have := h.lo j y (by omega) (by omega) hy
      omega
    · rw [if_neg e, if_neg (by omega)] at k3
      have := h.lo k z (by omega) (by omega) k3
      omega
  · rw [hm] at k4
    cases k4
    rw [sw_at hy hat, if_neg (by omega), if_neg (by omega)] at k3
    exact h.up k z (by omega) k2 k3
theorem Pq.start (hp : a ≤ i ∧ i < b) (hx : es[a]? = some x) (hy : es[i]? = some pv) : Pq es (sw es a i x pv) a b pv (a + 1) (b - 1) :=
  ⟨sw_pm hx hy (Nat.le_refl _) (by omega) hp.1 hp.2, Nat.le_refl _, by omega, by omega, fun k z k1 k2 => by omega, fun k z k1 k2 => by omega, by
    rw [sw_at hx hy]
    by_cases e : a = i
    · rw [if_pos e]
      rw [e, hy] at hx
      exact hx.symm
    · rw [if_neg e, if_pos rfl]⟩
end
/-- The second cell of an exchange, behind the first store. -/
theorem Br.mid {w : World} {base g len cap : Nat} {es : List UInt8} (h : Br w base (.slice (some ⟨g, 0, none⟩) len cap) es) {i j : Nat} {x y : UInt8} (hi : es[i]? = some x) (hj : es[j]? = some y) :
    ∃ z, (w.setCell ⟨g, i, none⟩ (u8 y)).cell? ⟨g, j, none⟩ = some z ∧ ∀ k, (w.setCell ⟨g, i, none⟩ (u8 y)).frozen? ⟨g, k, none⟩ = false := by
  have h1 := (List.getElem?_eq_some_iff.1 hi).1
  have h2 := (List.getElem?_eq_some_iff.1 hj).1
  have h3 := Br.set h i y h1
  obtain ⟨u, hu⟩ := some8 (es := es.set i y) (k := j) (by simpa using h2)
  obtain ⟨g', e, _, _, k1, k2⟩ := h3.at hu
  cases e
  exact ⟨_, k1, k2⟩
set_option maxRecDepth 100000 in
set_option maxHeartbeats 8000000 in
theorem part_b (w : World) {base : Nat} {v : Value} {es : List UInt8} (h : Br w base v es) (hl : es.length ≤ 256) (a b p : Nat) (hp : a ≤ p ∧ p < b) (hb : b ≤ es.length) :
    Calls Try.prog 64 #[v, .int .i64 a, .int .i64 b, .int .i64 p] w fun r w' => ∃ (m : Nat) (d : Bool) (es' : List UInt8), r = .returned (.tuple #[.int .i64 m, .bool d]) ∧ Br w' base v es' ∧ Pd es es' a b m ∧ w.grownBy w' v.ownBlock := by
  obtain ⟨ad, cap, rfl⟩ := h.shape
  obtain ⟨x, hx⟩ := some8 (es := es) (k := a) (by omega)
  obtain ⟨pv, hy⟩ := some8 (es := es) (k := p) (by omega)
  obtain ⟨g, rfl, hgl1, -, k1, f1⟩ := h.at hx
  obtain ⟨_, e1', -, -, k2, -⟩ := h.at hy
  cases e1'
  obtain ⟨s1, s2⟩ := h.swap hx hy
  obtain ⟨z, hz1, hz2⟩ := h.mid hx hy
  have s3 := Pq.start hp hx hy
  have hal : a < es.length := by omega
  have hpl : p < es.length := by omega
  have e0 : (b : Int) - 1 = ((b - 1 : Nat) : Int) := by omega
  replace s1 : Hid _ := ⟨s1⟩
  replace s2 : Hid _ := ⟨s2⟩
  replace s3 : Hid _ := ⟨s3⟩
  replace h : Hid _ := ⟨h⟩
  clear hx hy
  go_enter Try.func64, Try.ntmps64
  go_wp2_with fail
  go_region
  obtain ⟨fs, hfs⟩ : ∃ fs, sw es a p x pv = fs := ⟨_, rfl⟩
  rw [hfs] at s1 s3
  have hst : Hid (Pq es fs a b pv (a + 1) (b - 1) ∧ Br (World.drew (World.setCell (World.setCell w ⟨g, a, none⟩ (u8 pv)) ⟨g, p, none⟩ (u8 x))) base (.slice (some ⟨g, 0, none⟩) es.length cap) fs ∧ w.grownBy (World.drew (World.setCell (World.setCell w ⟨g, a, none⟩ (u8 pv)) ⟨g, p, none⟩ (u8 x))) (some g)) := ⟨s3.out, s1.out, s2.out⟩
  obtain ⟨j0, hj0⟩ : ∃ j0, Hid (j0 = b - 1) := ⟨_, ⟨rfl⟩⟩
  rw [← hj0.out] at hst e0
  have ha6 : a ≤ 256 := by omega
  have hb6 : b ≤ 256 := by omega
  have hj6 : j0 ≤ 256 := by have := hj0.out; omega
  generalize (World.drew (World.setCell (World.setCell w ⟨g, a, none⟩ (u8 pv)) ⟨g, p, none⟩ (u8 x))) = wA at *
  clear hfs s1 s2 s3 hz1 hz2 k1 k2 f1
  go_upto_block 0 with fail
  go_cut [10] from 30 to 45 (fun s wx => ∃ t : Nat, s = .int .i64 t ∧ t ≤ j0 + 1 ∧ Hid (Pq es fs a b pv t j0 ∧ Br wx base (.slice (some ⟨g, 0, none⟩) es.length cap) fs ∧ w.grownBy wx (some g) ∧ (∀ x, t ≤ j0 → fs[t]? = some x → pv.toNat ≤ x.toNat)))
  case first =>
    go_wp2_with fail
    go_loopw [10] (fun s wr => ∃ t : Nat, s = .int .i64 t ∧ t ≤ j0 + 1 ∧ Hid (Pq es fs a b pv t j0 ∧ Br wr base (.slice (some ⟨g, 0, none⟩) es.length cap) fs ∧ w.grownBy wr (some g)))
      (fun s _ => 600 - (intOf s).toNat)
    case atStart => exact ⟨_, rfl, by have := hst.out.1.ij; omega, hst⟩
    case round =>
      clear hst
      obtain ⟨t, rfl, htB, hR⟩ := hrel
      obtain ⟨hQ, hB, hG⟩ := hR.out
      have q1 := hQ.ai
      have q2 := hQ.ij
      have q3 := hQ.jb
      have hfl := hQ.pm.len
      haveI := lat_nonempty wr
      by_cases hg : t ≤ j0
      · have hd2 : (t : Int) ≤ j0 := by omega
        obtain ⟨x, hx⟩ := some8 (es := fs) (k := t) (by omega)
        obtain ⟨_, e1, -, -, k1, f1⟩ := hB.at hx
        cases e1
        obtain ⟨_, e1, -, -, k2, -⟩ := hB.at hQ.at_
        cases e1
        have kk1 := lat_cell k1
        have kk2 := lat_cell k2
        have htl : t < es.length := by omega
        have ht5 : t ≤ 512 := by omega
        by_cases hlt : x < pv
        · have hdx : decide (x < pv) = true := by simpa using hlt
          have ka := fun q : Lat wr => lat_less q x pv hdx
          have hn := u8_dec x pv
          have hQ2 := hQ.incr hg hx (by rw [UInt8.lt_iff_toNat_lt] at hlt; omega)
          replace hB : Hid _ := ⟨hB⟩
          replace hG : Hid _ := ⟨hG⟩
          replace hQ2 : Hid _ := ⟨hQ2⟩
          clear hQ hn hR hx hfl
          go_wp2_with fail
          refine wp_region_lat (by kernel_rfl) (by kernel_rfl) ?_
          repeat (go_big_quiet_step (fail))
          go_big_quiet_step ((go_at_call 62; exact ka _))
          repeat (go_big_quiet_step (fail))
          refine wpQuiet_nil ?_
          intro _ hw'
          obtain ⟨x0, hw''⟩ := hw'
          subst hw''
          have hp0 := x0.h
          have hst : Hid (Pq es fs a b pv (t + 1) j0 ∧ Br x0.W base (.slice (some ⟨g, 0, none⟩) es.length cap) fs ∧ w.grownBy x0.W (some g)) := ⟨hQ2.out, hB.out.keep0 hp0, grown_add hG.out hp0⟩
          go_wp2_with fail
          exact ⟨⟨t + 1, by go_num, by omega, hst⟩, by simp [intOf]; omega⟩
        · have hdx : decide (x < pv) = false := by simpa using hlt
          have ka := fun q : Lat wr => lat_less q x pv hdx
          have hn := u8_dec x pv
          have hsp : Hid (∀ x, t ≤ j0 → fs[t]? = some x → pv.toNat ≤ x.toNat) := ⟨fun z _ h2 => by rw [hx] at h2; cases h2; rw [UInt8.lt_iff_toNat_lt] at hlt; omega⟩
          replace hB : Hid _ := ⟨hB⟩
          replace hG : Hid _ := ⟨hG⟩
          replace hQ : Hid _ := ⟨hQ⟩
          clear hn hR hx hfl
          go_wp2_with fail
          refine wp_region_lat (by kernel_rfl) (by kernel_rfl) ?_
          repeat (go_big_quiet_step (fail))
          go_big_quiet_step ((go_at_call 62; exact ka _))
          repeat (go_big_quiet_step (fail))
          refine wpQuiet_nil ?_
          intro _ hw'
          obtain ⟨x0, hw''⟩ := hw'
          subst hw''
          have hp0 := x0.h
          have hst : Hid (Pq es fs a b pv t j0 ∧ Br x0.W base (.slice (some ⟨g, 0, none⟩) es.length cap) fs ∧ w.grownBy x0.W (some g) ∧ (∀ x, t ≤ j0 → fs[t]? = some x → pv.toNat ≤ x.toNat)) := ⟨hQ.out, hB.out.keep0 hp0, grown_add hG.out hp0, hsp.out⟩
          go_wp2_with fail
          go_meet
          case rel => exact ⟨t, rfl, htB, hst⟩
      · have hd2 : decide ((t : Int) ≤ j0) = false := by simp; omega
        have hd3 : decide (t ≤ j0) = false := by simp; omega
        have hsp : Hid (∀ x, t ≤ j0 → fs[t]? = some x → pv.toNat ≤ x.toNat) := ⟨fun z h1 _ => absurd h1 hg⟩
        replace hB : Hid _ := ⟨hB⟩
        replace hG : Hid _ := ⟨hG⟩
        replace hQ : Hid _ := ⟨hQ⟩
        clear hR hfl
        go_wp2_with fail
        refine wp_region_lat (by kernel_rfl) (by kernel_rfl) ?_
        repeat (go_big_quiet_step (fail))
        refine wpQuiet_nil ?_
        intro _ hw'
        obtain ⟨x0, hw''⟩ := hw'
        subst hw''
        have hp0 := x0.h
        have hst : Hid (Pq es fs a b pv t j0 ∧ Br x0.W base (.slice (some ⟨g, 0, none⟩) es.length cap) fs ∧ w.grownBy x0.W (some g) ∧ (∀ x, t ≤ j0 → fs[t]? = some x → pv.toNat ≤ x.toNat)) := ⟨hQ.out, hB.out.keep0 hp0, grown_add hG.out hp0, hsp.out⟩
        go_wp2_with fail
        go_meet
        case rel => exact ⟨t, rfl, htB, hst⟩
  case rest =>
    obtain ⟨i1, rfl, hcB, hc1⟩ := hcut
    have hst : Hid (Pq es fs a b pv i1 j0 ∧ Br wc base (.slice (some ⟨g, 0, none⟩) es.length cap) fs ∧ w.grownBy wc (some g)) := ⟨hc1.out.1, hc1.out.2.1, hc1.out.2.2.1⟩
    have hs1 : Hid (∀ x, i1 ≤ j0 → fs[i1]? = some x → pv.toNat ≤ x.toNat) := ⟨hc1.out.2.2.2⟩
    have hi6 : i1 ≤ 257 := by have := hc1.out.1.ij; omega
    clear hc1
    go_upto_block 2 with fail
    go_cut [11] from 46 to 62 (fun s wx => ∃ t : Nat, s = .int .i64 t ∧ t ≤ j0 ∧ Hid (Pq es fs a b pv i1 t ∧ Br wx base (.slice (some ⟨g, 0, none⟩) es.length cap) fs ∧ w.grownBy wx (some g) ∧ (∀ x, i1 ≤ t → fs[t]? = some x → x.toNat < pv.toNat)))
    case first =>
      go_wp2_with fail
      go_loopw [11] (fun s wr => ∃ t : Nat, s = .int .i64 t ∧ t ≤ j0 ∧ Hid (Pq es fs a b pv i1 t ∧ Br wr base (.slice (some ⟨g, 0, none⟩) es.length cap) fs ∧ w.grownBy wr (some g)))
        (fun s _ => (intOf s).toNat)
      case atStart => exact ⟨_, rfl, by have := hst.out.1.ij; omega, hst⟩
      case round =>
        clear hst
        obtain ⟨t, rfl, htB, hR⟩ := hrel
        obtain ⟨hQ, hB, hG⟩ := hR.out
        have q1 := hQ.ai
        have q2 := hQ.ij
        have q3 := hQ.jb
        have hfl := hQ.pm.len
        haveI := lat_nonempty wr
        by_cases hg : i1 ≤ t
        · have hd2 : (i1 : Int) ≤ t := by omega
          obtain ⟨x, hx⟩ := some8 (es := fs) (k := t) (by omega)
          obtain ⟨_, e1, -, -, k1, f1⟩ := hB.at hx
          cases e1
          obtain ⟨_, e1, -, -, k2, -⟩ := hB.at hQ.at_
          cases e1
          have kk1 := lat_cell k1
          have kk2 := lat_cell k2
          have htl : t < es.length := by omega
          have ht5 : t ≤ 512 := by omega
          by_cases hlt : x < pv
          · have hdx : decide (x < pv) = true := by simpa using hlt
            have ka := fun q : Lat wr => lat_less q x pv hdx
            have hn := u8_dec x pv
            have hsp : Hid (∀ x, i1 ≤ t → fs[t]? = some x → x.toNat < pv.toNat) := ⟨fun z _ h2 => by rw [hx] at h2; cases h2; rw [UInt8.lt_iff_toNat_lt] at hlt; omega⟩
            replace hB : Hid _ := ⟨hB⟩
            replace hG : Hid _ := ⟨hG⟩
            replace hQ : Hid _ := ⟨hQ⟩
            clear hn hR hx hfl
            go_wp2_with fail
            refine wp_region_lat (by kernel_rfl) (by kernel_rfl) ?_
            repeat (go_big_quiet_step (fail))
            go_big_quiet_step ((go_at_call 62; exact ka _))
            repeat (go_big_quiet_step (fail))
            refine wpQuiet_nil ?_
            intro _ hw'
            obtain ⟨x0, hw''⟩ := hw'
            subst hw''
            have hp0 := x0.h
            have hst : Hid (Pq es fs a b pv i1 t ∧ Br x0.W base (.slice (some ⟨g, 0, none⟩) es.length cap) fs ∧ w.grownBy x0.W (some g) ∧ (∀ x, i1 ≤ t → fs[t]? = some x → x.toNat < pv.toNat)) := ⟨hQ.out, hB.out.keep0 hp0, grown_add hG.out hp0, hsp.out⟩
            go_wp2_with fail
            go_meet
            case rel => exact ⟨t, rfl, htB, hst⟩
          · have hdx : decide (x < pv) = false := by simpa using hlt
            have ka := fun q : Lat wr => lat_less q x pv hdx
            have hn := u8_dec x pv
            have hQ2 := hQ.decr hg hx (by rw [UInt8.lt_iff_toNat_lt] at hlt; omega)
            replace hB : Hid _ := ⟨hB⟩
            replace hG : Hid _ := ⟨hG⟩
            replace hQ2 : Hid _ := ⟨hQ2⟩
            clear hQ hn hR hx hfl
            go_wp2_with fail
            refine wp_region_lat (by kernel_rfl) (by kernel_rfl) ?_
            repeat (go_big_quiet_step (fail))
            go_big_quiet_step ((go_at_call 62; exact ka _))
            repeat (go_big_quiet_step (fail))
            refine wpQuiet_nil ?_
            intro _ hw'
            obtain ⟨x0, hw''⟩ := hw'
            subst hw''
            have hp0 := x0.h
            have hst : Hid (Pq es fs a b pv i1 (t - 1) ∧ Br x0.W base (.slice (some ⟨g, 0, none⟩) es.length cap) fs ∧ w.grownBy x0.W (some g)) := ⟨hQ2.out, hB.out.keep0 hp0, grown_add hG.out hp0⟩
            go_wp2_with fail
            exact ⟨⟨t - 1, by simp; omega, by omega, hst⟩, by simp [intOf]; omega⟩
        · have hd2 : decide ((i1 : Int) ≤ t) = false := by simp; omega
          have hd3 : decide (i1 ≤ t) = false := by simp; omega
          have hsp : Hid (∀ x, i1 ≤ t → fs[t]? = some x → x.toNat < pv.toNat) := ⟨fun z h1 _ => absurd h1 hg⟩
          replace hB : Hid _ := ⟨hB⟩
          replace hG : Hid _ := ⟨hG⟩
          replace hQ : Hid _ := ⟨hQ⟩
          clear hR hfl
          go_wp2_with fail
          refine wp_region_lat (by kernel_rfl) (by kernel_rfl) ?_
          repeat (go_big_quiet_step (fail))
          refine wpQuiet_nil ?_
          intro _ hw'
          obtain ⟨x0, hw''⟩ := hw'
          subst hw''
          have hp0 := x0.h
          have hst : Hid (Pq es fs a b pv i1 t ∧ Br x0.W base (.slice (some ⟨g, 0, none⟩) es.length cap) fs ∧ w.grownBy x0.W (some g) ∧ (∀ x, i1 ≤ t → fs[t]? = some x → x.toNat < pv.toNat)) := ⟨hQ.out, hB.out.keep0 hp0, grown_add hG.out hp0, hsp.out⟩
          go_wp2_with fail
          go_meet
          case rel => exact ⟨t, rfl, htB, hst⟩
    case rest =>
      obtain ⟨j1, rfl, hcB2, hc2⟩ := hcut
      obtain ⟨hQ9, hB9, hG9, hs2⟩ := hc2.out
      have q1 := hQ9.ai
      have q2 := hQ9.ij
      have q3 := hQ9.jb
      have hfl := hQ9.pm.len
      replace hs2 : Hid _ := ⟨hs2⟩
      have hjj : j1 ≤ 256 := by omega
      clear hc2 hst
      by_cases hgt : j1 < i1
      · have hd9 : (j1 : Int) < i1 := by omega
        have hij : i1 = j1 + 1 := by omega
        subst hij
        obtain ⟨y9, hy9⟩ := some8 (es := fs) (k := j1) (by omega)
        have hx9 := hQ9.at_
        have hD := hQ9.done hy9
        obtain ⟨_, e1, -, -, k1, f1⟩ := hB9.at hy9
        cases e1
        obtain ⟨_, e1, -, -, k2, -⟩ := hB9.at hx9
        cases e1
        obtain ⟨s1, s2⟩ := hB9.swap hy9 hx9
        obtain ⟨z, hz1, hz2⟩ := hB9.mid hy9 hx9
        have hjl : j1 < es.length := by omega
        have hfin : Hid (Pd es (sw fs j1 a y9 pv) a b j1 ∧ w.grownBy (World.drew (World.setCell (World.setCell wc ⟨g, j1, none⟩ (u8 pv)) ⟨g, a, none⟩ (u8 y9))) (some g)) := ⟨hD, hG9.trans s2⟩
        replace s1 : Hid _ := ⟨s1⟩
        clear hD hx9 hy9 hQ9 hB9 hG9 s2
        go_wp2_with fail
        go_region
        go_wp2_with fail
        go_ret2
        exact ⟨j1, true, _, rfl, s1.out, hfin.out⟩
      · have hle : i1 ≤ j1 := by omega
        obtain ⟨x9, hx9⟩ := some8 (es := fs) (k := i1) (by omega)
        obtain ⟨y9, hy9⟩ := some8 (es := fs) (k := j1) (by omega)
        have hxp := hs1.out x9 (by omega) hx9
        have hyp := hs2.out y9 hle hy9
        have hij : i1 < j1 := by
          rcases Nat.lt_or_eq_of_le hle with e | e
          · exact e
          · exfalso
            rw [e, hy9] at hx9
            cases hx9
            omega
        have hQ8 := hQ9.swap hij hx9 hy9 hxp hyp
        obtain ⟨_, e1, -, -, k1, f1⟩ := hB9.at hx9
        cases e1
        obtain ⟨_, e1, -, -, k2, -⟩ := hB9.at hy9
        cases e1
        obtain ⟨s1, s2⟩ := hB9.swap hx9 hy9
        have hil : i1 < es.length := by omega
        have hjl : j1 < es.length := by omega
        have hd9 : decide ((j1 : Int) < i1) = false := by simp; omega
        have hd8 : decide (j1 < i1) = false := by simp; omega
        have e5 : (j1 : Int) - 1 = ((j1 - 1 : Nat) : Int) := by omega
        have hst : Hid (Pq es (sw fs i1 j1 x9 y9) a b pv (i1 + 1) (j1 - 1) ∧ Br (World.drew (World.setCell (World.setCell wc ⟨g, i1, none⟩ (u8 y9)) ⟨g, j1, none⟩ (u8 x9))) base (.slice (some ⟨g, 0, none⟩) es.length cap) (sw fs i1 j1 x9 y9) ∧ w.grownBy (World.drew (World.setCell (World.setCell wc ⟨g, i1, none⟩ (u8 y9)) ⟨g, j1, none⟩ (u8 x9))) (some g)) := ⟨hQ8, s1, hG9.trans s2⟩
        clear hQ8 hx9 hy9 hQ9 hB9 hG9 s1 s2
        go_wp2_with fail
        go_region
        go_wp2_with fail
        go_loopw [10, 11] (fun u v wr => ∃ (i j : Nat) (fs : List UInt8), u = .int .i64 i ∧ v = .int .i64 j ∧ i ≤ 400 ∧ j ≤ 400 ∧ Hid (Pq es fs a b pv i j ∧ Br wr base (.slice (some ⟨g, 0, none⟩) es.length cap) fs ∧ w.grownBy wr (some g)))
          (fun u v _ => (intOf v).toNat)
        case atStart => exact ⟨i1 + 1, j1 - 1, _, by go_num, by first | rfl | (simp; omega), by omega, by omega, hst⟩
        case round =>
          clear hst hs1 hs2 hle hij hd9 hd8 e5 q1 q2 q3 hil hjl k1 k2 f1 hxp hyp hfl hgt hcB hcB2
          obtain ⟨i, j, fs2, rfl, rfl, hi6, hj6, hst⟩ := hrel
          go_upto_block 6 with fail
          go_cut [10] from 99 to 152 (fun s wx => ∃ t : Nat, s = .int .i64 t ∧ t ≤ j + 1 ∧ Hid (Pq es fs2 a b pv t j ∧ Br wx base (.slice (some ⟨g, 0, none⟩) es.length cap) fs2 ∧ w.grownBy wx (some g) ∧ (∀ x, t ≤ j → fs2[t]? = some x → pv.toNat ≤ x.toNat)))
          case first =>
            go_wp2_with fail
            go_loopw [10] (fun s wr => ∃ t : Nat, s = .int .i64 t ∧ t ≤ j + 1 ∧ Hid (Pq es fs2 a b pv t j ∧ Br wr base (.slice (some ⟨g, 0, none⟩) es.length cap) fs2 ∧ w.grownBy wr (some g)))
              (fun s _ => 600 - (intOf s).toNat)
            case atStart => exact ⟨_, rfl, by have := hst.out.1.ij; omega, hst⟩
            case round =>
              clear hst
              obtain ⟨t, rfl, htB, hR⟩ := hrel
              obtain ⟨hQ, hB, hG⟩ := hR.out
              have q1 := hQ.ai
              have q2 := hQ.ij
              have q3 := hQ.jb
              have hfl := hQ.pm.len
              haveI := lat_nonempty wr
              by_cases hg : t ≤ j
              · have hd2 : (t : Int) ≤ j := by omega
                obtain ⟨x, hx⟩ := some8 (es := fs2) (k := t) (by omega)
                obtain ⟨_, e1, -, -, k1, f1⟩ := hB.at hx
                cases e1
                obtain ⟨_, e1, -, -, k2, -⟩ := hB.at hQ.at_
                cases e1
                have kk1 := lat_cell k1
                have kk2 := lat_cell k2
                have htl : t < es.length := by omega
                have ht5 : t ≤ 512 := by omega
                by_cases hlt : x < pv
                · have hdx : decide (x < pv) = true := by simpa using hlt
                  have ka := fun q : Lat wr => lat_less q x pv hdx
                  have hn := u8_dec x pv
                  have hQ2 := hQ.incr hg hx (by rw [UInt8.lt_iff_toNat_lt] at hlt; omega)
                  replace hB : Hid _ := ⟨hB⟩
                  replace hG : Hid _ := ⟨hG⟩
                  replace hQ2 : Hid _ := ⟨hQ2⟩
                  clear hQ hn hR hx hfl
                  go_wp2_with fail
                  refine wp_region_lat (by kernel_rfl) (by kernel_rfl) ?_
                  repeat (go_big_quiet_step (fail))
                  go_big_quiet_step ((go_at_call 62; exact ka _))
                  repeat (go_big_quiet_step (fail))
                  refine wpQuiet_nil ?_
                  intro _ hw'
                  obtain ⟨x0, hw''⟩ := hw'
                  subst hw''
                  have hp0 := x0.h
                  have hst : Hid (Pq es fs2 a b pv (t + 1) j ∧ Br x0.W base (.slice (some ⟨g, 0, none⟩) es.length cap) fs2 ∧ w.grownBy x0.W (some g)) := ⟨hQ2.out, hB.out.keep0 hp0, grown_add hG.out hp0⟩
                  go_wp2_with fail
                  exact ⟨⟨t + 1, by go_num, by omega, hst⟩, by simp [intOf]; omega⟩
                · have hdx : decide (x < pv) = false := by simpa using hlt
                  have ka := fun q : Lat wr => lat_less q x pv hdx
                  have hn := u8_dec x pv
                  have hsp : Hid (∀ x, t ≤ j → fs2[t]? = some x → pv.toNat ≤ x.toNat) := ⟨fun z _ h2 => by rw [hx] at h2; cases h2; rw [UInt8.lt_iff_toNat_lt] at hlt; omega⟩
                  replace hB : Hid _ := ⟨hB⟩
                  replace hG : Hid _ := ⟨hG⟩
                  replace hQ : Hid _ := ⟨hQ⟩
                  clear hn hR hx hfl
                  go_wp2_with fail
                  refine wp_region_lat (by kernel_rfl) (by kernel_rfl) ?_
                  repeat (go_big_quiet_step (fail))
                  go_big_quiet_step ((go_at_call 62; exact ka _))
                  repeat (go_big_quiet_step (fail))
                  refine wpQuiet_nil ?_
                  intro _ hw'
                  obtain ⟨x0, hw''⟩ := hw'
                  subst hw''
                  have hp0 := x0.h
                  have hst : Hid (Pq es fs2 a b pv t j ∧ Br x0.W base (.slice (some ⟨g, 0, none⟩) es.length cap) fs2 ∧ w.grownBy x0.W (some g) ∧ (∀ x, t ≤ j → fs2[t]? = some x → pv.toNat ≤ x.toNat)) := ⟨hQ.out, hB.out.keep0 hp0, grown_add hG.out hp0, hsp.out⟩
                  go_wp2_with fail
                  go_meet
                  case rel => exact ⟨t, rfl, htB, hst⟩
              · have hd2 : decide ((t : Int) ≤ j) = false := by simp; omega
                have hd3 : decide (t ≤ j) = false := by simp; omega
                have hsp : Hid (∀ x, t ≤ j → fs2[t]? = some x → pv.toNat ≤ x.toNat) := ⟨fun z h1 _ => absurd h1 hg⟩
                replace hB : Hid _ := ⟨hB⟩
                replace hG : Hid _ := ⟨hG⟩
                replace hQ : Hid _ := ⟨hQ⟩
                clear hR hfl
                go_wp2_with fail
                refine wp_region_lat (by kernel_rfl) (by kernel_rfl) ?_
                repeat (go_big_quiet_step (fail))
                refine wpQuiet_nil ?_
                intro _ hw'
                obtain ⟨x0, hw''⟩ := hw'
                subst hw''
                have hp0 := x0.h
                have hst : Hid (Pq es fs2 a b pv t j ∧ Br x0.W base (.slice (some ⟨g, 0, none⟩) es.length cap) fs2 ∧ w.grownBy x0.W (some g) ∧ (∀ x, t ≤ j → fs2[t]? = some x → pv.toNat ≤ x.toNat)) := ⟨hQ.out, hB.out.keep0 hp0, grown_add hG.out hp0, hsp.out⟩
                go_wp2_with fail
                go_meet
                case rel => exact ⟨t, rfl, htB, hst⟩
          case rest =>
            obtain ⟨i2, rfl, hcB, hc1⟩ := hcut
            have hst : Hid (Pq es fs2 a b pv i2 j ∧ Br wc base (.slice (some ⟨g, 0, none⟩) es.length cap) fs2 ∧ w.grownBy wc (some g)) := ⟨hc1.out.1, hc1.out.2.1, hc1.out.2.2.1⟩
            have hs1 : Hid (∀ x, i2 ≤ j → fs2[i2]? = some x → pv.toNat ≤ x.toNat) := ⟨hc1.out.2.2.2⟩
            clear hc1
            go_upto_block 8 with fail
            go_cut [11] from 99 to 152 (fun s wx => ∃ t : Nat, s = .int .i64 t ∧ t ≤ j ∧ Hid (Pq es fs2 a b pv i2 t ∧ Br wx base (.slice (some ⟨g, 0, none⟩) es.length cap) fs2 ∧ w.grownBy wx (some g) ∧ (∀ x, i2 ≤ t → fs2[t]? = some x → x.toNat < pv.toNat)))
            case first =>
              go_wp2_with fail
              go_loopw [11] (fun s wr => ∃ t : Nat, s = .int .i64 t ∧ t ≤ j ∧ Hid (Pq es fs2 a b pv i2 t ∧ Br wr base (.slice (some ⟨g, 0, none⟩) es.length cap) fs2 ∧ w.grownBy wr (some g)))
                (fun s _ => (intOf s).toNat)
              case atStart => exact ⟨_, rfl, by have := hst.out.1.ij; omega, hst⟩
              case round =>
                clear hst
                obtain ⟨t, rfl, htB, hR⟩ := hrel
                obtain ⟨hQ, hB, hG⟩ := hR.out
                have q1 := hQ.ai
                have q2 := hQ.ij
                have q3 := hQ.jb
                have hfl := hQ.pm.len
                haveI := lat_nonempty wr
                by_cases hg : i2 ≤ t
                · have hd2 : (i2 : Int) ≤ t := by omega
                  obtain ⟨x, hx⟩ := some8 (es := fs2) (k := t) (by omega)
                  obtain ⟨_, e1, -, -, k1, f1⟩ := hB.at hx
                  cases e1
                  obtain ⟨_, e1, -, -, k2, -⟩ := hB.at hQ.at_
                  cases e1
                  have kk1 := lat_cell k1
                  have kk2 := lat_cell k2
                  have htl : t < es.length := by omega
                  have ht5 : t ≤ 512 := by omega
                  by_cases hlt : x < pv
                  · have hdx : decide (x < pv) = true := by simpa using hlt
                    have ka := fun q : Lat wr => lat_less q x pv hdx
                    have hn := u8_dec x pv
                    have hsp : Hid (∀ x, i2 ≤ t → fs2[t]? = some x → x.toNat < pv.toNat) := ⟨fun z _ h2 => by rw [hx] at h2; cases h2; rw [UInt8.lt_iff_toNat_lt] at hlt; omega⟩
                    replace hB : Hid _ := ⟨hB⟩
                    replace hG : Hid _ := ⟨hG⟩
                    replace hQ : Hid _ := ⟨hQ⟩
                    clear hn hR hx hfl
                    go_wp2_with fail
                    refine wp_region_lat (by kernel_rfl) (by kernel_rfl) ?_
                    repeat (go_big_quiet_step (fail))
                    go_big_quiet_step ((go_at_call 62; exact ka _))
                    repeat (go_big_quiet_step (fail))
                    refine wpQuiet_nil ?_
                    intro _ hw'
                    obtain ⟨x0, hw''⟩ := hw'
                    subst hw''
                    have hp0 := x0.h
                    have hst : Hid (Pq es fs2 a b pv i2 t ∧ Br x0.W base (.slice (some ⟨g, 0, none⟩) es.length cap) fs2 ∧ w.grownBy x0.W (some g) ∧ (∀ x, i2 ≤ t → fs2[t]? = some x → x.toNat < pv.toNat)) := ⟨hQ.out, hB.out.keep0 hp0, grown_add hG.out hp0, hsp.out⟩
                    go_wp2_with fail
                    go_meet
                    case rel => exact ⟨t, rfl, htB, hst⟩
                  · have hdx : decide (x < pv) = false := by simpa using hlt
                    have ka := fun q : Lat wr => lat_less q x pv hdx
                    have hn := u8_dec x pv
                    have hQ2 := hQ.decr hg hx (by rw [UInt8.lt_iff_toNat_lt] at hlt; omega)
                    replace hB : Hid _ := ⟨hB⟩
                    replace hG : Hid _ := ⟨hG⟩
                    replace hQ2 : Hid _ := ⟨hQ2⟩
                    clear hQ hn hR hx hfl
                    go_wp2_with fail
                    refine wp_region_lat (by kernel_rfl) (by kernel_rfl) ?_
                    repeat (go_big_quiet_step (fail))
                    go_big_quiet_step ((go_at_call 62; exact ka _))
                    repeat (go_big_quiet_step (fail))
                    refine wpQuiet_nil ?_
                    intro _ hw'
                    obtain ⟨x0, hw''⟩ := hw'
                    subst hw''
                    have hp0 := x0.h
                    have hst : Hid (Pq es fs2 a b pv i2 (t - 1) ∧ Br x0.W base (.slice (some ⟨g, 0, none⟩) es.length cap) fs2 ∧ w.grownBy x0.W (some g)) := ⟨hQ2.out, hB.out.keep0 hp0, grown_add hG.out hp0⟩
                    go_wp2_with fail
                    exact ⟨⟨t - 1, by simp; omega, by omega, hst⟩, by simp [intOf]; omega⟩
                · have hd2 : decide ((i2 : Int) ≤ t) = false := by simp; omega
                  have hd3 : decide (i2 ≤ t) = false := by simp; omega
                  have hsp : Hid (∀ x, i2 ≤ t → fs2[t]? = some x → x.toNat < pv.toNat) := ⟨fun z h1 _ => absurd h1 hg⟩
                  replace hB : Hid _ := ⟨hB⟩
                  replace hG : Hid _ := ⟨hG⟩
                  replace hQ : Hid _ := ⟨hQ⟩
                  clear hR hfl
                  go_wp2_with fail
                  refine wp_region_lat (by kernel_rfl) (by kernel_rfl) ?_
                  repeat (go_big_quiet_step (fail))
                  refine wpQuiet_nil ?_
                  intro _ hw'
                  obtain ⟨x0, hw''⟩ := hw'
                  subst hw''
                  have hp0 := x0.h
                  have hst : Hid (Pq es fs2 a b pv i2 t ∧ Br x0.W base (.slice (some ⟨g, 0, none⟩) es.length cap) fs2 ∧ w.grownBy x0.W (some g) ∧ (∀ x, i2 ≤ t → fs2[t]? = some x → x.toNat < pv.toNat)) := ⟨hQ.out, hB.out.keep0 hp0, grown_add hG.out hp0, hsp.out⟩
                  go_wp2_with fail
                  go_meet
                  case rel => exact ⟨t, rfl, htB, hst⟩
            case rest =>
              obtain ⟨j2, rfl, hcB2, hc2⟩ := hcut
              obtain ⟨hQ9, hB9, hG9, hs2⟩ := hc2.out
              have q1 := hQ9.ai
              have q2 := hQ9.ij
              have q3 := hQ9.jb
              have hfl := hQ9.pm.len
              replace hs2 : Hid _ := ⟨hs2⟩
              clear hc2 hst
              by_cases hgt : j2 < i2
              · have hd9 : (j2 : Int) < i2 := by omega
                have hij : i2 = j2 + 1 := by omega
                subst hij
                obtain ⟨y9, hy9⟩ := some8 (es := fs2) (k := j2) (by omega)
                have hx9 := hQ9.at_
                have hD := hQ9.done hy9
                obtain ⟨_, e1, -, -, k1, f1⟩ := hB9.at hy9
                cases e1
                obtain ⟨_, e1, -, -, k2, -⟩ := hB9.at hx9
                cases e1
                obtain ⟨s1, s2⟩ := hB9.swap hy9 hx9
                obtain ⟨z, hz1, hz2⟩ := hB9.mid hy9 hx9
                have hjl : j2 < es.length := by omega
                have hfin : Hid (Pd es (sw fs2 j2 a y9 pv) a b j2 ∧ w.grownBy (World.drew (World.setCell (World.setCell wc ⟨g, j2, none⟩ (u8 pv)) ⟨g, a, none⟩ (u8 y9))) (some g)) := ⟨hD, hG9.trans s2⟩
                replace s1 : Hid _ := ⟨s1⟩
                clear hD hx9 hy9 hQ9 hB9 hG9 s2
                go_wp2_with fail
                go_region
                go_wp2_with fail
                go_ret2
                exact ⟨j2, false, _, rfl, s1.out, hfin.out⟩
              · have hle : i2 ≤ j2 := by omega
                obtain ⟨x9, hx9⟩ := some8 (es := fs2) (k := i2) (by omega)
                obtain ⟨y9, hy9⟩ := some8 (es := fs2) (k := j2) (by omega)
                have hxp := hs1.out x9 (by omega) hx9
                have hyp := hs2.out y9 hle hy9
                have hij : i2 < j2 := by
                  rcases Nat.lt_or_eq_of_le hle with e | e
                  · exact e
                  · exfalso
                    rw [e, hy9] at hx9
                    cases hx9
                    omega
                have hQ8 := hQ9.swap hij hx9 hy9 hxp hyp
                obtain ⟨_, e1, -, -, k1, f1⟩ := hB9.at hx9
                cases e1
                obtain ⟨_, e1, -, -, k2, -⟩ := hB9.at hy9
                cases e1
                obtain ⟨s1, s2⟩ := hB9.swap hx9 hy9
                have hil : i2 < es.length := by omega
                have hjl : j2 < es.length := by omega
                have hd9 : decide ((j2 : Int) < i2) = false := by simp; omega
                have hd8 : decide (j2 < i2) = false := by simp; omega
                have e5 : (j2 : Int) - 1 = ((j2 - 1 : Nat) : Int) := by omega
                have hst : Hid (Pq es (sw fs2 i2 j2 x9 y9) a b pv (i2 + 1) (j2 - 1) ∧ Br (World.drew (World.setCell (World.setCell wc ⟨g, i2, none⟩ (u8 y9)) ⟨g, j2, none⟩ (u8 x9))) base (.slice (some ⟨g, 0, none⟩) es.length cap) (sw fs2 i2 j2 x9 y9) ∧ w.grownBy (World.drew (World.setCell (World.setCell wc ⟨g, i2, none⟩ (u8 y9)) ⟨g, j2, none⟩ (u8 x9))) (some g)) := ⟨hQ8, s1, hG9.trans s2⟩
                clear hQ8 hx9 hy9 hQ9 hB9 hG9 s1 s2
                go_wp2_with fail
                go_region
                go_wp2_with fail
                exact ⟨⟨i2 + 1, j2 - 1, _, by go_num, by first | rfl | (simp; omega), by omega, by omega, hst⟩, by simp [intOf]; omega⟩
end Go.Proofs.Ytpcdmjalfabbmaa
