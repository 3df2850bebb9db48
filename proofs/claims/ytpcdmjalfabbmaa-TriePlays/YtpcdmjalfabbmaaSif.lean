/- siftDown of bytes. -/
import Derived.Test.YtpcdmjalfabbmaaPin
namespace Go.Proofs.Ytpcdmjalfabbmaa
open Go.RowKit Go.Shelf Go.IntWalk Go.Maps
set_option linter.unusedVariables false
/-- A heap, from lo on. -/
def Hq (V : Nat → Nat) (lo hi : Nat) : Prop := ∀ c, 0 < c → c < hi → lo ≤ (c - 1) / 2 → V c ≤ V ((c - 1) / 2)
/-- .. but for r, which may sink. -/
def Hx (V : Nat → Nat) (lo hi r : Nat) : Prop := (∀ c, 0 < c → c < hi → lo ≤ (c - 1) / 2 → (c - 1) / 2 ≠ r → V c ≤ V ((c - 1) / 2)) ∧ (0 < r → lo ≤ (r - 1) / 2 → ∀ c, 0 < c → c < hi → (c - 1) / 2 = r → V c ≤ V ((r - 1) / 2))
theorem Hq.x {V : Nat → Nat} {lo hi : Nat} (h : Hq V (lo + 1) hi) : Hx V lo hi lo := ⟨fun c h1 h2 h3 h4 => h c h1 h2 (by omega), fun h1 h2 => by omega⟩
theorem Hx.done {V : Nat → Nat} {lo hi r : Nat} (h : Hx V lo hi r) (hd : ∀ c, 0 < c → c < hi → (c - 1) / 2 = r → V c ≤ V r) : Hq V lo hi := fun c h1 h2 h3 => by
  by_cases e : (c - 1) / 2 = r
  · rw [e]; exact hd c h1 h2 e
  · exact h.1 c h1 h2 h3 e
theorem Hx.step {V W : Nat → Nat} {lo hi r c : Nat} (h : Hx V lo hi r) (hlr : lo ≤ r) (hc0 : 0 < c) (hc : c < hi) (hcr : (c - 1) / 2 = r) (hd : ∀ d, 0 < d → d < hi → (d - 1) / 2 = r → V d ≤ V c) (hlt : V r < V c) (hr : W r = V c) (hcW : W c = V r) (ho : ∀ k, k ≠ r → k ≠ c → W k = V k) : Hx W lo hi c := by
  have hrc : r < c := by omega
  refine ⟨fun d h1 h2 h3 h4 => ?_, fun h1 h2 d h3 h4 h5 => ?_⟩
  · by_cases e1 : (d - 1) / 2 = r
    · rw [e1, hr]
      by_cases e2 : d = c
      · rw [e2, hcW]; omega
      · rw [ho d (by omega) e2]
        exact hd d h1 h2 e1
    · rw [ho ((d - 1) / 2) e1 h4]
      by_cases e2 : d = r
      · subst e2
        rw [hr]
        exact h.2 h1 h3 c hc0 hc hcr
      · rw [ho d e2 (by intro e; subst e; exact e1 hcr)]
        exact h.1 d h1 h2 h3 e1
  · rw [hcr, hr, ho d (by omega) (by omega)]
    have := h.1 d h3 h4 (by omega) (by omega)
    rw [h5] at this
    exact this
/-- What lies at a place, counted from f on. -/
def Va (es : List UInt8) (f k : Nat) : Nat := (es[f + k]?.getD 0).toNat
theorem va_some {es : List UInt8} {f k : Nat} {x : UInt8} (h : es[f + k]? = some x) : Va es f k = x.toNat := by simp [Va, h]
theorem Va.congr {es fs : List UInt8} {f k : Nat} (h : fs[f + k]? = es[f + k]?) : Va fs f k = Va es f k := by simp [Va, h]
set_option maxRecDepth 100000 in
set_option maxHeartbeats 8000000 in
theorem sift_b (w : World) {base : Nat} {v : Value} {es : List UInt8} (h : Br w base v es) (hl : es.length ≤ 256) (lo hi f : Nat) (hf : f + hi ≤ es.length) (hlo : lo ≤ 256) (hne : 0 < es.length) (hH : Hx (Va es f) lo hi lo) :
    Calls Try.prog 67 #[v, .int .i64 lo, .int .i64 hi, .int .i64 f] w fun r w' => r = .returned (.tuple #[]) ∧ ∃ es', Br w' base v es' ∧ Pm f (f + hi) es es' ∧ Hq (Va es' f) lo hi ∧ w.grownBy w' v.ownBlock := by
  obtain ⟨ad, cap, rfl⟩ := h.shape
  obtain ⟨x, hx⟩ := some8 hne
  obtain ⟨g, rfl, hgl1, -, -, -⟩ := h.at hx
  have hst : Hid (Br w base (.slice (some ⟨g, 0, none⟩) es.length cap) es ∧ Pm f (f + hi) es es ∧ Hx (Va es f) lo hi lo ∧ w.grownBy w (some g)) := ⟨h, Pm.refl _ _ _, hH, (grown_refl w).but _⟩
  have hf6 : f ≤ 256 := by omega
  have hh6 : hi ≤ 256 := by omega
  clear hx h hH
  go_enter Try.func67, Try.ntmps67
  go_wp2_with fail
  go_loopw [8] (fun s wr => ∃ (r : Nat) (fs : List UInt8), s = .int .i64 r ∧ lo ≤ r ∧ r ≤ 256 ∧ Hid (Br wr base (.slice (some ⟨g, 0, none⟩) es.length cap) fs ∧ Pm f (f + hi) es fs ∧ Hx (Va fs f) lo hi r ∧ w.grownBy wr (some g)))
    (fun s _ => 600 - (intOf s).toNat)
  case atStart => exact ⟨lo, _, rfl, by omega, by omega, hst⟩
  case round =>
    clear hst
    obtain ⟨r, fs, rfl, hlr, hr6, hR⟩ := hrel
    obtain ⟨hB, hP, hX, hG⟩ := hR.out
    have hgl := hP.len
    haveI := lat_nonempty wr
    obtain ⟨c, hcd⟩ : ∃ c, Hid (c = 2 * r + 1) := ⟨_, ⟨rfl⟩⟩
    have hc' := hcd.out
    have e1 : (2 : Int) * r + 1 = (c : Nat) := by omega
    by_cases hch : hi ≤ c
    · have hd0 : (hi : Int) ≤ c := by omega
      have hfin : Hid (Br wr base (.slice (some ⟨g, 0, none⟩) es.length cap) fs ∧ Pm f (f + hi) es fs ∧ Hq (Va fs f) lo hi ∧ w.grownBy wr (some g)) := ⟨hB, hP, hX.done fun d h1 h2 h3 => by omega, hG⟩
      clear hR hB hP hX hG hgl hc'
      go_wp2_with fail
      first | go_end0 | refine bodyPost_ret (results_none rfl _ _ _) rfl ?_
      exact ⟨rfl, fs, hfin.out⟩
    · have hd0 : decide ((hi : Int) ≤ c) = false := by simp; omega
      have hd00 : decide (hi ≤ c) = false := by simp; omega
      obtain ⟨t, ht⟩ : ∃ t, Hid (t = f + r) := ⟨_, ⟨rfl⟩⟩
      obtain ⟨u, hu⟩ : ∃ u, Hid (u = f + c) := ⟨_, ⟨rfl⟩⟩
      have ht' := ht.out
      have hu' := hu.out
      have e2 : (f : Int) + r = (t : Nat) := by omega
      have e3 : (f : Int) + c = (u : Nat) := by omega
      obtain ⟨x, hx⟩ := some8 (es := fs) (k := t) (by omega)
      obtain ⟨y, hy⟩ := some8 (es := fs) (k := u) (by omega)
      obtain ⟨_, e9, -, -, k1, f1⟩ := hB.at hx
      cases e9
      obtain ⟨_, e9, -, -, k2, -⟩ := hB.at hy
      cases e9
      have kk1 := lat_cell k1
      have kk2 := lat_cell k2
      have htl : t < es.length := by omega
      have hul : u < es.length := by omega
      have vx : Va fs f r = x.toNat := va_some (by rw [← ht']; exact hx)
      have vy : Va fs f c = y.toNat := va_some (by rw [← hu']; exact hy)
      by_cases h1c : c + 1 < hi
      · have hd1 : (c : Int) + 1 < hi := by omega
        obtain ⟨u2, hu2⟩ : ∃ u2, Hid (u2 = u + 1) := ⟨_, ⟨rfl⟩⟩
        obtain ⟨c2, hc2⟩ : ∃ c2, Hid (c2 = c + 1) := ⟨_, ⟨rfl⟩⟩
        have hu3 := hu2.out
        have hc2' := hc2.out
        have e4 : (u : Int) + 1 = (u2 : Nat) := by omega
        have e5 : (c : Int) + 1 = (c2 : Nat) := by omega
        have e6 : (f : Int) + c2 = (u2 : Nat) := by omega
        obtain ⟨z, hz⟩ := some8 (es := fs) (k := u2) (by omega)
        obtain ⟨_, e9, -, -, k3, -⟩ := hB.at hz
        cases e9
        have kk3 := lat_cell k3
        have hu2l : u2 < es.length := by omega
        have hu2' : u2 = f + c2 := by omega
        have vz : Va fs f c2 = z.toNat := va_some (by rw [← hu2']; exact hz)
        have hd2 : (c2 : Int) < hi := by omega
        have hcb : c2 ≤ 256 ∧ u2 ≤ 256 := by omega
        by_cases hyz : y < z
        · have hdy : decide (y < z) = true := by simpa using hyz
          have ka := fun q : Lat wr => lat_less q y z hdy
          have hdt : ∀ d, 0 < d → d < hi → (d - 1) / 2 = r → Va fs f d ≤ Va fs f c2 := fun d h1 h2 h3 => by
            have : d = c ∨ d = c2 := by omega
            rw [UInt8.lt_iff_toNat_lt] at hyz
            rcases this with rfl | rfl <;> omega
          replace hdt : Hid _ := ⟨hdt⟩
          have hhid : Hid (t = f + r ∧ u2 = f + c2 ∧ (c2 = 2 * r + 2 ∧ 0 < c2 ∧ c2 < hi ∧ (c2 - 1) / 2 = r)) := ⟨by omega⟩
          have hall : Hid (_ ∧ _ ∧ _ ∧ _ ∧ _ ∧ _ ∧ _ ∧ _) := ⟨hB, hP, hX, hG, hx, hz, vx, vz⟩
          clear hR hB hP hX hG hx hy hz vx vy vz hgl hc' ht' hu' hu3 hc2' hu2' hyz h1c hch
          go_wp2_with fail
          refine wp_region_lat (by kernel_rfl) (by kernel_rfl) ?_
          repeat (go_big_quiet_step (fail))
          go_big_quiet_step ((go_at_call 62; exact ka _))
          repeat (go_big_quiet_step (fail))
          refine wpQuiet_nil ?_
          intro _ hw'
          obtain ⟨x0, hw''⟩ := hw'
          subst hw''
          go_wp2_with fail
          obtain ⟨hB, hP, hX, hG, hx, hz, vx, vz⟩ := hall.out
          obtain ⟨ht', hu2', hc'⟩ := hhid.out
          have hgl := hP.len
          have hp := x0.h
          have hBp := hB.keep0 hp
          have hGp := grown_add hG hp
          generalize x0.W = w5 at *
          have k1 := grown_cell hp k1
          have k3 := grown_cell hp k3
          have f1 : ∀ k, w5.frozen? ⟨g, k, none⟩ = false := fun k => (hBp.at hx).elim fun _ h => by obtain ⟨e, _, _, _, h5⟩ := h; cases e; exact h5 k
          haveI := lat_nonempty w5
          have kk1 := lat_cell k1
          have kk2 := lat_cell k3
          by_cases hxy : x < z
          · have hdx : decide (x < z) = true := by simpa using hxy
            have kb := fun q : Lat w5 => lat_less q x z hdx
            have hX2 : Hx (Va (sw fs t u2 x z) f) lo hi c2 := hX.step hlr (by omega) (by omega) (by omega) hdt.out (by rw [vx, vz]; rw [UInt8.lt_iff_toNat_lt] at hxy; exact hxy)
              (by rw [vz]; exact va_some (by rw [← ht', sw_at hx hz, if_neg (by omega), if_pos rfl])) (by rw [vx]; exact va_some (by rw [← hu2', sw_at hx hz, if_pos rfl])) (fun k h1 h2 => Va.congr (by rw [sw_at hx hz, if_neg (by omega), if_neg (by omega)]))
            have hP2 := hP.trans (sw_pm hx hz (by omega) (by omega) (by omega) (by omega))
            have htu : t ≠ u2 := by omega
            have hcc : c2 ≤ 256 ∧ r < c2 ∧ lo ≤ c2 := by omega
            replace hX2 : Hid _ := ⟨hX2⟩
            replace hP2 : Hid _ := ⟨hP2⟩
            replace hBp : Hid _ := ⟨hBp⟩
            replace hGp : Hid _ := ⟨hGp⟩
            replace hx : Hid _ := ⟨hx⟩
            replace hz : Hid _ := ⟨hz⟩
            clear hP hX hgl hc' ht' hu2' vx vz hB hG hp hall
            go_wp2_with fail
            refine wp_region_lat (by kernel_rfl) (by kernel_rfl) ?_
            repeat (go_big_quiet_step (fail))
            go_big_quiet_step ((go_at_call 62; exact kb _))
            repeat (go_big_quiet_step (fail))
            refine wpQuiet_nil ?_
            intro _ hw'
            obtain ⟨x0, hw''⟩ := hw'
            subst hw''
            have hp := x0.h
            have hB6 := hBp.out.keep0 hp
            have hG6 := grown_add hGp.out hp
            generalize x0.W = w6 at *
            have k1 := grown_cell hp k1
            have k3 := grown_cell hp k3
            have f1 : ∀ k, w6.frozen? ⟨g, k, none⟩ = false := fun k => (hB6.at hx.out).elim fun _ h => by obtain ⟨e, _, _, _, h5⟩ := h; cases e; exact h5 k
            obtain ⟨s1, s2⟩ := hB6.swap hx.out hz.out
            have hst2 : Hid (Br (World.drew (World.setCell (World.setCell w6 ⟨g, t, none⟩ (u8 z)) ⟨g, u2, none⟩ (u8 x))) base (.slice (some ⟨g, 0, none⟩) es.length cap) (sw fs t u2 x z) ∧ Pm f (f + hi) es (sw fs t u2 x z) ∧ Hx (Va (sw fs t u2 x z) f) lo hi c2 ∧ w.grownBy (World.drew (World.setCell (World.setCell w6 ⟨g, t, none⟩ (u8 z)) ⟨g, u2, none⟩ (u8 x))) (some g)) := ⟨s1, hP2.out, hX2.out, hG6.trans s2⟩
            clear kk1 kk2 hp hB6 hG6 s1 s2 hBp hGp
            go_wp2_with fail
            go_region
            go_wp2_with fail
            exact ⟨⟨c2, _, by first | rfl | simp, by omega, by omega, hst2⟩, by simp [intOf]; omega⟩
          · have hdx : decide (x < z) = false := by simpa using hxy
            have kb := fun q : Lat w5 => lat_less q x z hdx
            have hfin : Hid (Br w5 base (.slice (some ⟨g, 0, none⟩) es.length cap) fs ∧ Pm f (f + hi) es fs ∧ Hq (Va fs f) lo hi ∧ w.grownBy w5 (some g)) := ⟨hBp, hP, hX.done fun d h1 h2 h3 => by
              have h4 := hdt.out d h1 h2 h3
              rw [UInt8.lt_iff_toNat_lt] at hxy
              omega, hGp⟩
            clear hP hX hgl hc' ht' hu2' vx vz hB hG hp hBp hGp hx hz hall
            go_wp2_with fail
            refine wp_region_lat (by kernel_rfl) (by kernel_rfl) ?_
            repeat (go_big_quiet_step (fail))
            go_big_quiet_step ((go_at_call 62; exact kb _))
            repeat (go_big_quiet_step (fail))
            refine wpQuiet_nil ?_
            intro _ hw'
            obtain ⟨x0, hw''⟩ := hw'
            subst hw''
            have hfin2 : Hid (Br x0.W base (.slice (some ⟨g, 0, none⟩) es.length cap) fs ∧ Pm f (f + hi) es fs ∧ Hq (Va fs f) lo hi ∧ w.grownBy x0.W (some g)) := ⟨hfin.out.1.keep0 x0.h, hfin.out.2.1, hfin.out.2.2.1, grown_add hfin.out.2.2.2 x0.h⟩
            go_wp2_with fail
            first | go_end0 | refine bodyPost_ret (results_none rfl _ _ _) rfl ?_
            exact ⟨rfl, fs, hfin2.out⟩
        · have hdy : decide (y < z) = false := by simpa using hyz
          have ka := fun q : Lat wr => lat_less q y z hdy
          have hdt : ∀ d, 0 < d → d < hi → (d - 1) / 2 = r → Va fs f d ≤ Va fs f c := fun d h1 h2 h3 => by
            have : d = c ∨ d = c2 := by omega
            rw [UInt8.lt_iff_toNat_lt] at hyz
            rcases this with rfl | rfl <;> omega
          replace hdt : Hid _ := ⟨hdt⟩
          have hhid : Hid (t = f + r ∧ u = f + c ∧ (c = 2 * r + 1 ∧ 0 < c ∧ c < hi ∧ (c - 1) / 2 = r)) := ⟨by omega⟩
          have hall : Hid (_ ∧ _ ∧ _ ∧ _ ∧ _ ∧ _ ∧ _ ∧ _) := ⟨hB, hP, hX, hG, hx, hy, vx, vy⟩
          clear hR hB hP hX hG hx hy hz vx vy vz hgl hc' ht' hu' hu3 hc2' hu2' hyz h1c hch
          go_wp2_with fail
          refine wp_region_lat (by kernel_rfl) (by kernel_rfl) ?_
          repeat (go_big_quiet_step (fail))
          go_big_quiet_step ((go_at_call 62; exact ka _))
          repeat (go_big_quiet_step (fail))
          refine wpQuiet_nil ?_
          intro _ hw'
          obtain ⟨x0, hw''⟩ := hw'
          subst hw''
          go_wp2_with fail
          obtain ⟨hB, hP, hX, hG, hx, hy, vx, vy⟩ := hall.out
          obtain ⟨ht', hu', hc'⟩ := hhid.out
          have hgl := hP.len
          have hp := x0.h
          have hBp := hB.keep0 hp
          have hGp := grown_add hG hp
          generalize x0.W = w5 at *
          have k1 := grown_cell hp k1
          have k2 := grown_cell hp k2
          have f1 : ∀ k, w5.frozen? ⟨g, k, none⟩ = false := fun k => (hBp.at hx).elim fun _ h => by obtain ⟨e, _, _, _, h5⟩ := h; cases e; exact h5 k
          haveI := lat_nonempty w5
          have kk1 := lat_cell k1
          have kk2 := lat_cell k2
          by_cases hxy : x < y
          · have hdx : decide (x < y) = true := by simpa using hxy
            have kb := fun q : Lat w5 => lat_less q x y hdx
            have hX2 : Hx (Va (sw fs t u x y) f) lo hi c := hX.step hlr (by omega) (by omega) (by omega) hdt.out (by rw [vx, vy]; rw [UInt8.lt_iff_toNat_lt] at hxy; exact hxy)
              (by rw [vy]; exact va_some (by rw [← ht', sw_at hx hy, if_neg (by omega), if_pos rfl])) (by rw [vx]; exact va_some (by rw [← hu', sw_at hx hy, if_pos rfl])) (fun k h1 h2 => Va.congr (by rw [sw_at hx hy, if_neg (by omega), if_neg (by omega)]))
            have hP2 := hP.trans (sw_pm hx hy (by omega) (by omega) (by omega) (by omega))
            have htu : t ≠ u := by omega
            have hcc : c ≤ 256 ∧ r < c ∧ lo ≤ c := by omega
            replace hX2 : Hid _ := ⟨hX2⟩
            replace hP2 : Hid _ := ⟨hP2⟩
            replace hBp : Hid _ := ⟨hBp⟩
            replace hGp : Hid _ := ⟨hGp⟩
            replace hx : Hid _ := ⟨hx⟩
            replace hy : Hid _ := ⟨hy⟩
            clear hP hX hgl hc' ht' hu' vx vy hB hG hp hall
            go_wp2_with fail
            refine wp_region_lat (by kernel_rfl) (by kernel_rfl) ?_
            repeat (go_big_quiet_step (fail))
            go_big_quiet_step ((go_at_call 62; exact kb _))
            repeat (go_big_quiet_step (fail))
            refine wpQuiet_nil ?_
            intro _ hw'
            obtain ⟨x0, hw''⟩ := hw'
            subst hw''
            have hp := x0.h
            have hB6 := hBp.out.keep0 hp
            have hG6 := grown_add hGp.out hp
            generalize x0.W = w6 at *
            have k1 := grown_cell hp k1
            have k2 := grown_cell hp k2
            have f1 : ∀ k, w6.frozen? ⟨g, k, none⟩ = false := fun k => (hB6.at hx.out).elim fun _ h => by obtain ⟨e, _, _, _, h5⟩ := h; cases e; exact h5 k
            obtain ⟨s1, s2⟩ := hB6.swap hx.out hy.out
            have hst2 : Hid (Br (World.drew (World.setCell (World.setCell w6 ⟨g, t, none⟩ (u8 y)) ⟨g, u, none⟩ (u8 x))) base (.slice (some ⟨g, 0, none⟩) es.length cap) (sw fs t u x y) ∧ Pm f (f + hi) es (sw fs t u x y) ∧ Hx (Va (sw fs t u x y) f) lo hi c ∧ w.grownBy (World.drew (World.setCell (World.setCell w6 ⟨g, t, none⟩ (u8 y)) ⟨g, u, none⟩ (u8 x))) (some g)) := ⟨s1, hP2.out, hX2.out, hG6.trans s2⟩
            clear kk1 kk2 hp hB6 hG6 s1 s2 hBp hGp
            go_wp2_with fail
            go_region
            go_wp2_with fail
            exact ⟨⟨c, _, by first | rfl | simp, by omega, by omega, hst2⟩, by simp [intOf]; omega⟩
          · have hdx : decide (x < y) = false := by simpa using hxy
            have kb := fun q : Lat w5 => lat_less q x y hdx
            have hfin : Hid (Br w5 base (.slice (some ⟨g, 0, none⟩) es.length cap) fs ∧ Pm f (f + hi) es fs ∧ Hq (Va fs f) lo hi ∧ w.grownBy w5 (some g)) := ⟨hBp, hP, hX.done fun d h1 h2 h3 => by
              have h4 := hdt.out d h1 h2 h3
              rw [UInt8.lt_iff_toNat_lt] at hxy
              omega, hGp⟩
            clear hP hX hgl hc' ht' hu' vx vy hB hG hp hBp hGp hx hy hall
            go_wp2_with fail
            refine wp_region_lat (by kernel_rfl) (by kernel_rfl) ?_
            repeat (go_big_quiet_step (fail))
            go_big_quiet_step ((go_at_call 62; exact kb _))
            repeat (go_big_quiet_step (fail))
            refine wpQuiet_nil ?_
            intro _ hw'
            obtain ⟨x0, hw''⟩ := hw'
            subst hw''
            have hfin2 : Hid (Br x0.W base (.slice (some ⟨g, 0, none⟩) es.length cap) fs ∧ Pm f (f + hi) es fs ∧ Hq (Va fs f) lo hi ∧ w.grownBy x0.W (some g)) := ⟨hfin.out.1.keep0 x0.h, hfin.out.2.1, hfin.out.2.2.1, grown_add hfin.out.2.2.2 x0.h⟩
            go_wp2_with fail
            first | go_end0 | refine bodyPost_ret (results_none rfl _ _ _) rfl ?_
            exact ⟨rfl, fs, hfin2.out⟩
      · have hd1 : decide ((c : Int) + 1 < hi) = false := by simp; omega
        have hd11 : decide (c + 1 < hi) = false := by simp; omega
        have hdt : ∀ d, 0 < d → d < hi → (d - 1) / 2 = r → Va fs f d ≤ Va fs f c := fun d h1 h2 h3 => by
          have : d = c := by omega
          rw [this]
          exact Nat.le_refl _
        replace hdt : Hid _ := ⟨hdt⟩
        have hhid : Hid (t = f + r ∧ u = f + c ∧ (c = 2 * r + 1 ∧ 0 < c ∧ c < hi ∧ (c - 1) / 2 = r)) := ⟨by omega⟩
        have hall : Hid (_ ∧ _ ∧ _ ∧ _ ∧ _ ∧ _ ∧ _ ∧ _) := ⟨hB, hP, hX, hG, hx, hy, vx, vy⟩
        clear hR hB hP hX hG hx hy vx vy hgl hc' ht' hu' h1c hch
        go_wp2_with fail
        refine wp_region_lat (by kernel_rfl) (by kernel_rfl) ?_
        repeat (go_big_quiet_step (fail))
        refine wpQuiet_nil ?_
        intro _ hw'
        obtain ⟨x0, hw''⟩ := hw'
        subst hw''
        go_wp2_with fail
        obtain ⟨hB, hP, hX, hG, hx, hy, vx, vy⟩ := hall.out
        obtain ⟨ht', hu', hc'⟩ := hhid.out
        have hgl := hP.len
        have hp := x0.h
        have hBp := hB.keep0 hp
        have hGp := grown_add hG hp
        generalize x0.W = w5 at *
        have k1 := grown_cell hp k1
        have k2 := grown_cell hp k2
        have f1 : ∀ k, w5.frozen? ⟨g, k, none⟩ = false := fun k => (hBp.at hx).elim fun _ h => by obtain ⟨e, _, _, _, h5⟩ := h; cases e; exact h5 k
        haveI := lat_nonempty w5
        have kk1 := lat_cell k1
        have kk2 := lat_cell k2
        by_cases hxy : x < y
        · have hdx : decide (x < y) = true := by simpa using hxy
          have kb := fun q : Lat w5 => lat_less q x y hdx
          have hX2 : Hx (Va (sw fs t u x y) f) lo hi c := hX.step hlr (by omega) (by omega) (by omega) hdt.out (by rw [vx, vy]; rw [UInt8.lt_iff_toNat_lt] at hxy; exact hxy)
            (by rw [vy]; exact va_some (by rw [← ht', sw_at hx hy, if_neg (by omega), if_pos rfl])) (by rw [vx]; exact va_some (by rw [← hu', sw_at hx hy, if_pos rfl])) (fun k h1 h2 => Va.congr (by rw [sw_at hx hy, if_neg (by omega), if_neg (by omega)]))
          have hP2 := hP.trans (sw_pm hx hy (by omega) (by omega) (by omega) (by omega))
          have htu : t ≠ u := by omega
          have hcc : c ≤ 256 ∧ r < c ∧ lo ≤ c := by omega
          replace hX2 : Hid _ := ⟨hX2⟩
          replace hP2 : Hid _ := ⟨hP2⟩
          replace hBp : Hid _ := ⟨hBp⟩
          replace hGp : Hid _ := ⟨hGp⟩
          replace hx : Hid _ := ⟨hx⟩
          replace hy : Hid _ := ⟨hy⟩
          clear hP hX hgl hc' ht' hu' vx vy hB hG hp hall
          go_wp2_with fail
          refine wp_region_lat (by kernel_rfl) (by kernel_rfl) ?_
          repeat (go_big_quiet_step (fail))
          go_big_quiet_step ((go_at_call 62; exact kb _))
          repeat (go_big_quiet_step (fail))
          refine wpQuiet_nil ?_
          intro _ hw'
          obtain ⟨x0, hw''⟩ := hw'
          subst hw''
          have hp := x0.h
          have hB6 := hBp.out.keep0 hp
          have hG6 := grown_add hGp.out hp
          generalize x0.W = w6 at *
          have k1 := grown_cell hp k1
          have k2 := grown_cell hp k2
          have f1 : ∀ k, w6.frozen? ⟨g, k, none⟩ = false := fun k => (hB6.at hx.out).elim fun _ h => by obtain ⟨e, _, _, _, h5⟩ := h; cases e; exact h5 k
          obtain ⟨s1, s2⟩ := hB6.swap hx.out hy.out
          have hst2 : Hid (Br (World.drew (World.setCell (World.setCell w6 ⟨g, t, none⟩ (u8 y)) ⟨g, u, none⟩ (u8 x))) base (.slice (some ⟨g, 0, none⟩) es.length cap) (sw fs t u x y) ∧ Pm f (f + hi) es (sw fs t u x y) ∧ Hx (Va (sw fs t u x y) f) lo hi c ∧ w.grownBy (World.drew (World.setCell (World.setCell w6 ⟨g, t, none⟩ (u8 y)) ⟨g, u, none⟩ (u8 x))) (some g)) := ⟨s1, hP2.out, hX2.out, hG6.trans s2⟩
          clear kk1 kk2 hp hB6 hG6 s1 s2 hBp hGp
          go_wp2_with fail
          go_region
          go_wp2_with fail
          exact ⟨⟨c, _, by first | rfl | simp, by omega, by omega, hst2⟩, by simp [intOf]; omega⟩
        · have hdx : decide (x < y) = false := by simpa using hxy
          have kb := fun q : Lat w5 => lat_less q x y hdx
          have hfin : Hid (Br w5 base (.slice (some ⟨g, 0, none⟩) es.length cap) fs ∧ Pm f (f + hi) es fs ∧ Hq (Va fs f) lo hi ∧ w.grownBy w5 (some g)) := ⟨hBp, hP, hX.done fun d h1 h2 h3 => by
            have h4 := hdt.out d h1 h2 h3
            rw [UInt8.lt_iff_toNat_lt] at hxy
            omega, hGp⟩
          clear hP hX hgl hc' ht' hu' vx vy hB hG hp hBp hGp hx hy hall
          go_wp2_with fail
          refine wp_region_lat (by kernel_rfl) (by kernel_rfl) ?_
          repeat (go_big_quiet_step (fail))
          go_big_quiet_step ((go_at_call 62; exact kb _))
          repeat (go_big_quiet_step (fail))
          refine wpQuiet_nil ?_
          intro _ hw'
          obtain ⟨x0, hw''⟩ := hw'
          subst hw''
          have hfin2 : Hid (Br x0.W base (.slice (some ⟨g, 0, none⟩) es.length cap) fs ∧ Pm f (f + hi) es fs ∧ Hq (Va fs f) lo hi ∧ w.grownBy x0.W (some g)) := ⟨hfin.out.1.keep0 x0.h, hfin.out.2.1, hfin.out.2.2.1, grown_add hfin.out.2.2.2 x0.h⟩
          go_wp2_with fail
          first | go_end0 | refine bodyPost_ret (results_none rfl _ _ _) rfl ?_
          exact ⟨rfl, fs, hfin2.out⟩
end Go.Proofs.Ytpcdmjalfabbmaa
