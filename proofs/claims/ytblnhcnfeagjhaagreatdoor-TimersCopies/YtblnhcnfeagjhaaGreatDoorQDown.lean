/- container/heap's down. -/
import Derived.Test.YtblnhcnfeagjhaaGreatDoorQUp
namespace Go.Proofs.YtblnhcnfeagjhaaGreatDoor.Q
open Go.RowKit Go.IntWalk Go.Maps
set_option linter.unusedVariables false
/-- What down's answer tells. -/
def Dn (es fs : List E) (n i0 : Nat) (b : Bool) : Prop := (b = true → Hp fs n) ∧ (b = false → fs = es ∧ Hu es n i0)
theorem down_end {es fs : List E} {n i i0 : Nat} (hi : i0 ≤ i) (hD : Hd fs n i i0) (hk : ∀ k, 0 < k → k < n → (k - 1) / 2 = i → Ok fs k) (hE : i = i0 → fs = es) : Dn es fs n i0 (decide (i0 < i)) := by
  refine ⟨fun h => hD.stop hk (by simp at h; omega), fun h => ?_⟩
  have e : i = i0 := by simp at h; omega
  subst e
  exact ⟨hE rfl, hE rfl ▸ hD.stay hk⟩
theorem less_int (w : World) (x y : Int) {qb bm : Nat} {rv : Value} {es : List E} (h : Ln w qb bm rv es) {i j : Nat} {a b : E} (hi : es[i]? = some a) (hj : es[j]? = some b) (hx : Hid (x = i)) (hy : Hid (y = j)) :
    Calls Tryz.prog 174 #[.pointer (some ⟨qb, 0, none⟩), .int .i64 x, .int .i64 y] w fun r w' => r = .returned (.bool (ltb a b)) ∧ w.grownBy w' none := by
  rw [hx.out, hy.out]; exact less_any w h hi hj
theorem swap_int (w : World) (x y : Int) {qb bm : Nat} {rv : Value} {es : List E} (h : Ln w qb bm rv es) {i j : Nat} {a b : E} (hi : es[i]? = some a) (hj : es[j]? = some b) (hx : Hid (x = i)) (hy : Hid (y = j)) :
    Calls Tryz.prog 177 #[.pointer (some ⟨qb, 0, none⟩), .int .i64 x, .int .i64 y] w fun r w' => r = .returned (.tuple #[]) ∧ Ln w' qb bm rv (swp es i j a b) ∧ Tn w w' qb bm rv rv := by
  rw [hx.out, hy.out]; exact swap_any w h hi hj
set_option maxRecDepth 100000 in
set_option maxHeartbeats 8000000 in
theorem down_any (w : World) {qb bm : Nat} {rv : Value} {es : List E} (h : Ln w qb bm rv es) (i0 n : Nat) (hi0 : i0 ≤ n) (hn : n ≤ es.length) (hd : Hd es n i0 i0) :
    Calls Tryz.prog 106 #[.iface 139 (.pointer (some ⟨qb, 0, none⟩)), .int .i64 i0, .int .i64 n] w fun r w' => ∃ b, r = .returned (.bool b) ∧ ∃ es', Ln w' qb bm rv es' ∧ Tn w w' qb bm rv rv ∧ Sm es es' n ∧ Dn es es' n i0 b := by
  have m1 := m_less
  have m2 := m_swap
  have hl := h.len
  go_enter Tryz.func106, Tryz.ntmps106
  go_wp2_with fail
  go_loopw [7] (fun v wr => ∃ (k : Nat) (fs : List E), v = .int .i64 k ∧ i0 ≤ k ∧ k ≤ n ∧ Hid (Ln wr qb bm rv fs ∧ Tn w wr qb bm rv rv ∧ Hd fs n k i0 ∧ Sm es fs n ∧ (k = i0 → fs = es)))
    (fun v _ => n - (intOf v).toNat)
  case atStart => exact ⟨i0, es, rfl, by omega, by omega, ⟨h, Tn.of0 (grown_refl w), hd, Sm.refl _ _, fun _ => rfl⟩⟩
  case round =>
    clear hd h
    obtain ⟨i, fs, rfl, hi0i, hin, ⟨hL, hT, hD, hS, hE⟩⟩ := hrel
    have hfl := hS.len
    replace hL : Hid _ := ⟨hL⟩
    replace hT : Hid _ := ⟨hT⟩
    replace hD : Hid _ := ⟨hD⟩
    replace hS : Hid _ := ⟨hS⟩
    replace hE : Hid _ := ⟨hE⟩
    obtain ⟨j1, hj1⟩ : ∃ j1, j1 = 2 * i + 1 := ⟨_, rfl⟩
    by_cases hge : n ≤ j1
    · have hd1 : decide (2 * (i : Int) + 1 ≥ n) = true := by simp; omega
      have hkids : Hid (∀ k, 0 < k → k < n → (k - 1) / 2 = i → Ok fs k) := ⟨fun k h0 hk hp x y hx hy => by omega⟩
      have hend := down_end (i := i) hi0i hD.out hkids.out hE.out
      go_wp2_with fail
      go_ret
      exact ⟨_, rfl, fs, hL.out, hT.out, hS.out, hend⟩
    · have hd1 : decide (2 * (i : Int) + 1 ≥ n) = false := by simp; omega
      have hd0 : decide (2 * (i : Int) + 1 < 0) = false := by simp; omega
      obtain ⟨a, ha⟩ := some_at (es := fs) (k := i) (by omega)
      obtain ⟨b1, hb1⟩ := some_at (es := fs) (k := j1) (by omega)
      obtain ⟨j2, hj2⟩ : ∃ j2, j2 = j1 + 1 := ⟨_, rfl⟩
      by_cases h2 : j2 < n
      · have hd2 : decide (2 * (i : Int) + 1 + 1 < n) = true := by simp; omega
        have hd2' : 2 * (i : Int) + 1 + 1 < n := by omega
        obtain ⟨b2, hb2⟩ := some_at (es := fs) (k := j2) (by omega)
        by_cases hl2 : lt b2 b1
        · have hdl : ltb b2 b1 = true := ltb_iff.2 hl2
          have hm : Hid (∀ k c, 0 < k → k < n → (k - 1) / 2 = i → fs[k]? = some c → ¬ lt c b2) := ⟨fun k c h0 hk hp hc => by
            have : k = j1 ∨ k = j2 := by omega
            rcases this with rfl | rfl
            · rw [hb1] at hc; cases hc; exact lt_asymm hl2
            · rw [hb2] at hc; cases hc; exact lt_irrefl _⟩
          go_wp2_with fail
          refine (less_int wr _ _ hL.out hb2 hb1 ⟨by omega⟩ ⟨by omega⟩).mono ?_
          rintro r w6 ⟨rfl, hg6⟩
          go_wp2_with fail
          by_cases hlt : lt b2 a
          · have hd : ltb b2 a = true := ltb_iff.2 hlt
            refine (less_int w6 _ _ (hL.out.keep hg6) hb2 ha ⟨by omega⟩ ⟨by omega⟩).mono ?_
            rintro r w7 ⟨rfl, hg7⟩
            have hgc := grown_none hg6 hg7
            go_wp2_with fail
            refine (swap_int w7 _ _ (hL.out.keep hgc) ha hb2 ⟨by omega⟩ ⟨by omega⟩).mono ?_
            rintro r w8 ⟨rfl, hL8, hT8⟩
            go_wp2_with fail
            go_roundw
            case rel =>
              exact ⟨j2, _, by congr 1; omega, by omega, by omega, ⟨hL8, (hT.out.trans (Tn.of0 hgc)).trans hT8, hD.out.down hi0i (by omega) (by omega) (by omega) ha hb2 hlt hm.out, hS.out.trans (Sm.swp ha hb2 (by omega) (by omega)), fun e => by omega⟩⟩
            case measure => simp [intOf]; omega
          · have hd : ltb b2 a = false := ltb_f hlt
            have hkids : Hid (∀ k, 0 < k → k < n → (k - 1) / 2 = i → Ok fs k) := ⟨fun k h0 hk hp x y hx hy => by
              rw [hp, ha] at hy
              cases hy
              exact nlt_trans (hm.out k x h0 hk hp hx) hlt⟩
            have hend := down_end (i := i) hi0i hD.out hkids.out hE.out
            refine (less_int w6 _ _ (hL.out.keep hg6) hb2 ha ⟨by omega⟩ ⟨by omega⟩).mono ?_
            rintro r w7 ⟨rfl, hg7⟩
            have hgc := grown_none hg6 hg7
            go_wp2_with fail
            go_ret
            exact ⟨_, rfl, fs, hL.out.keep hgc, hT.out.trans (Tn.of0 hgc), hS.out, hend⟩
        · have hdl : ltb b2 b1 = false := ltb_f hl2
          have hm : Hid (∀ k c, 0 < k → k < n → (k - 1) / 2 = i → fs[k]? = some c → ¬ lt c b1) := ⟨fun k c h0 hk hp hc => by
            have : k = j1 ∨ k = j2 := by omega
            rcases this with rfl | rfl
            · rw [hb1] at hc; cases hc; exact lt_irrefl _
            · rw [hb2] at hc; cases hc; exact hl2⟩
          go_wp2_with fail
          refine (less_int wr _ _ hL.out hb2 hb1 ⟨by omega⟩ ⟨by omega⟩).mono ?_
          rintro r w6 ⟨rfl, hg6⟩
          go_wp2_with fail
          by_cases hlt : lt b1 a
          · have hd : ltb b1 a = true := ltb_iff.2 hlt
            refine (less_int w6 _ _ (hL.out.keep hg6) hb1 ha ⟨by omega⟩ ⟨by omega⟩).mono ?_
            rintro r w7 ⟨rfl, hg7⟩
            have hgc := grown_none hg6 hg7
            go_wp2_with fail
            refine (swap_int w7 _ _ (hL.out.keep hgc) ha hb1 ⟨by omega⟩ ⟨by omega⟩).mono ?_
            rintro r w8 ⟨rfl, hL8, hT8⟩
            go_wp2_with fail
            go_roundw
            case rel =>
              exact ⟨j1, _, by congr 1; omega, by omega, by omega, ⟨hL8, (hT.out.trans (Tn.of0 hgc)).trans hT8, hD.out.down hi0i (by omega) (by omega) (by omega) ha hb1 hlt hm.out, hS.out.trans (Sm.swp ha hb1 (by omega) (by omega)), fun e => by omega⟩⟩
            case measure => simp [intOf]; omega
          · have hd : ltb b1 a = false := ltb_f hlt
            have hkids : Hid (∀ k, 0 < k → k < n → (k - 1) / 2 = i → Ok fs k) := ⟨fun k h0 hk hp x y hx hy => by
              rw [hp, ha] at hy
              cases hy
              exact nlt_trans (hm.out k x h0 hk hp hx) hlt⟩
            have hend := down_end (i := i) hi0i hD.out hkids.out hE.out
            refine (less_int w6 _ _ (hL.out.keep hg6) hb1 ha ⟨by omega⟩ ⟨by omega⟩).mono ?_
            rintro r w7 ⟨rfl, hg7⟩
            have hgc := grown_none hg6 hg7
            go_wp2_with fail
            go_ret
            exact ⟨_, rfl, fs, hL.out.keep hgc, hT.out.trans (Tn.of0 hgc), hS.out, hend⟩
      · have hd2 : decide (2 * (i : Int) + 1 + 1 < n) = false := by simp; omega
        have hd2' : ¬ 2 * (i : Int) + 1 + 1 < n := by omega
        have hm : Hid (∀ k c, 0 < k → k < n → (k - 1) / 2 = i → fs[k]? = some c → ¬ lt c b1) := ⟨fun k c h0 hk hp hc => by
          have : k = j1 := by omega
          subst this
          rw [hb1] at hc; cases hc; exact lt_irrefl _⟩
        have hg6 := grown_refl wr
        go_wp2_with fail
        by_cases hlt : lt b1 a
        · have hd : ltb b1 a = true := ltb_iff.2 hlt
          go_wp2_with fail
          refine (less_int wr _ _ (hL.out.keep hg6) hb1 ha ⟨by omega⟩ ⟨by omega⟩).mono ?_
          rintro r w7 ⟨rfl, hg7⟩
          have hgc := grown_none hg6 hg7
          go_wp2_with fail
          refine (swap_int w7 _ _ (hL.out.keep hgc) ha hb1 ⟨by omega⟩ ⟨by omega⟩).mono ?_
          rintro r w8 ⟨rfl, hL8, hT8⟩
          go_wp2_with fail
          go_roundw
          case rel =>
            exact ⟨j1, _, by congr 1; omega, by omega, by omega, ⟨hL8, (hT.out.trans (Tn.of0 hgc)).trans hT8, hD.out.down hi0i (by omega) (by omega) (by omega) ha hb1 hlt hm.out, hS.out.trans (Sm.swp ha hb1 (by omega) (by omega)), fun e => by omega⟩⟩
          case measure => simp [intOf]; omega
        · have hd : ltb b1 a = false := ltb_f hlt
          have hkids : Hid (∀ k, 0 < k → k < n → (k - 1) / 2 = i → Ok fs k) := ⟨fun k h0 hk hp x y hx hy => by
            rw [hp, ha] at hy
            cases hy
            exact nlt_trans (hm.out k x h0 hk hp hx) hlt⟩
          have hend := down_end (i := i) hi0i hD.out hkids.out hE.out
          go_wp2_with fail
          refine (less_int wr _ _ (hL.out.keep hg6) hb1 ha ⟨by omega⟩ ⟨by omega⟩).mono ?_
          rintro r w7 ⟨rfl, hg7⟩
          have hgc := grown_none hg6 hg7
          go_wp2_with fail
          go_ret
          exact ⟨_, rfl, fs, hL.out.keep hgc, hT.out.trans (Tn.of0 hgc), hS.out, hend⟩
end Go.Proofs.YtblnhcnfeagjhaaGreatDoor.Q
