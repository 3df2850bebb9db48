/- Trie.top: the node from which all hangs that begins so, and its key. -/
import Derived.Test.YtpcdmjalfabbmaaSub
import Derived.Test.YtpcdmjalfabbmaaEnd
import Derived.Test.YtpcdmjalfabbmaaEnn
import Derived.Test.YtpcdmjalfabbmaaTox
import Derived.Test.YtpcdmjalfabbmaaGet
namespace Go.Proofs.Ytpcdmjalfabbmaa
open Go.RowKit Go.Shelf Go.IntWalk Go.Maps
set_option linter.unusedVariables false
theorem sub_no {P : List K} {L : List E} (hL : ∀ x ∈ L, x.k ∈ P) {p : K} {c : UInt8} {l : K} (hp : p ∈ P) (hno : ∀ q, Kid P p q → ¬ p ++ [c] <+: q) : sub L (p ++ c :: l) = [] := by
  refine List.filter_eq_nil_iff.2 fun x hx h => ?_
  have h1 : p ++ c :: l <+: x.k := by simpa using h
  obtain ⟨k, h2, h3, _⟩ := kid_ex hp _ (Nat.le_refl _) (hL x hx) ((snoc_pre p c l).trans h1)
  exact hno k h2 h3
theorem sub_in {P : List K} (hc : Cl P) {L : List E} (hL : ∀ x ∈ L, x.k ∈ P) {p q : K} {c : UInt8} {l : K} (hK : Kid P p q) (hq : p ++ [c] <+: q) (h : p ++ c :: l <+: q) : sub L (p ++ c :: l) = sub L q := by
  refine List.filter_congr fun x hx => ?_
  rw [decide_eq_decide]
  constructor
  · intro h1
    obtain ⟨k, h2, h3, h4⟩ := kid_ex hK.up _ (Nat.le_refl _) (hL x hx) ((snoc_pre p c l).trans h1)
    rw [← h2.un hc hK h3 hq]
    exact h4
  · intro h1
    exact h.trans h1
theorem sub_off {P : List K} (hc : Cl P) {L : List E} (hL : ∀ x ∈ L, x.k ∈ P) {p q : K} {c : UInt8} {l : K} (hK : Kid P p q) (hq : p ++ [c] <+: q) (hT : Top P (p ++ c :: l) p) (h : ¬ p ++ c :: l <+: q) : sub L (p ++ c :: l) = [] := by
  refine List.filter_eq_nil_iff.2 fun x hx h0 => ?_
  have h1 : p ++ c :: l <+: x.k := by simpa using h0
  obtain ⟨k, h2, h3, h4⟩ := kid_ex hK.up _ (Nat.le_refl _) (hL x hx) ((snoc_pre p c l).trans h1)
  rw [h2.un hc hK h3 hq] at h4
  rcases pre_lin h1 h4 with h5 | h5
  · exact h h5
  · exact hK.ne (pre_anti hK.pre (hT.2.2 q hK.lo h5))
set_option maxRecDepth 100000 in
set_option maxHeartbeats 4000000 in
theorem top_any (w : World) {tb : Nat} {P : List K} {nb mb : K → Nat} {lab : K → K} {L : List E} {m : Nat} (h : Tw w tb P nb mb lab (gt L) m) (hs : Srt L) (k : K) (hk : k.length ≤ 100000) :
    Calls Try.prog 33 #[ptr tb, .string (bt k)] w fun r w' => w.grownBy w' none ∧ ((r = .returned (.tuple #[.pointer none, .string (bt [])]) ∧ sub L k = []) ∨ ∃ q ∈ P, r = .returned (.tuple #[ptr (nb q), .string (bt q)]) ∧ sub L k = sub L q) := by
  have hLP : ∀ x ∈ L, x.k ∈ P := fun x hx => h.tm.key _ (by rw [hs.gt hx]; rfl)
  have hct := end_any w h k (by omega)
  have tl := bt_toList
  go_enter Try.func33, Try.ntmps33
  go_wp2_with fail
  refine hct.mono ?_
  rintro r w1 ⟨p, ab, hE, rfl, hg⟩
  have hpre := hE.1.2.1
  have hpP := hE.1.1
  by_cases hpk : p = k
  · subst hpk
    have hr : p.drop p.length = [] := by simp
    rw [hr, bt_nil]
    clear hct hr tl
    go_wp2
    go_ret2
    exact ⟨hg, .inr ⟨p, hpP, rfl, rfl⟩⟩
  · obtain ⟨c, l, hk2⟩ := pre_strict hpre hpk
    have hTop := hE.1
    rw [hk2] at hTop
    have hr : k.drop p.length = c :: l := by rw [hk2, List.drop_left' rfl]
    have htm := h.tm.keep hg
    obtain ⟨f, hkm, hF⟩ := htm.km p hpP
    have k3 := htm.c3 hpP
    have hsz2 := bt_size (c :: l)
    have hl0 : 0 < (c :: l).length := by simp
    have hlk : k.length = p.length + (c :: l).length := by rw [hk2, List.length_append]
    have hlen : (c :: l).length ≤ 100000 := by omega
    have ix := get_bt (k := c :: l) (i := 0) (c := c) rfl
    have hne2 : (c :: l == ([] : K)) = false := rfl
    haveI := lat_nonempty w1
    have k3 := lat_cell k3
    rw [hr]
    obtain ⟨rest, hrest⟩ : ∃ rest, Hid (c :: l = rest) := ⟨_, ⟨rfl⟩⟩
    have hne3 : rest ≠ [] := by rw [← hrest.out]; simp
    rw [hrest.out] at hsz2 hl0 hlen ix hne2 hlk ⊢
    replace hk2 : Hid _ := ⟨hk2⟩
    replace hr : Hid _ := ⟨hr⟩
    cases hc : f c with
    | none =>
      have hsub := sub_no (l := l) hLP hpP (hF.none.1 hc)
      rw [← hk2.out] at hsub
      have kl := fun q : Lat w1 => (hkm.kept (q.h.block _ hkm.lt (by simp))).look_none hc
      replace hsub : Hid _ := ⟨hsub⟩
      clear hct hTop hlk
      go_wp2_with fail
      refine wp_region_lat (by kernel_rfl) (by kernel_rfl) ?_
      repeat (go_big_quiet_step (fail))
      refine wpQuiet_nil ?_
      intro _ hw'
      obtain ⟨q, hw''⟩ := hw'
      subst hw''
      have hg2 := grown_none hg q.h
      go_wp2
      go_ret2
      exact ⟨hg2, .inl ⟨rfl, hsub.out⟩⟩
    | some b =>
      obtain ⟨q, hK, hcq, rfl⟩ := (hF c b).1 hc
      have kl := fun x : Lat w1 => (hkm.kept (x.h.block _ hkm.lt (by simp))).look hc
      have hlb := htm.lb p q hK
      have n0 := htm.c0 hK.lo
      have hqi : rest <+: lab q ↔ k <+: q := by
        conv => rhs; rw [hlb, hk2.out, hrest.out]
        exact (List.prefix_append_right_inj p).symm
      by_cases hqk : k <+: q
      · have hsub : sub L k = sub L q := by
          have := sub_in htm.cl hLP hK hcq (l := l) (by rw [← hk2.out]; exact hqk)
          rwa [← hk2.out] at this
        have hhas := fun x => has_any x (lab q) rest (b := true) ⟨by simpa using hqi.2 hqk⟩
        have hsum := fun x => bt_sum x p (lab q) (by have := congrArg List.length hlb; rw [List.length_append] at this; have := htm.len q hK.lo; omega)
        rw [← hlb] at hsum
        have htk : (bt k).extract 0 p.length = bt p := by rw [bt_take, hk2.out, List.take_left' rfl]
        have hszk := bt_size k
        have hkq := hK.lo
        replace hsub : Hid _ := ⟨hsub⟩
        replace hlb : Hid _ := ⟨hlb⟩
        replace hqi : Hid _ := ⟨hqi⟩
        have hE1 : ((k.length : Int) - rest.length) = p.length := by omega
        clear hct hTop
        go_wp2_with fail
        refine wp_region_lat (by kernel_rfl) (by kernel_rfl) ?_
        repeat (go_big_quiet_step (fail))
        refine wpQuiet_nil ?_
        intro _ hw'
        obtain ⟨x, hw''⟩ := hw'
        subst hw''
        have hg2 := grown_none hg x.h
        have n4 := grown_cell x.h n0
        generalize x.W = w4 at *
        clear kl k3 n0 x ix
        go_wp2_with fail
        refine (hhas w4).mono ?_
        rintro e2 w5 ⟨rfl, rfl⟩
        haveI := lat_nonempty w5
        have n5 := lat_cell n4
        go_wp2_with fail
        refine wp_region_lat (by kernel_rfl) (by kernel_rfl) ?_
        repeat (go_big_quiet_step (fail))
        refine wpQuiet_nil ?_
        intro _ hw'
        obtain ⟨x, hw''⟩ := hw'
        subst hw''
        have hg3 := grown_none hg2 x.h
        go_wp2
        go_ret2
        exact ⟨hg3, .inr ⟨q, hkq, rfl, hsub.out⟩⟩
      · have hsub : sub L k = [] := by
          have := sub_off htm.cl hLP hK hcq hTop (by rw [← hk2.out]; exact hqk)
          rwa [← hk2.out] at this
        have hhas := fun x => has_any x (lab q) rest (b := false) ⟨by simpa using fun h1 => hqk (hqi.1 h1)⟩
        replace hsub : Hid _ := ⟨hsub⟩
        replace hlb : Hid _ := ⟨hlb⟩
        replace hqi : Hid _ := ⟨hqi⟩
        clear hct hTop hlk
        go_wp2_with fail
        refine wp_region_lat (by kernel_rfl) (by kernel_rfl) ?_
        repeat (go_big_quiet_step (fail))
        refine wpQuiet_nil ?_
        intro _ hw'
        obtain ⟨x, hw''⟩ := hw'
        subst hw''
        have hg2 := grown_none hg x.h
        have n4 := grown_cell x.h n0
        generalize x.W = w4 at *
        clear kl k3 n0 x ix
        go_wp2_with fail
        refine (hhas w4).mono ?_
        rintro e2 w5 ⟨rfl, rfl⟩
        go_wp2
        go_ret2
        exact ⟨hg2, .inl ⟨rfl, hsub.out⟩⟩
end Go.Proofs.Ytpcdmjalfabbmaa
