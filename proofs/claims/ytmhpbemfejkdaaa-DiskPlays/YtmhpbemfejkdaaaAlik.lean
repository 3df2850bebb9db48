/- belfryref03.Same, and belfrylaw03.alike of two disks that tell the same. -/
import Derived.Test.YtmhpbemfejkdaaaRapp
namespace Go.Proofs.Ytmhpbemfejkdaaa
open Go.RowKit Go.IntWalk Go.Maps Go.Sort
set_option linter.unusedVariables false
set_option linter.unusedSimpArgs false

set_option maxRecDepth 100000 in
set_option maxHeartbeats 1000000 in
/-- belfryref03.Same, of numbers that are these. -/
theorem same_true (w : World) {N : Nat → Prop} (g gc : Nat) (k : Nat) (sv : Value) (l : List Sg) (hk : k = l.length) (hkl : l.length ≤ 128) (hc : Hid (∀ (j : Nat) (x : Sg), l[j]? = some x → w.cell? ⟨g, j, none⟩ = some (.int .i64 x.n))) (hs : Rws N w sv l) :
    Calls Try.prog 34 #[.slice (some ⟨g, 0, none⟩) k gc, sv] w fun r w' => r = .returned (.bool true) ∧ w.grownBy w' none := by
  subst hk
  obtain ⟨a, cap, rfl⟩ := hs.shape
  go_enter Try.func34, Try.ntmps34
  go_wp2_with fail
  go_loopw [5] (fun i wr => ∃ (j : Nat), j ≤ l.length ∧ i = .int .i64 j ∧ w.grownBy wr none) (fun i _ => l.length - (intOf i).toNat)
  case atStart => exact ⟨0, by omega, rfl, grown_refl _⟩
  case round =>
    obtain ⟨j, hj, rfl, hgr⟩ := hrel
    by_cases hjl : j < l.length
    · have hdj : decide ((j : Int) < (l.length : Int)) = true := by simp; omega
      obtain ⟨x, hx⟩ : ∃ x, l[j]? = some x := ⟨_, List.getElem?_eq_getElem hjl⟩
      obtain ⟨b, off, rfl, hN, hbl, d0, _, _⟩ := hs.at hx
      have d0 := grown_cell hgr d0
      have e0 := grown_cell hgr (hc.out j x hx)
      go_wp2_with fail
      haveI := lat_nonempty wr
      have c0 := lat_cell d0
      have c1 := lat_cell e0
      refine wp_region_lat (by kernel_rfl) (by kernel_rfl) ?_
      repeat (go_big_quiet_step (fail))
      refine wpQuiet_nil ?_
      intro _ hw'
      obtain ⟨q, hw''⟩ := hw'
      subst hw''
      clear c0 c1
      go_wp2
      go_roundw
      case rel => exact ⟨j + 1, by omega, by go_num, grown_none hgr q.h⟩
      case measure => simp [intOf]; omega
    · have hdj : decide ((j : Int) < (l.length : Int)) = false := by simp; omega
      go_wp2
      go_ret
      exact ⟨rfl, hgr⟩
theorem abs_len {l m : List Sg} (h : l.map Sg.abs = m.map Sg.abs) : l.length = m.length := by simpa using congrArg List.length h
set_option maxRecDepth 100000 in
set_option maxHeartbeats 4000000 in
/-- belfrylaw03.alike. -/
theorem alike_true (w : World) {sb bm rb : Nat} {N M : Nat → Prop} {l rl : List Sg} {root : List Int} (h : Dsk w sb bm N l root) (hR : Rsk w rb M rl root) (he : l.map Sg.abs = rl.map Sg.abs) :
    Calls Try.prog 22 #[.pointer (some ⟨sb, 0, none⟩), .pointer (some ⟨rb, 0, none⟩)] w fun r w' => r = .returned (.bool true) ∧ w.grownBy w' none := by
  obtain ⟨sv, c0, hs⟩ := hR.c0
  obtain ⟨a, cap, rfl⟩ := hs.shape
  have hll := abs_len he
  have hl128 := hR.len
  have HE : Hid (l.map Sg.abs = rl.map Sg.abs) := he
  have HLL : Hid (l.length = rl.length) := hll
  clear he hll
  go_enter Try.func22, Try.ntmps22
  go_wp2_with fail
  go_region_held3 (fun w' => w'.cell? ⟨rb, 0, none⟩ = some (.slice a rl.length cap))
    (first
      | exact grown_cell (grown_drew _) c0
      | exact grown_cell hgw3 c0
      | exact grown_cell hgw2 c0)
    ((first
      | (go_at_call 27
         refine (segments_any _ (h.grown0 (grown_drew _))).mono ?_
         rintro r w2 ⟨g, gc, rfl, hrow, hg2⟩
         have hgw2 := grown_none (grown_drew _) hg2)
      | (go_at_call 34
         refine (same_true _ g gc _ _ rl HLL.out hl128 (fun j x hx => by
           have hlx : (l.map Sg.n)[j]? = some x.n := by
             have e := congrArg (fun m => (m[j]?).map Prod.fst) HE.out
             simp only [List.getElem?_map, hx] at e
             rw [List.getElem?_map]
             cases hlj : l[j]? with
             | none => rw [hlj] at e; simp at e
             | some y => rw [hlj] at e; simpa [Sg.abs] using e
           have hc := hrow.cells (g := g) rfl j (.int .i64 x.n) (by rw [List.getElem?_map, hlx]; rfl)
           have hadd : (⟨g, 0, none⟩ : Addr).add j = ⟨g, j, none⟩ := by unfold Addr.add; split <;> simp_all
           rwa [hadd] at hc) (hs.grown hgw2 (by simp))).mono ?_
         rintro r w3 ⟨rfl, hg3⟩
         have hgw3 := grown_none hgw2 hg3)))
  have hd2 := h.grown0 hgw3
  have hR2 := hR.grown0 hgw3
  obtain ⟨rv, c1, hrb⟩ := hR2.c1
  obtain ⟨ra, rcap, rfl⟩ := hrb.1.shape
  obtain ⟨Z, HZ⟩ : ∃ Z, Hid (Z = strOfNums root) := ⟨_, rfl⟩
  have cvs : Hid (∀ (w' : World) v, Bts w'.heap.size w' v root → (convert 27 9 v).run Try.prog w' = .ok (.string Z) w') := fun w' v hv => by
    rw [HZ.out]
    exact run_conv hv
  clear hrow
  go_wp2_with fail
  refine wp_region_held_drew (S := fun w' => w'.cell? ⟨rb, 1, none⟩ = some (.slice ra root.length rcap) ∧ (convert 27 9 (.slice ra root.length rcap)).run Try.prog w' = .ok (.string Z) w') (by kernel_rfl) (by (try dsimp only); exact ⟨grown_cell (grown_drew _) c1, cvs.out _ _ (hrb.1.grown0 (grown_drew _))⟩) (fun hHeld => ?_)
  refine wpAnyH_take (i := 0) (v := ?_) rfl (by kernel_rfl) (by kernel_rfl) (by kernel_rfl) (fun _ _ _ h => h) (Or.inl ⟨by rfl, ?_⟩) (by assumption) ?_
  rotate_left
  · (intro w hSw; (try dsimp only at hSw); (try go_split_ands); go_simp; try with_reducible rfl)
  try simp only [List.getElem_toArray, List.getElem_cons_zero, List.getElem_cons_succ, Act.put, List.setIfInBounds_toArray, List.set_cons_zero, List.set_cons_succ]
  refine wpAnyH_take (i := 1) (v := ?_) rfl (by kernel_rfl) (by kernel_rfl) (by kernel_rfl) (fun _ _ _ h => h) (Or.inl ⟨by rfl, ?_⟩) (by assumption) ?_
  rotate_left
  · (intro w hSw; (try dsimp only at hSw); (try go_split_ands); go_simp; try with_reducible rfl)
  try simp only [List.getElem_toArray, List.getElem_cons_zero, List.getElem_cons_succ, Act.put, List.setIfInBounds_toArray, List.set_cons_zero, List.set_cons_succ]
  refine wpAnyH_take (i := 2) (v := ?_) rfl (by kernel_rfl) (by kernel_rfl) (by kernel_rfl) (fun _ _ _ h => h) (Or.inl ⟨by rfl, ?_⟩) (by assumption) ?_
  rotate_left
  · (intro w hSw; (try dsimp only at hSw); (try go_split_ands); go_simp; try with_reducible rfl)
  try simp only [List.getElem_toArray, List.getElem_cons_zero, List.getElem_cons_succ, Act.put, List.setIfInBounds_toArray, List.set_cons_zero, List.set_cons_succ]
  refine wpAnyH_take (i := 3) (v := ?_) rfl (by kernel_rfl) (by kernel_rfl) (by kernel_rfl) (fun _ _ _ h => h) (Or.inl ⟨by rfl, ?_⟩) (by assumption) ?_
  rotate_left
  · (intro w hSw; (try dsimp only at hSw); (try go_split_ands); go_simp; try with_reducible rfl)
  try simp only [List.getElem_toArray, List.getElem_cons_zero, List.getElem_cons_succ, Act.put, List.setIfInBounds_toArray, List.set_cons_zero, List.set_cons_succ]
  refine wpAnyH_take (i := 6) (v := ?_) rfl (by kernel_rfl) (by kernel_rfl) (by kernel_rfl) (fun _ _ _ h => h) (Or.inl ⟨by rfl, ?_⟩) (by assumption) ?_
  rotate_left
  · (intro w hSw; (try dsimp only at hSw); (try go_split_ands); go_simp; try with_reducible rfl)
  try simp only [List.getElem_toArray, List.getElem_cons_zero, List.getElem_cons_succ, Act.put, List.setIfInBounds_toArray, List.set_cons_zero, List.set_cons_succ]
  refine wpAnyH_take (i := 7) (v := ?_) rfl (by kernel_rfl) (by kernel_rfl) (by kernel_rfl) (fun _ _ _ h => h) (Or.inl ⟨by rfl, ?_⟩) (by assumption) ?_
  rotate_left
  · (intro w hSw; (try dsimp only at hSw); (try go_split_ands); go_simp; try with_reducible rfl)
  try simp only [List.getElem_toArray, List.getElem_cons_zero, List.getElem_cons_succ, Act.put, List.setIfInBounds_toArray, List.set_cons_zero, List.set_cons_succ]
  refine wpAnyH_take (i := 8) (v := ?_) rfl (by kernel_rfl) (by kernel_rfl) (by kernel_rfl) (fun _ _ _ h => h) (Or.inl ⟨by rfl, ?_⟩) (by assumption) ?_
  rotate_left
  · (intro w hSw; (try dsimp only at hSw); (try go_split_ands); go_simp; try with_reducible rfl)
  try simp only [List.getElem_toArray, List.getElem_cons_zero, List.getElem_cons_succ, Act.put, List.setIfInBounds_toArray, List.set_cons_zero, List.set_cons_succ]
  refine wpAnyH_take (i := 9) (v := ?_) rfl (by kernel_rfl) (by kernel_rfl) (by kernel_rfl) (fun _ _ _ h => h) (Or.inl ⟨by rfl, ?_⟩) (by assumption) ?_
  rotate_left
  · (intro w hSw; (try dsimp only at hSw); (try go_split_ands); go_simp; try with_reducible rfl)
  try simp only [List.getElem_toArray, List.getElem_cons_zero, List.getElem_cons_succ, Act.put, List.setIfInBounds_toArray, List.set_cons_zero, List.set_cons_succ]
  refine wpAnyH_take (i := 10) (v := ?_) rfl (by kernel_rfl) (by kernel_rfl) (by kernel_rfl) (fun _ _ _ h => h) (Or.inl ⟨by rfl, ?_⟩) (by assumption) ?_
  rotate_left
  · (intro w hSw; (try dsimp only at hSw); (try go_split_ands); go_simp; try with_reducible rfl)
  try simp only [List.getElem_toArray, List.getElem_cons_zero, List.getElem_cons_succ, Act.put, List.setIfInBounds_toArray, List.set_cons_zero, List.set_cons_succ]
  refine wpAnyH_ready (rs := [4]) (by kernel_rfl) (by simp) ?_
  refine AllReadyH.cons rfl (fun K hK => ?_) AllReadyH.nil
  go_simp
  refine (root_any _ (hd2.grown0 (grown_drew _))).mono ?_
  rintro r w4 ⟨v4, rfl, hb4, hg4⟩
  have k4 := cvs.out w4 _ hb4.1
  go_wp2_with fail
  refine hK.out _ _ ?_ (fun hHeld => ?_)
  · ((try dsimp only); exact ⟨grown_cell (grown_none (grown_drew _) hg4) c1, cvs.out _ _ ((hrb.1.grown0 (grown_drew _)).grown0 hg4)⟩)
  clear hK K
  try simp only [List.getElem_toArray, List.getElem_cons_zero, List.getElem_cons_succ, Act.put, List.setIfInBounds_toArray, List.set_cons_zero, List.set_cons_succ]
  refine wpAnyH_ready (rs := [5]) (by kernel_rfl) (by simp) ?_
  refine AllReadyH.cons rfl (fun K hK => ?_) AllReadyH.nil
  go_simp
  refine hK.out _ _ ?_ (fun hHeld => ?_)
  · ((try dsimp only); assumption)
  clear hK K
  try simp only [List.getElem_toArray, List.getElem_cons_zero, List.getElem_cons_succ, Act.put, List.setIfInBounds_toArray, List.set_cons_zero, List.set_cons_succ]
  refine wpAnyH_take (i := 11) (v := ?_) rfl (by kernel_rfl) (by kernel_rfl) (by kernel_rfl) (fun _ _ _ h => h) (Or.inl ⟨by rfl, ?_⟩) (by assumption) ?_
  rotate_left
  · (intro w hSw; (try dsimp only at hSw); (try go_split_ands); go_simp; try with_reducible rfl)
  try simp only [List.getElem_toArray, List.getElem_cons_zero, List.getElem_cons_succ, Act.put, List.setIfInBounds_toArray, List.set_cons_zero, List.set_cons_succ]
  refine wpAnyH_take (i := 12) (v := ?_) rfl (by kernel_rfl) (by kernel_rfl) (by kernel_rfl) (fun _ _ _ h => h) (Or.inl ⟨by rfl, ?_⟩) (by assumption) ?_
  rotate_left
  · (intro w hSw; (try dsimp only at hSw); (try go_split_ands); go_simp; try with_reducible rfl)
  try simp only [List.getElem_toArray, List.getElem_cons_zero, List.getElem_cons_succ, Act.put, List.setIfInBounds_toArray, List.set_cons_zero, List.set_cons_succ]
  refine wpAnyH_done (by kernel_rfl) ?_ _
  have hgw4 := grown_none (grown_none hgw3 (grown_drew _)) hg4
  have c0' := grown_cell hgw4 c0
  have hs4 := hs.grown hgw4 (by simp)
  clear k4 c1 hHeld
  go_wp2_with fail
  go_loopw [6] (fun i wr => ∃ (j : Nat), j ≤ rl.length ∧ i = .int .i64 j ∧ w4.grownBy wr none) (fun i _ => rl.length - (intOf i).toNat)
  case atStart => exact ⟨0, by omega, rfl, grown_refl _⟩
  case round =>
    obtain ⟨j, hj, rfl, hgr⟩ := hrel
    have c0r := grown_cell hgr c0'
    by_cases hjl : j < rl.length
    · have hdj : decide ((j : Int) < (rl.length : Int)) = true := by simp; omega
      obtain ⟨x, hx⟩ : ∃ x, rl[j]? = some x := ⟨_, List.getElem?_eq_getElem hjl⟩
      obtain ⟨b, off, rfl, hN, hbl, d0, d1, d2⟩ := hs4.at hx
      have hxs := (hR.grown0 (grown_none hgw4 hgr)).seg x (List.mem_of_getElem? hx)
      obtain ⟨xa, xc, hxv⟩ := hxs.2.2.2.2.2.1.shape
      rw [hxv] at d1
      have d0 := grown_cell hgr d0
      have d1 := grown_cell hgr d1
      have d2 := grown_cell hgr d2
      have hbx : Bts wr.heap.size wr (.slice xa x.b.length xc) x.b := hxv ▸ hxs.2.2.2.2.2.1
      have hgetR := hR.up.get (List.mem_of_getElem? hx)
      have hA : getA x.n (l.map Sg.abs) = some x.abs := by rw [HE.out, getA_map, hgetR]; rfl
      have HB : Hid (bytesA x.n (l.map Sg.abs) = x.b) := by show bytesA x.n (l.map Sg.abs) = x.b; simp [bytesA, hA, Sg.abs]
      have HS : Hid (x.s = safeA x.n (l.map Sg.abs)) := by show x.s = safeA x.n (l.map Sg.abs); simp [safeA, hA, Sg.abs]
      have HER : Hid (errA x.n (l.map Sg.abs) = 0) := by show errA x.n (l.map Sg.abs) = 0; simp [errA, hA]
      have hx1 : -9223372036854775808 ≤ x.n := by omega
      have hx2 := hxs.2.1
      have hdr := h.grown0 (grown_none hgw4 hgr)
      clear hA hgetR hxs
      go_wp2_with fail
      refine (read_any wr hdr (n := x.n) hx1 hx2).mono ?_
      rintro r w5 ⟨v5, rfl, hb5, hg5⟩
      rw [HB.out] at hb5
      rw [HER.out]
      obtain ⟨a5, c5, rfl⟩ := hb5.1.shape
      obtain ⟨X, hX⟩ : ∃ X, Hid (X = strOfNums x.b) := ⟨_, rfl⟩
      go_wp2_with fail
      haveI := lat_nonempty w5
      have e0 := lat_cell (grown_cell hg5 c0r)
      have e1 := lat_cell (grown_cell hg5 d0)
      have e2 := lat_cell (grown_cell hg5 d1)
      have e3 := lat_cell (grown_cell hg5 d2)
      have k0 := lat_conv (A := X) hb5.1 hX
      have k1 := lat_conv (A := X) (hbx.grown0 hg5) hX
      have k2 := fun q => lat_safe_any (hdr.grown0 hg5) hx1 hx2 HS q
      refine wp_region_lat (by kernel_rfl) (by kernel_rfl) ?_
      repeat (go_big_quiet_step (fail))
      go_big_quiet_step ((go_at_call 26; exact k2 _))
      repeat (go_big_quiet_step (fail))
      refine wpQuiet_nil ?_
      intro _ hw'
      obtain ⟨q, hw''⟩ := hw'
      subst hw''
      clear e0 e1 e2 e3 k0 k1 k2
      go_wp2
      go_roundw
      case rel => exact ⟨j + 1, by omega, by go_num, grown_none (grown_none hgr hg5) q.h⟩
      case measure => simp [intOf]; omega
    · have hdj : decide ((j : Int) < (rl.length : Int)) = false := by simp; omega
      go_wp2
      go_ret
      exact ⟨rfl, grown_none hgw4 hgr⟩
end Go.Proofs.Ytmhpbemfejkdaaa
