/- belfryref06.Put. -/
import Derived.Test.YtlljfgpmjpmoiaaRef
namespace Go.Proofs.Ytlljfgpmjpmoiaa
open Go.RowKit Go.IntWalk Go.Maps Go.Shelf
set_option linter.unusedVariables false
set_option linter.unusedSimpArgs false
def insK (D : List E) (x : E) (k : Nat) : List E := D.take k ++ x :: D.drop k
theorem insK_len (D : List E) (x : E) : insK D x D.length = D ++ [x] := by simp [insK]
theorem insK_at {D : List E} {x : E} {k : Nat} (hk : k ≤ D.length) : (insK D x k)[k]? = some x := by
  unfold insK
  rw [List.getElem?_append_right (by simp; omega)]
  simp [Nat.min_eq_left hk]
theorem insK_lo {D : List E} {x : E} {k j : Nat} (hk : k ≤ D.length) (hj : j < k) : (insK D x k)[j]? = D[j]? := by
  unfold insK
  rw [List.getElem?_append_left (by simp; omega), List.getElem?_take, if_pos hj]
theorem insK_size (D : List E) (x : E) (k : Nat) (hk : k ≤ D.length) : (insK D x k).length = D.length + 1 := by
  unfold insK
  simp
  omega
theorem insK_down {D : List E} {x d : E} {m : Nat} (hd : D[m]? = some d) : ((insK D x (m + 1)).set (m + 1) d).set m x = insK D x m := by
  have hm := (List.getElem?_eq_some_iff.1 hd).1
  apply List.ext_getElem?
  intro j
  rw [List.getElem?_set, List.getElem?_set]
  have l1 : (insK D x (m + 1)).length = D.length + 1 := insK_size D x (m + 1) (by omega)
  by_cases e1 : m = j
  · subst e1
    rw [if_pos rfl, if_pos (by simp [l1]; omega), insK_at (by omega)]
  · rw [if_neg e1]
    by_cases e2 : m + 1 = j
    · subst e2
      rw [if_pos rfl, if_pos (by omega)]
      unfold insK
      rw [List.getElem?_append_right (by simp; omega)]
      simp [Nat.min_eq_left (by omega : m ≤ D.length), hd]
    · rw [if_neg e2]
      by_cases e3 : j < m
      · rw [insK_lo (by omega) (by omega), insK_lo (by omega) e3]
      · unfold insK
        rw [List.getElem?_append_right (by simp; omega), List.getElem?_append_right (by simp; omega)]
        simp only [List.length_take, Nat.min_eq_left (by omega : m + 1 ≤ D.length), Nat.min_eq_left (by omega : m ≤ D.length)]
        obtain ⟨i, rfl⟩ : ∃ i, j = m + 2 + i := ⟨j - m - 2, by omega⟩
        have h1 : m + 2 + i - (m + 1) = i + 1 := by omega
        have h2 : m + 2 + i - m = i + 1 + 1 := by omega
        rw [h1, h2, List.getElem?_cons_succ, List.getElem?_cons_succ, List.getElem?_drop, List.getElem?_drop]
        congr 1
        omega
theorem insK_put {L D : List E} {x : E} {k : Nat} (hs : Srt L) (hD : delN x.n L = D) (hk : k ≤ D.length) (hgt : ∀ y ∈ D.drop k, lt x y) (hle : ∀ y, D[k - 1]? = some y → 0 < k → ¬ lt x y) : insK D x k = putE x L := by
  have hsD : Srt D := hD ▸ hs.del x.n
  have hDn : ∀ y ∈ D, y.n ≠ x.n := fun y hy => by rw [← hD] at hy; exact (mem_delN.1 hy).2
  have hlo : ∀ y ∈ D.take k, lt y x := by
    intro y hy
    obtain ⟨j, hj⟩ := List.mem_iff_getElem?.1 hy
    rw [List.getElem?_take] at hj
    split at hj
    · rename_i hjk
      obtain ⟨z, hz⟩ := some_at (es := D) (k := k - 1) (by omega)
      have h1 := hle z hz (by omega)
      have h2 : lt z x := lt_or h1 (.inl (Ne.symm (hDn z (List.mem_of_getElem? hz))))
      by_cases e : j = k - 1
      · subst e; rw [hj] at hz; cases hz; exact h2
      · exact lt_trans (hsD.next hj hz (by omega)) h2
    · cases hj
  have hmem : ∀ y, y ∈ insK D x k ↔ y = x ∨ y ∈ D := fun y => by
    unfold insK
    rw [List.mem_append, List.mem_cons]
    constructor
    · rintro (h | h | h)
      · exact .inr (List.mem_of_mem_take h)
      · exact .inl h
      · exact .inr (List.mem_of_mem_drop h)
    · rintro (h | h)
      · exact .inr (.inl h)
      · rw [← List.take_append_drop k D] at h
        rcases List.mem_append.1 h with h | h
        · exact .inl h
        · exact .inr (.inr h)
  have hsI : Srt (insK D x k) := by
    refine ⟨?_, fun y hy z hz e => ?_⟩
    · unfold insK
      refine List.pairwise_append.2 ⟨hsD.up.sublist (List.take_sublist k D), List.pairwise_cons.2 ⟨hgt, hsD.up.sublist (List.drop_sublist k D)⟩, fun y hy z hz => ?_⟩
      rcases List.mem_cons.1 hz with rfl | hz
      · exact hlo y hy
      · exact lt_trans (hlo y hy) (hgt z hz)
    · rcases (hmem y).1 hy with rfl | hy' <;> rcases (hmem z).1 hz with rfl | hz'
      · rfl
      · exact absurd e.symm (hDn z hz')
      · exact absurd e (hDn y hy')
      · exact hsD.un y hy' z hz' e
  refine hsI.eq (hs.put x) fun y => ?_
  rw [hmem, mem_putE, ← mem_delN, hD]
theorem lat_rahead {w : World} (a b : E) (p : Lat w) : Calls Try.prog 42 #[.agg #[.string a.n, .int .u64 a.at_], .agg #[.string b.n, .int .u64 b.at_]] p.W fun e w'' => e = .returned (.bool (ltb a b)) ∧ ∃ p' : Lat w, w'' = p'.W :=
  (rahead_any a b p.W).mono fun e w'' ⟨he, hB⟩ => ⟨he, ⟨w'', grown_none p.h hB⟩, rfl⟩
theorem rdrop_e (w : World) {v : Value} {L D : List E} (h : Lc w v L) (hl : L.length ≤ 100000) (n : ByteArray) (hD : Hid (delN n L = D)) : Calls Try.prog 30 #[v, .string n] w fun r w' => ∃ a cap, r = .returned (.slice a D.length cap) ∧ Rw 45 w' (.slice a D.length cap) D ∧ w.grownBy w' none ∧ ∀ k, (Value.slice a D.length cap).ownBlock = some k → w.heap.size ≤ k := by
  obtain ⟨rfl⟩ := hD
  exact rdrop_any w h hl n
theorem step_append_ref {ops : Array Oper} {o : Oper} {a : Act} {w : World} {K : Act → World → Prop} {Q : Exit → Act → World → Prop} {E : Prop} (hgd : o.guard = none) (sl x : Operand) (hop : o.op = Op.call { callee := Callee.builtin Builtin.append, args := #[sl, x], argTypes := #[27, 27] })
    (v u : Value) (hs : a.eval sl = v) (hx : a.eval x = u) {v' : Value} {w' : World} (hrun : (Builtin.append_ #[27, 27] o.type #[v, u]).run Try.prog w = .ok v' w') (hK : K (a.put o.dst v') w') :
    if Region.wanted o (yielded ops a.tmps) = true then Oper.wp Try.prog o a w K Q else E := by
  have hw : Region.wanted o (yielded ops a.tmps) = true := by simp [Region.wanted, hgd]
  rw [if_pos hw]
  unfold Oper.wp
  simp [execOp, hop, resolve, invoke, builtin, hs, hx, hrun, Result.andThen]
  exact hK
set_option maxRecDepth 100000 in
set_option maxHeartbeats 4000000 in
/-- belfryref06.Put. -/
theorem rput_any (w : World) {v : Value} {L D : List E} (h : Lc w v L) (hl : L.length ≤ 99999) (hsL : Srt L) (x : E) (hD : Hid (delN x.n L = D)) : Calls Try.prog 28 #[v, .agg #[.string x.n, .int .u64 x.at_]] w fun r w' => ∃ a cap, r = .returned (.slice a (D.length + 1) cap) ∧ Rw 45 w' (.slice a (D.length + 1) cap) (putE x L) ∧ w.grownBy w' none ∧ ∀ k, (Value.slice a (D.length + 1) cap).ownBlock = some k → w.heap.size ≤ k := by
  obtain ⟨a, cap, rfl⟩ := h.shape
  have hDl : D.length ≤ 99999 := by rw [← hD.out]; have := delN_le x.n L; omega
  have hpl : Hid ((putE x L).length = D.length + 1) := ⟨by rw [putE_len hsL, hD.out]⟩
  have hg0 := World.grownBy_alloc w (.cells #[.string x.n, .int .u64 x.at_] 45) none
  replace hsL : Hid _ := ⟨hsL⟩
  go_enter Try.func28, Try.ntmps28
  go_wp2_with fail
  have b0 : (w.alloc (.cells #[.string x.n, .int .u64 x.at_] 45)).cell? ⟨w.heap.size, 0, none⟩ = some (.string x.n) := by simp
  have b1 : (w.alloc (.cells #[.string x.n, .int .u64 x.at_] 45)).cell? ⟨w.heap.size, 1, none⟩ = some (.int .u64 x.at_) := by simp
  obtain ⟨w0, hw0⟩ : ∃ w0, w0 = w.alloc (.cells #[.string x.n, .int .u64 x.at_] 45) := ⟨_, rfl⟩
  rw [← hw0] at hg0 b0 b1 ⊢
  have hw0l : w.heap.size < w0.heap.size := by rw [hw0]; simp
  clear hw0
  have hg1 := grown_none hg0 (grown_drew w0)
  have hL1 := h.grown0 hg1
  have hb1 : w0.drew.cell? ⟨w.heap.size, 0, none⟩ = some (.string x.n) ∧ w0.drew.cell? ⟨w.heap.size, 1, none⟩ = some (.int .u64 x.at_) := ⟨b0, b1⟩
  refine wp_region_held_drew (S := fun w' => w'.cell? ⟨w.heap.size, 0, none⟩ = some (.string x.n) ∧ w'.cell? ⟨w.heap.size, 1, none⟩ = some (.int .u64 x.at_)) (by kernel_rfl) (by (try dsimp only); exact hb1) (fun hHeld => ?_)
  refine wpAnyH_take (i := 0) (v := ?_) rfl (by kernel_rfl) (by kernel_rfl) (by kernel_rfl) (fun _ _ _ h => h) (Or.inl ⟨by rfl, ?_⟩) (by assumption) ?_
  rotate_left
  · (intro w hSw; (try dsimp only at hSw); go_simp; try with_reducible rfl)
  try simp only [List.getElem_toArray, List.getElem_cons_zero, List.getElem_cons_succ, Act.put, List.setIfInBounds_toArray, List.set_cons_zero, List.set_cons_succ]
  refine wpAnyH_take (i := 1) (v := ?_) rfl (by kernel_rfl) (by kernel_rfl) (by kernel_rfl) (fun _ _ _ h => h) (Or.inl ⟨by rfl, ?_⟩) (by assumption) ?_
  rotate_left
  · (intro w hSw; (try dsimp only at hSw); go_simp; try with_reducible rfl)
  try simp only [List.getElem_toArray, List.getElem_cons_zero, List.getElem_cons_succ, Act.put, List.setIfInBounds_toArray, List.set_cons_zero, List.set_cons_succ]
  refine wpAnyH_take (i := 2) (v := ?_) rfl (by kernel_rfl) (by kernel_rfl) (by kernel_rfl) (fun _ _ _ h => h) (Or.inl ⟨by rfl, ?_⟩) (by assumption) ?_
  rotate_left
  · (intro w hSw; (try dsimp only at hSw); go_simp; try with_reducible rfl)
  try simp only [List.getElem_toArray, List.getElem_cons_zero, List.getElem_cons_succ, Act.put, List.setIfInBounds_toArray, List.set_cons_zero, List.set_cons_succ]
  refine wpAnyH_take (i := 4) (v := ?_) rfl (by kernel_rfl) (by kernel_rfl) (by kernel_rfl) (fun _ _ _ h => h) (Or.inl ⟨by rfl, ?_⟩) (by assumption) ?_
  rotate_left
  · (intro w hSw; (try dsimp only at hSw); go_simp; try with_reducible rfl)
  try simp only [List.getElem_toArray, List.getElem_cons_zero, List.getElem_cons_succ, Act.put, List.setIfInBounds_toArray, List.set_cons_zero, List.set_cons_succ]
  refine wpAnyH_ready (rs := [3, 5]) (by kernel_rfl) (by simp) ?_
  refine AllReadyH.cons rfl (fun K hK => ?_) (AllReadyH.cons rfl (fun K hK => ?_) AllReadyH.nil)
  · go_simp
    refine (rdrop_e _ hL1 (by omega) x.n hD).mono ?_
    rintro r w2 ⟨da, dc, rfl, hr2, hg2, hn2⟩
    have hb2 := And.intro (grown_cell hg2 hb1.1) (grown_cell hg2 hb1.2)
    go_wp2_with fail
    refine hK.out _ _ ?_ (fun hHeld => ?_)
    · ((try dsimp only); exact hb2)
    clear hK K
    try simp only [List.getElem_toArray, List.getElem_cons_zero, List.getElem_cons_succ, Act.put, List.setIfInBounds_toArray, List.set_cons_zero, List.set_cons_succ]
    refine wpAnyH_ready (rs := [5]) (by kernel_rfl) (by simp) ?_
    refine AllReadyH.cons rfl (fun K hK => ?_) AllReadyH.nil
    have hg3 := World.grownBy_alloc w2 (.cells #[.string x.n, .int .u64 x.at_] 45) none
    go_simp
    refine hK.out _ _ ?_ (fun hHeld => ?_)
    · ((try dsimp only); exact ⟨grown_cell hg3 hb2.1, grown_cell hg3 hb2.2⟩)
    clear hK K
    try simp only [List.getElem_toArray, List.getElem_cons_zero, List.getElem_cons_succ, Act.put, List.setIfInBounds_toArray, List.set_cons_zero, List.set_cons_succ]
    obtain ⟨oa, oc, w4, hrun, hr4, hg4, ho4⟩ := run_append_ref (w2.alloc (.cells #[.string x.n, .int .u64 x.at_] 45)) _ D x w2.heap.size ⟨by simp, by simp⟩ (World.ownsRow.kept hr2 hg3 (Classical.em _)) (by omega) 27
    have hgw : w.grownBy w4 none := (grown_none (grown_none hg1 hg2) hg3).andThen hg4 fun j hj => .inl (Nat.le_trans hg1.size (hn2 j hj))
    have hnew : Hid (∀ k, (Value.slice oa (D.length + 1) oc).ownBlock = some k → w.heap.size ≤ k) := ⟨fun k hk => by
      rcases ho4 with ho | ⟨i, hi, hil⟩
      · exact Nat.le_trans hg1.size (hn2 k (by rw [← ho]; exact hk))
      · rw [hi] at hk; cases hk; have := hg1.size; have := hg2.size; have := hg3.size; omega⟩
    have hb4 : w4.cell? ⟨w.heap.size, 0, none⟩ = some (.string x.n) ∧ w4.cell? ⟨w.heap.size, 1, none⟩ = some (.int .u64 x.at_) := by
      have hne : some w.heap.size ≠ (Value.slice da D.length dc).ownBlock := fun e => by have := hn2 _ e.symm; have : w0.drew.heap.size = w0.heap.size := rfl; omega
      exact ⟨hg4.cell (grown_cell hg3 hb2.1) hne, hg4.cell (grown_cell hg3 hb2.2) hne⟩
    refine wpAnyH_ready (rs := [6]) (by kernel_rfl) (by simp) ?_
    refine AllReadyH.cons rfl (fun K hK => ?_) AllReadyH.nil
    refine step_append_ref (by rfl) _ _ (by rfl) _ _ (by rfl) (by rfl) hrun ?_
    refine hK.out _ _ ?_ (fun hHeld => ?_)
    · ((try dsimp only); exact hb4)
    clear hK K
    try simp only [List.getElem_toArray, List.getElem_cons_zero, List.getElem_cons_succ, Act.put, List.setIfInBounds_toArray, List.set_cons_zero, List.set_cons_succ]
    refine wpAnyH_take (i := 7) (v := ?_) rfl (by kernel_rfl) (by kernel_rfl) (by kernel_rfl) (fun _ _ _ h => h) (Or.inl ⟨by rfl, ?_⟩) (by assumption) ?_
    rotate_left
    · (intro w hSw; (try dsimp only at hSw); go_simp; try with_reducible rfl)
    try simp only [List.getElem_toArray, List.getElem_cons_zero, List.getElem_cons_succ, Act.put, List.setIfInBounds_toArray, List.set_cons_zero, List.set_cons_succ]
    refine wpAnyH_done (by kernel_rfl) ?_ _
    have hrow : Hid (Rw 45 w4 (.slice oa (D.length + 1) oc) (D ++ [x]) ∧ w.grownBy w4 none) := ⟨hr4, hgw⟩
    clear hrun hr4 hg4 ho4 hgw hb4 hg3 hr2 hg2 hn2 hb2 hb1 b0 b1 hg0 hg1 hL1
    clear hHeld
    go_wp2_with fail
    go_loopw [6] (fun i wr => ∃ k : Nat, k ≤ D.length ∧ i = .int .i64 k ∧ Hid (Rw 45 wr (.slice oa (D.length + 1) oc) (insK D x k) ∧ w.grownBy wr none ∧ ∀ y ∈ D.drop k, lt x y))
      (fun i _ => (intOf i).toNat)
    case atStart => exact ⟨_, Nat.le_refl _, by simp, ⟨by rw [insK_len]; exact hrow.out.1, hrow.out.2, by simp⟩⟩
    case round =>
      clear hrow
      obtain ⟨k, hk, rfl, hR⟩ := hrel
      obtain ⟨hR1, hR2, hR3⟩ := hR.out
      by_cases hk0 : k = 0
      · have hd : decide ((k : Int) > 0) = false := by simp; omega
        have hdn : decide (0 < k) = false := by simp; omega
        have hdm : ¬ 0 < k := by omega
        have hfin : Hid (insK D x k = putE x L) := ⟨insK_put hsL.out hD.out hk hR3 (fun y hy => by omega)⟩
        replace hk0 : Hid _ := ⟨hk0⟩
        go_wp2_with fail
        go_ret
        exact ⟨_, _, rfl, by rw [← hfin.out]; exact hR1, hR2, hnew.out⟩
      · obtain ⟨m, rfl⟩ : ∃ m, k = m + 1 := ⟨k - 1, by omega⟩
        have hd : decide (((m + 1 : Nat) : Int) > 0) = true := by simp
        obtain ⟨d, hdD⟩ := some_at (es := D) (k := m) (by omega)
        have q1 : (insK D x (m + 1))[m + 1]? = some x := insK_at (by omega)
        have q2 : (insK D x (m + 1))[m]? = some d := by rw [insK_lo (by omega) (by omega)]; exact hdD
        obtain ⟨g, rfl, hgl, _, c0, c1, f0⟩ := hR1.at q1
        obtain ⟨g', e', _, _, c2, c3, _⟩ := hR1.at q2
        cases e'
        have hgn : w.heap.size ≤ g := hnew.out g rfl
        haveI := lat_nonempty wr
        have kc0 := lat_cell c0
        have kc1 := lat_cell c1
        have kc2 := lat_cell c2
        have kc3 := lat_cell c3
        have ka := fun p : Lat wr => lat_rahead x d p
        have hlD : (m : Int) + 1 < (D.length : Int) + 1 := by omega
        have hlD2 : (m : Int) < (D.length : Int) + 1 := by omega
        replace hk0 : Hid _ := ⟨hk0⟩
        go_wp2_with fail
        refine wp_region_lat (by kernel_rfl) (by kernel_rfl) ?_
        repeat (go_big_quiet_step (fail))
        go_big_quiet_step ((go_at_call 42; exact ka _))
        repeat (go_big_quiet_step (fail))
        refine wpQuiet_nil ?_
        intro _ hw'
        obtain ⟨p, hw''⟩ := hw'
        subst hw''
        have hp := p.h
        obtain ⟨wp, hwp⟩ : ∃ wp, wp = p.W := ⟨_, rfl⟩
        rw [← hwp] at hp ⊢
        clear hwp p ka kc0 kc1 kc2 kc3
        have e0 := grown_cell hp c0
        have e1 := grown_cell hp c1
        have e2 := grown_cell hp c2
        have e3 := grown_cell hp c3
        have hR1' : Rw 45 wp _ _ := World.ownsRow.kept hR1 hp (Classical.em _)
        have f1 : ∀ j, wp.frozen? ⟨g, j, none⟩ = false := fun j => (grown_frozen hp (a := ⟨g, j, none⟩) hgl).trans (f0 j)
        by_cases hlt : lt x d
        · have hda : ltb x d = true := ltb_iff.2 hlt
          have hgl' : g < wp.heap.size := Nat.lt_of_lt_of_le hgl hp.size
          have hn1 : g ≠ wp.heap.size := by omega
          have hn2 : wp.heap.size ≠ g := by omega
          have e0' := fun o => grown_cell (World.grownBy_alloc wp o none) e0
          have e1' := fun o => grown_cell (World.grownBy_alloc wp o none) e1
          have e2' := fun o => grown_cell (World.grownBy_alloc wp o none) e2
          have e3' := fun o => grown_cell (World.grownBy_alloc wp o none) e3
          have f1' : ∀ o k, (wp.alloc o).frozen? ⟨g, k, none⟩ = false := fun o k => (grown_frozen (World.grownBy_alloc wp o none) (a := ⟨g, k, none⟩) hgl').trans (f1 k)
          replace hdD : Hid _ := ⟨hdD⟩
          go_wp2_with fail
          refine ⟨⟨m, by omega, rfl, ⟨?_, ?_, ?_⟩⟩, by simp [intOf]⟩
          · have hk2 : m < (insK D x (m + 1)).length := by rw [insK_size D x _ hk]; omega
            have r1 := Rw.set hR1' (m + 1) d (by rw [insK_size D x _ hk]; omega)
            have r2 := Rw.set r1 m x (by simpa using hk2)
            rw [insK_down hdD.out] at r2
            exact World.ownsRow.kept r2 (World.grownBy_alloc _ _ none) (Classical.em _)
          · have s1 := ((grown_setCell wp ⟨g, (m + 1) * 2, none⟩ (.string d.n)).trans (grown_setCell _ ⟨g, (m + 1) * 2 + 1, none⟩ (.int .u64 d.at_))).trans ((grown_setCell _ ⟨g, m * 2, none⟩ (.string x.n)).trans (grown_setCell _ ⟨g, m * 2 + 1, none⟩ (.int .u64 x.at_)))
            exact grown_add (grown_new (grown_none hR2 hp) s1 hgn) (World.grownBy_alloc _ _ none)
          · intro y hy
            obtain ⟨z, hz, hzd⟩ := drop_cons (List.getElem?_eq_some_iff.1 hdD.out).1
            rw [hdD.out] at hz; cases hz
            rw [hzd] at hy
            rcases List.mem_cons.1 hy with rfl | hy
            · exact hlt
            · exact hR3 y hy
        · have hda : ltb x d = false := ltb_f hlt
          have hfin : Hid (insK D x (m + 1) = putE x L) := ⟨insK_put hsL.out hD.out hk hR3 (fun y hy _ => by
              simp only [Nat.add_sub_cancel] at hy
              rw [hdD] at hy; cases hy
              exact hlt)⟩
          go_wp2_with fail
          go_ret
          exact ⟨_, _, rfl, by rw [← hfin.out]; exact hR1', grown_none hR2 hp, hnew.out⟩
  · have hg2 := World.grownBy_alloc w0.drew (.cells #[.string x.n, .int .u64 x.at_] 45) none
    go_simp
    refine hK.out _ _ ?_ (fun hHeld => ?_)
    · ((try dsimp only); exact ⟨grown_cell hg2 hb1.1, grown_cell hg2 hb1.2⟩)
    clear hK K
    try simp only [List.getElem_toArray, List.getElem_cons_zero, List.getElem_cons_succ, Act.put, List.setIfInBounds_toArray, List.set_cons_zero, List.set_cons_succ]
    refine wpAnyH_ready (rs := [3]) (by kernel_rfl) (by simp) ?_
    refine AllReadyH.cons rfl (fun K hK => ?_) AllReadyH.nil
    go_simp
    refine (rdrop_e _ (h.grown0 (grown_none hg1 hg2)) (by omega) x.n hD).mono ?_
    rintro r w2 ⟨da, dc, rfl, hr2, hg3, hn2⟩
    have hb2 := And.intro (grown_cell hg3 (grown_cell hg2 hb1.1)) (grown_cell hg3 (grown_cell hg2 hb1.2))
    have hs1 : (w0.drew.alloc (.cells #[.string x.n, .int .u64 x.at_] 45)).cell? ⟨w0.drew.heap.size, 0, none⟩ = some (.string x.n) ∧ (w0.drew.alloc (.cells #[.string x.n, .int .u64 x.at_] 45)).cell? ⟨w0.drew.heap.size, 1, none⟩ = some (.int .u64 x.at_) := ⟨(own_b (heap_alloc_new w0.drew (.cells #[.string x.n, .int .u64 x.at_] 45))).1, (own_b (heap_alloc_new w0.drew (.cells #[.string x.n, .int .u64 x.at_] 45))).2.1⟩
    have hs2 : w2.cell? ⟨w0.heap.size, 0, none⟩ = some (.string x.n) ∧ w2.cell? ⟨w0.heap.size, 1, none⟩ = some (.int .u64 x.at_) := ⟨grown_cell hg3 hs1.1, grown_cell hg3 hs1.2⟩
    go_wp2_with fail
    refine hK.out _ _ ?_ (fun hHeld => ?_)
    · ((try dsimp only); exact hb2)
    clear hK K
    try simp only [List.getElem_toArray, List.getElem_cons_zero, List.getElem_cons_succ, Act.put, List.setIfInBounds_toArray, List.set_cons_zero, List.set_cons_succ]
    obtain ⟨oa, oc, w4, hrun, hr4, hg4, ho4⟩ := run_append_ref w2 _ D x w0.heap.size hs2 hr2 (by omega) 27
    have hz : w0.drew.heap.size = w0.heap.size := rfl
    have hz2 : (w0.drew.alloc (.cells #[.string x.n, .int .u64 x.at_] 45)).heap.size = w0.heap.size + 1 := by simp
    have hgw : w.grownBy w4 none := (grown_none (grown_none hg1 hg2) hg3).andThen hg4 fun j hj => .inl (by have := hn2 j hj; omega)
    have hnew : Hid (∀ k, (Value.slice oa (D.length + 1) oc).ownBlock = some k → w.heap.size ≤ k) := ⟨fun k hk => by
      rcases ho4 with ho | ⟨i, hi, hil⟩
      · have := hn2 k (by rw [← ho]; exact hk); omega
      · rw [hi] at hk; cases hk; have := hg3.size; omega⟩
    have hb4 : w4.cell? ⟨w.heap.size, 0, none⟩ = some (.string x.n) ∧ w4.cell? ⟨w.heap.size, 1, none⟩ = some (.int .u64 x.at_) := by
      have hne : some w.heap.size ≠ (Value.slice da D.length dc).ownBlock := fun e => by have := hn2 _ e.symm; omega
      exact ⟨hg4.cell hb2.1 hne, hg4.cell hb2.2 hne⟩
    refine wpAnyH_ready (rs := [6]) (by kernel_rfl) (by simp) ?_
    refine AllReadyH.cons rfl (fun K hK => ?_) AllReadyH.nil
    refine step_append_ref (by rfl) _ _ (by rfl) _ _ (by rfl) (by rfl) hrun ?_
    refine hK.out _ _ ?_ (fun hHeld => ?_)
    · ((try dsimp only); exact hb4)
    clear hK K
    try simp only [List.getElem_toArray, List.getElem_cons_zero, List.getElem_cons_succ, Act.put, List.setIfInBounds_toArray, List.set_cons_zero, List.set_cons_succ]
    refine wpAnyH_take (i := 7) (v := ?_) rfl (by kernel_rfl) (by kernel_rfl) (by kernel_rfl) (fun _ _ _ h => h) (Or.inl ⟨by rfl, ?_⟩) (by assumption) ?_
    rotate_left
    · (intro w hSw; (try dsimp only at hSw); go_simp; try with_reducible rfl)
    try simp only [List.getElem_toArray, List.getElem_cons_zero, List.getElem_cons_succ, Act.put, List.setIfInBounds_toArray, List.set_cons_zero, List.set_cons_succ]
    refine wpAnyH_done (by kernel_rfl) ?_ _
    have hrow : Hid (Rw 45 w4 (.slice oa (D.length + 1) oc) (D ++ [x]) ∧ w.grownBy w4 none) := ⟨hr4, hgw⟩
    clear hrun hr4 hg4 ho4 hgw hb4 hg3 hr2 hg2 hn2 hb2 hb1 b0 b1 hg0 hg1 hL1 hs2 hs1
    clear hHeld
    go_wp2_with fail
    go_loopw [6] (fun i wr => ∃ k : Nat, k ≤ D.length ∧ i = .int .i64 k ∧ Hid (Rw 45 wr (.slice oa (D.length + 1) oc) (insK D x k) ∧ w.grownBy wr none ∧ ∀ y ∈ D.drop k, lt x y))
      (fun i _ => (intOf i).toNat)
    case atStart => exact ⟨_, Nat.le_refl _, by simp, ⟨by rw [insK_len]; exact hrow.out.1, hrow.out.2, by simp⟩⟩
    case round =>
      clear hrow
      obtain ⟨k, hk, rfl, hR⟩ := hrel
      obtain ⟨hR1, hR2, hR3⟩ := hR.out
      by_cases hk0 : k = 0
      · have hd : decide ((k : Int) > 0) = false := by simp; omega
        have hdn : decide (0 < k) = false := by simp; omega
        have hdm : ¬ 0 < k := by omega
        have hfin : Hid (insK D x k = putE x L) := ⟨insK_put hsL.out hD.out hk hR3 (fun y hy => by omega)⟩
        replace hk0 : Hid _ := ⟨hk0⟩
        go_wp2_with fail
        go_ret
        exact ⟨_, _, rfl, by rw [← hfin.out]; exact hR1, hR2, hnew.out⟩
      · obtain ⟨m, rfl⟩ : ∃ m, k = m + 1 := ⟨k - 1, by omega⟩
        have hd : decide (((m + 1 : Nat) : Int) > 0) = true := by simp
        obtain ⟨d, hdD⟩ := some_at (es := D) (k := m) (by omega)
        have q1 : (insK D x (m + 1))[m + 1]? = some x := insK_at (by omega)
        have q2 : (insK D x (m + 1))[m]? = some d := by rw [insK_lo (by omega) (by omega)]; exact hdD
        obtain ⟨g, rfl, hgl, _, c0, c1, f0⟩ := hR1.at q1
        obtain ⟨g', e', _, _, c2, c3, _⟩ := hR1.at q2
        cases e'
        have hgn : w.heap.size ≤ g := hnew.out g rfl
        haveI := lat_nonempty wr
        have kc0 := lat_cell c0
        have kc1 := lat_cell c1
        have kc2 := lat_cell c2
        have kc3 := lat_cell c3
        have ka := fun p : Lat wr => lat_rahead x d p
        have hlD : (m : Int) + 1 < (D.length : Int) + 1 := by omega
        have hlD2 : (m : Int) < (D.length : Int) + 1 := by omega
        replace hk0 : Hid _ := ⟨hk0⟩
        go_wp2_with fail
        refine wp_region_lat (by kernel_rfl) (by kernel_rfl) ?_
        repeat (go_big_quiet_step (fail))
        go_big_quiet_step ((go_at_call 42; exact ka _))
        repeat (go_big_quiet_step (fail))
        refine wpQuiet_nil ?_
        intro _ hw'
        obtain ⟨p, hw''⟩ := hw'
        subst hw''
        have hp := p.h
        obtain ⟨wp, hwp⟩ : ∃ wp, wp = p.W := ⟨_, rfl⟩
        rw [← hwp] at hp ⊢
        clear hwp p ka kc0 kc1 kc2 kc3
        have e0 := grown_cell hp c0
        have e1 := grown_cell hp c1
        have e2 := grown_cell hp c2
        have e3 := grown_cell hp c3
        have hR1' : Rw 45 wp _ _ := World.ownsRow.kept hR1 hp (Classical.em _)
        have f1 : ∀ j, wp.frozen? ⟨g, j, none⟩ = false := fun j => (grown_frozen hp (a := ⟨g, j, none⟩) hgl).trans (f0 j)
        by_cases hlt : lt x d
        · have hda : ltb x d = true := ltb_iff.2 hlt
          have hgl' : g < wp.heap.size := Nat.lt_of_lt_of_le hgl hp.size
          have hn1 : g ≠ wp.heap.size := by omega
          have hn2 : wp.heap.size ≠ g := by omega
          have e0' := fun o => grown_cell (World.grownBy_alloc wp o none) e0
          have e1' := fun o => grown_cell (World.grownBy_alloc wp o none) e1
          have e2' := fun o => grown_cell (World.grownBy_alloc wp o none) e2
          have e3' := fun o => grown_cell (World.grownBy_alloc wp o none) e3
          have f1' : ∀ o k, (wp.alloc o).frozen? ⟨g, k, none⟩ = false := fun o k => (grown_frozen (World.grownBy_alloc wp o none) (a := ⟨g, k, none⟩) hgl').trans (f1 k)
          replace hdD : Hid _ := ⟨hdD⟩
          go_wp2_with fail
          refine ⟨⟨m, by omega, rfl, ⟨?_, ?_, ?_⟩⟩, by simp [intOf]⟩
          · have hk2 : m < (insK D x (m + 1)).length := by rw [insK_size D x _ hk]; omega
            have r1 := Rw.set hR1' (m + 1) d (by rw [insK_size D x _ hk]; omega)
            have r2 := Rw.set r1 m x (by simpa using hk2)
            rw [insK_down hdD.out] at r2
            exact World.ownsRow.kept r2 (World.grownBy_alloc _ _ none) (Classical.em _)
          · have s1 := ((grown_setCell wp ⟨g, (m + 1) * 2, none⟩ (.string d.n)).trans (grown_setCell _ ⟨g, (m + 1) * 2 + 1, none⟩ (.int .u64 d.at_))).trans ((grown_setCell _ ⟨g, m * 2, none⟩ (.string x.n)).trans (grown_setCell _ ⟨g, m * 2 + 1, none⟩ (.int .u64 x.at_)))
            exact grown_add (grown_new (grown_none hR2 hp) s1 hgn) (World.grownBy_alloc _ _ none)
          · intro y hy
            obtain ⟨z, hz, hzd⟩ := drop_cons (List.getElem?_eq_some_iff.1 hdD.out).1
            rw [hdD.out] at hz; cases hz
            rw [hzd] at hy
            rcases List.mem_cons.1 hy with rfl | hy
            · exact hlt
            · exact hR3 y hy
        · have hda : ltb x d = false := ltb_f hlt
          have hfin : Hid (insK D x (m + 1) = putE x L) := ⟨insK_put hsL.out hD.out hk hR3 (fun y hy _ => by
              simp only [Nat.add_sub_cancel] at hy
              rw [hdD] at hy; cases hy
              exact hlt)⟩
          go_wp2_with fail
          go_ret
          exact ⟨_, _, rfl, by rw [← hfin.out]; exact hR1', grown_none hR2 hp, hnew.out⟩
end Go.Proofs.Ytlljfgpmjpmoiaa
