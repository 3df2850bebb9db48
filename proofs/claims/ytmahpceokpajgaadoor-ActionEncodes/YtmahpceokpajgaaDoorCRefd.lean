/- What the document's answer for bytes (belfryref01.Decode) returns, at whatever bytes, at most 5000 of them. -/
import Derived.Test.YtmahpceokpajgaaDoorCRefa
namespace Go.Proofs.YtmahpceokpajgaaDoor.C
open Go.RowKit Go.Shelf Plain Go.IntWalk
set_option linter.unusedVariables false

theorem owns_later {A B : World} {s : Nat} {e : TypeId} {n : Nat} {v : Value} {k : Nat} {xs : List Value} (h : A.ownsRow s e n v k xs) (hB : Below A.heap.size A B) : B.ownsRow s e n v k xs := h.kept (below_grown hB) (by cases hv : v.ownBlock <;> simp)

set_option maxRecDepth 100000 in
set_option maxHeartbeats 4000000 in
theorem refdec_core (a : Option Addr) (len cap : Nat) (hl5 : len ≤ 5000) (w : World) (zs : List Int) (HL : Hid (zs.length = len)) (hZ : Bts w.heap.size w (.slice a len cap) zs)
    (hc : ∀ j, j < len → ∃ bb off, a = some ⟨bb, off, none⟩ ∧ bb < w.heap.size ∧ w.cell? ⟨bb, off + j, none⟩ = some (.int .u8 (zs[j]?.getD 0)) ∧ 0 ≤ zs[j]?.getD 0 ∧ zs[j]?.getD 0 < 256) :
    Calls Tryd.prog 29 #[.slice a len cap] w fun e W' => ((∃ u xs, e = .returned (.tuple #[u, .int .i64 0]) ∧ Flds W'.heap.size W' u xs ∧ zs = encL xs ∧ okL xs = true) ∨ (e = .returned (.tuple #[.slice none 0 0, .int .i64 12]) ∧ ∀ xs, okL xs = true → zs ≠ encL xs)) ∧ Below w.heap.size w W' := by
  go_enter Tryd.func29, Tryd.ntmps29
  go_wp2
  go_loopw [4, 5] (fun v i wr => ∃ (k : Nat) (xs : List Fd), k ≤ len ∧ i = .int .i64 k ∧ Hid (zs = encL xs ++ zs.drop k) ∧ wr.ownsRow w.heap.size 55 2 v xs.length (cellsL xs) ∧ (∀ x ∈ xs, okC w.heap.size wr x) ∧ Hid (∀ x ∈ xs, x.right = true) ∧ xs.length ≤ 200 ∧ Below w.heap.size w wr) (fun _ i _ => len - (intOf i).toNat)
  case atStart => exact ⟨0, [], Nat.zero_le _, rfl, (by show zs = _; simp [encL]), World.ownsRow_nil _ _ _ _, (fun x hx => by cases hx), (fun x hx => by cases hx), by simp, Below.refl _ _⟩
  case round =>
    obtain ⟨k, xs, hk, rfl, hzx, hrow, hok, hri, hxl, hB⟩ := hrel
    by_cases hlt : k < len
    · have hne : Hid (zs.drop k ≠ []) := by show zs.drop k ≠ []; intro e; have := congrArg List.length e; rw [List.length_drop, HL.out] at this; simp at this; omega
      by_cases h3 : (len : Int) - (k : Int) < 3
      · go_wp2
        go_ret2
        exact ⟨.inr ⟨rfl, nodec hzx.out hne.out (.inl fun hb => by have := (begins_facts hb).2.2.2; rw [HL.out] at this; omega)⟩, hB⟩
      · have t3 : decide ((len : Int) - (k : Int) < 3) = false := by simpa using h3
        have g0 : k + 3 ≤ len := by omega
        clear h3
        obtain ⟨b, off, rfl, hbb, d0, hb0⟩ := hc k hlt
        obtain ⟨b', off', e', _, d1, hb1⟩ := hc (k + 1) (by omega)
        cases e'
        obtain ⟨b', off', e', _, d2, hb2⟩ := hc (k + 2) (by omega)
        cases e'
        have Hb1 : Hid (0 ≤ zs[k + 1]?.getD 0 ∧ zs[k + 1]?.getD 0 < 256) := hb1
        have Hb2 : Hid (0 ≤ zs[k + 2]?.getD 0 ∧ zs[k + 2]?.getD 0 < 256) := hb2
        obtain ⟨z0, Hz0⟩ : ∃ z, Hid (zs[k]?.getD 0 = z) := ⟨_, rfl⟩
        obtain ⟨z1, Hz1⟩ : ∃ z, Hid (zs[k + 1]?.getD 0 = z) := ⟨_, rfl⟩
        obtain ⟨z2, Hz2⟩ : ∃ z, Hid (zs[k + 2]?.getD 0 = z) := ⟨_, rfl⟩
        rw [Hz0.out] at d0 hb0
        rw [Hz1.out] at d1 hb1
        rw [Hz2.out] at d2 hb2
        obtain ⟨h01, h02⟩ := hb0
        obtain ⟨h11, h12⟩ := hb1
        obtain ⟨h21, h22⟩ := hb2
        obtain ⟨N, hN⟩ : ∃ N : Nat, 256 * z1 + z2 = (N : Int) := ⟨Int.toNat (256 * z1 + z2), by omega⟩
        have HN : Hid (256 * zs[k + 1]?.getD 0 + zs[k + 2]?.getD 0 = (N : Int)) := by show _ = _; rw [Hz1.out, Hz2.out]; exact hN
        have g1 : (k : Int) + 1 < (len : Int) := by omega
        have g2 : (k : Int) + 2 < (len : Int) := by omega
        have e1 : ((k : Int) + 1).toNat = k + 1 := by omega
        have e2 : ((k : Int) + 2).toNat = k + 2 := by omega
        haveI := lat_nonempty wr
        have k0 := lat_cell ((hB.cell (p := ⟨b, off + k, none⟩) hbb).trans d0)
        have k1 := lat_cell ((hB.cell (p := ⟨b, off + (k + 1), none⟩) hbb).trans d1)
        have k2 := lat_cell ((hB.cell (p := ⟨b, off + (k + 2), none⟩) hbb).trans d2)
        clear d0 d1 d2
        go_wp2_with fail
        refine wp_region_lat (by kernel_rfl) (by kernel_rfl) ?_
        repeat (go_big_quiet_step (fail))
        refine wpQuiet_nil ?_
        intro _ hw'
        obtain ⟨p, hw''⟩ := hw'
        subst hw''
        have c0 := k0 p
        have hBW := p.h
        clear k0 k1 k2
        generalize p.W = W at *
        clear hN
        have hBW' := hBW.mono hB.size
        have hsW : w.heap.size ≤ W.heap.size := Nat.le_trans hB.size hBW.size
        have hbW : b < W.heap.size := Nat.lt_of_lt_of_le hbb hsW
        have hrowW := owns_later hrow hBW
        have hokW : ∀ x ∈ xs, okC w.heap.size W x := fun x hx => (hok x hx).kept (below_grown hBW) (fun _ e => by cases e)
        clear hrow hok
        by_cases q0 : z0 = 0
        · have t0 : (z0 == 0) = true := by simpa using q0
          go_wp2
          go_ret2
          exact ⟨.inr ⟨rfl, nodec hzx.out hne.out (.inl fun hb => by have := begins_facts hb; rw [HN.out, Hz0.out, HL.out] at this; omega)⟩, hB.trans hBW'⟩
        · have t0 : (z0 == 0) = false := by simpa using q0
          by_cases q1 : (2000 : Int) < (N : Int)
          · go_wp2
            go_ret2
            exact ⟨.inr ⟨rfl, nodec hzx.out hne.out (.inl fun hb => by have := begins_facts hb; rw [HN.out, Hz0.out, HL.out] at this; omega)⟩, hB.trans hBW'⟩
          · have t1 : decide ((2000 : Int) < (N : Int)) = false := by simpa using q1
            by_cases q2 : (len : Int) - (k : Int) - 3 < (N : Int)
            · go_wp2
              go_ret2
              exact ⟨.inr ⟨rfl, nodec hzx.out hne.out (.inl fun hb => by have := begins_facts hb; rw [HN.out, Hz0.out, HL.out] at this; omega)⟩, hB.trans hBW'⟩
            · have t2 : decide ((len : Int) - (k : Int) - 3 < (N : Int)) = false := by simpa using q2
              by_cases q3 : xs.length = 200
              · obtain ⟨g, c, rfl⟩ := ownsRow_pos hrowW (by omega)
                have tx : ((xs.length : Int) == 200) = true := by simp; omega
                go_wp2
                go_ret2
                exact ⟨.inr ⟨rfl, nodec hzx.out hne.out (.inr q3)⟩, hB.trans hBW'⟩
              · have tx : ((xs.length : Int) == 200) = false := by simp; omega
                obtain ⟨ds, Hds⟩ : ∃ ds, Hid ((zs.take (k + 3 + N)).drop (k + 3) = ds) := ⟨_, rfl⟩
                have hdN : ds.length = N := by rw [← Hds.out, List.length_drop, List.length_take, HL.out]; omega
                obtain ⟨sa, hsl, _, hbd0⟩ := slice_cut (hZ.below (hB.trans hBW')) (k + 3) (k + 3 + N) (by omega) (by omega)
                rw [Hds.out, show k + 3 + N - (k + 3) = N from by omega] at hbd0
                rw [show k + 3 + N - (k + 3) = N from by omega] at hsl
                have hdb := hbd0.2
                subst hdN
                have hsl' : ∀ W, (Instr.slice 23 (.slice (some ⟨b, off, none⟩) len cap) (some (.int .i64 ((k : Int) + 3))) (some (.int .i64 ((k : Int) + 3 + (ds.length : Int)))) none).run Tryd.prog W = .ok (.slice sa ds.length (cap - (k + 3))) W := by
                  intro W
                  have := hsl W
                  rw [Int.natCast_add, Int.natCast_add] at this
                  exact this
                clear hsl
                have hbd : Bts W.heap.size (W.drew.alloc (.cells #[] 5)) (.slice sa ds.length (cap - (k + 3))) ds := ((hbd0.mono hsW).below (Below.refl _ W).drew).below ((Below.refl _ _).alloc (Nat.le_refl _) _)
                have c0d : W.drew.cell? ⟨b, off + k, none⟩ = some (.int .u8 z0) := c0
                have c0a := cell_kept_alloc c0d (.cells #[] 5)
                have wk0 : IntKind.i64.wrap z0 = z0 := by rw [IntKind.wrap_i64]; omega
                have wk1 : IntKind.i64.wrap ((k : Int) + 3) = (k : Int) + 3 := by rw [IntKind.wrap_i64]; omega
                have wk2 : IntKind.i64.wrap ((k : Int) + 3 + (ds.length : Int)) = (k : Int) + 3 + (ds.length : Int) := by rw [IntKind.wrap_i64]; omega
                have hdl : ds.length ≤ 2000 := by omega
                rcases Joins.ownsRow_forms hrowW with ⟨rfl, h0⟩ | ⟨g, c, rfl⟩
                · clear h0
                  go_wp2_with fail
                  refine wp_region_any (by kernel_rfl) ?_
                  change wpAny _ _ _ _ _ _ _ (World.drew _)
                  refine wpAny_take (i := 0) (v := ?_) rfl (by kernel_rfl) (by kernel_rfl) (by kernel_rfl) (fun _ _ _ h => h) (Or.inl ⟨by rfl, ?_⟩) ?_
                  rotate_left
                  · intro w; go_simp; with_reducible rfl
                  refine wpAny_take (i := 1) (v := ?_) rfl (by kernel_rfl) (by kernel_rfl) (by kernel_rfl) (fun _ _ _ h => h) (Or.inl ⟨by rfl, ?_⟩) ?_
                  rotate_left
                  · intro w; go_simp; with_reducible rfl
                  refine wpAny_take (i := 2) (v := ?_) rfl (by kernel_rfl) (by kernel_rfl) (by kernel_rfl) (fun _ _ _ h => h) (Or.inl ⟨by rfl, ?_⟩) ?_
                  rotate_left
                  · intro w; go_simp; with_reducible rfl
                  refine wpAny_take (i := 3) (v := ?_) rfl (by kernel_rfl) (by kernel_rfl) (by kernel_rfl) (fun _ _ _ h => h) (Or.inl ⟨by rfl, ?_⟩) ?_
                  rotate_left
                  · intro w; go_simp; with_reducible rfl
                  refine wpAny_take (i := 7) (v := ?_) rfl (by kernel_rfl) (by kernel_rfl) (by kernel_rfl) (fun _ _ _ h => h) (Or.inl ⟨by rfl, ?_⟩) ?_
                  rotate_left
                  · intro w; go_simp; with_reducible rfl
                  refine wpAny_take (i := 8) (v := ?_) rfl (by kernel_rfl) (by kernel_rfl) (by kernel_rfl) (fun _ _ _ h => h) (Or.inl ⟨by rfl, ?_⟩) ?_
                  rotate_left
                  · intro w; go_simp; with_reducible rfl
                  refine wpAny_take (i := 9) (v := ?_) rfl (by kernel_rfl) (by kernel_rfl) (by kernel_rfl) (fun _ _ _ h => h) (Or.inl ⟨by rfl, ?_⟩) ?_
                  rotate_left
                  · intro w; go_simp; with_reducible rfl
                  refine wpAny_take (i := 10) (v := ?_) rfl (by kernel_rfl) (by kernel_rfl) (by kernel_rfl) (fun _ _ _ h => h) (Or.inl ⟨by rfl, ?_⟩) ?_
                  rotate_left
                  · intro w; go_simp; with_reducible rfl
                  refine wpAny_take (i := 11) (v := ?_) rfl (by kernel_rfl) (by kernel_rfl) (by kernel_rfl) (fun _ _ _ h => h) (Or.inl ⟨by rfl, ?_⟩) ?_
                  rotate_left
                  · intro w; go_simp; with_reducible rfl
                  refine wpAny_take (i := 12) (v := ?_) rfl (by kernel_rfl) (by kernel_rfl) (by kernel_rfl) (fun _ _ _ h => h) (Or.inl ⟨by rfl, ?_⟩) ?_
                  rotate_left
                  · intro w; go_simp; with_reducible rfl
                  refine wpAny_take (i := 13) (v := ?_) rfl (by kernel_rfl) (by kernel_rfl) (by kernel_rfl) (fun _ _ _ h => h) (Or.inl ⟨by rfl, ?_⟩) ?_
                  rotate_left
                  · intro w; go_simp; with_reducible rfl
                  refine wpAny_take (i := 14) (v := ?_) rfl (by kernel_rfl) (by kernel_rfl) (by kernel_rfl) (fun _ _ _ h => h) (Or.inl ⟨by rfl, ?_⟩) ?_
                  rotate_left
                  · intro w; go_simp; with_reducible rfl
                  refine wpAny_ready (rs := [4, 6]) (by kernel_rfl) (by simp) ?_
                  refine AllReady.cons rfl (fun K hK => ?_) (AllReady.cons rfl (fun K hK => ?_) AllReady.nil)
                  · go_simp
                    refine hK _ _ ?_
                    clear hK K
                    refine wpAny_ready (rs := [5, 6]) (by kernel_rfl) (by simp) ?_
                    refine AllReady.cons rfl (fun K hK => ?_) (AllReady.cons rfl (fun K hK => ?_) AllReady.nil)
                    · go_simp
                      refine hK _ _ ?_
                      clear hK K
                      refine wpAny_ready (rs := [6]) (by kernel_rfl) (by simp) ?_
                      refine AllReady.cons rfl (fun K hK => ?_) AllReady.nil
                      go_simp
                      refine hK _ _ ?_
                      clear hK K
                      refine wpAny_ready (rs := [15]) (by kernel_rfl) (by simp) ?_
                      refine AllReady.cons rfl (fun K hK => ?_) AllReady.nil
                      rw [if_pos (by rfl)]
                      refine wp_append_bytes (.tmp 59) (.tmp 67) rfl _ _ rfl rfl W.heap.size W.heap.size _ [] ds (lit_zero W.drew _ (Nat.le_refl _)) hbd (by omega) (by simp) ?_
                      intro v2 W2 hrow2 hg2
                      obtain ⟨a2, c2, rfl⟩ : ∃ a2 c2, v2 = .slice a2 ds.length c2 := by
                        rcases Joins.ownsRow_forms hrow2 with ⟨rfl, h0⟩ | ⟨g, c, rfl⟩
                        · exact ⟨none, 0, by rw [show ds.length = 0 from by omega]⟩
                        · exact ⟨_, c, by rw [Nat.zero_add]⟩
                      rw [Nat.zero_add, List.nil_append] at hrow2
                      have hB2 : Below W.heap.size W W2 := (((Below.refl _ W).drew).alloc (Nat.le_refl _) _).grown hg2 (by simp) (fun k e => by cases e; exact Nat.le_refl _)
                      have c02 := (hB2.cell (p := ⟨b, off + k, none⟩) hbW).trans c0
                      refine hK _ _ ?_
                      clear hK K
                      refine wpAny_ready (rs := [16]) (by kernel_rfl) (by simp) ?_
                      refine AllReady.cons rfl (fun K hK => ?_) AllReady.nil
                      go_simp
                      refine hK _ _ ?_
                      clear hK K
                      refine wpAny_ready (rs := [17]) (by kernel_rfl) (by simp) ?_
                      refine AllReady.cons rfl (fun K hK => ?_) AllReady.nil
                      go_simp
                      refine hK _ _ ?_
                      clear hK K
                      refine wpAny_ready (rs := [18]) (by kernel_rfl) (by simp) ?_
                      refine AllReady.cons rfl (fun K hK => ?_) AllReady.nil
                      rw [if_pos (by rfl)]
                      refine wp_append_fd (.tmp 53) (.tmp 70) rfl _ _ rfl rfl w.heap.size xs ⟨z0, a2, ds.length, c2, ds⟩ ((hrowW.kept (below_grown hB2) (by simp [Value.ownBlock])).alloc _) (cells_fresh W2 _) (by omega) (by have := hB2.size; simp; omega) ?_
                      intro v5 w5 hr5 hg5
                      obtain ⟨k5, b5⟩ := ref_step hsW hrowW hokW hdb ⟨h01, h02⟩ hB2 hrow2 hg5
                      refine hK _ _ ?_
                      clear hK K
                      refine wpAny_ready (rs := [19]) (by kernel_rfl) (by simp) ?_
                      refine AllReady.cons rfl (fun K hK => ?_) AllReady.nil
                      go_simp
                      refine hK _ _ ?_
                      clear hK K
                      refine wpAny_done (by kernel_rfl) ?_ _
                      go_wp2
                      go_roundw
                      case rel =>
                        refine ⟨k + 3 + ds.length, xs ++ [⟨z0, a2, ds.length, c2, ds⟩], by omega, by go_num, ?_, by rw [List.length_append]; exact hr5, k5, ?_, by simp; omega, hB.trans (hBW'.trans b5)⟩
                        · have h1 := hzx.out
                          have h2 := begins_eq HN.out Hb1.out Hb2.out (by have := HL.out; omega) a2 ds.length c2
                          rw [Hds.out, Hz0.out] at h2
                          rw [h2] at h1
                          show zs = _
                          rw [encL_append', List.append_assoc, show encL [⟨z0, a2, ds.length, c2, ds⟩] = encF ⟨z0, a2, ds.length, c2, ds⟩ from by simp [encL]]
                          exact h1
                        · intro x hx
                          rcases List.mem_append.1 hx with h | h
                          · exact hri.out x h
                          · obtain rfl : x = _ := by simpa using h
                            show rightB z0 ds.length = true
                            simp [rightB]; omega
                      case measure => simp [intOf]; omega
                    · go_simp
                      refine hK _ _ ?_
                      clear hK K
                      refine wpAny_ready (rs := [5, 15]) (by kernel_rfl) (by simp) ?_
                      refine AllReady.cons rfl (fun K hK => ?_) (AllReady.cons rfl (fun K hK => ?_) AllReady.nil)
                      · go_simp
                        refine hK _ _ ?_
                        clear hK K
                        refine wpAny_ready (rs := [15]) (by kernel_rfl) (by simp) ?_
                        refine AllReady.cons rfl (fun K hK => ?_) AllReady.nil
                        rw [if_pos (by rfl)]
                        refine wp_append_bytes (.tmp 59) (.tmp 67) rfl _ _ rfl rfl W.heap.size W.heap.size _ [] ds (lit_zero W.drew _ (Nat.le_refl _)) hbd (by omega) (by simp) ?_
                        intro v2 W2 hrow2 hg2
                        obtain ⟨a2, c2, rfl⟩ : ∃ a2 c2, v2 = .slice a2 ds.length c2 := by
                          rcases Joins.ownsRow_forms hrow2 with ⟨rfl, h0⟩ | ⟨g, c, rfl⟩
                          · exact ⟨none, 0, by rw [show ds.length = 0 from by omega]⟩
                          · exact ⟨_, c, by rw [Nat.zero_add]⟩
                        rw [Nat.zero_add, List.nil_append] at hrow2
                        have hB2 : Below W.heap.size W W2 := (((Below.refl _ W).drew).alloc (Nat.le_refl _) _).grown hg2 (by simp) (fun k e => by cases e; exact Nat.le_refl _)
                        have c02 := (hB2.cell (p := ⟨b, off + k, none⟩) hbW).trans c0
                        refine hK _ _ ?_
                        clear hK K
                        refine wpAny_ready (rs := [16]) (by kernel_rfl) (by simp) ?_
                        refine AllReady.cons rfl (fun K hK => ?_) AllReady.nil
                        go_simp
                        refine hK _ _ ?_
                        clear hK K
                        refine wpAny_ready (rs := [17]) (by kernel_rfl) (by simp) ?_
                        refine AllReady.cons rfl (fun K hK => ?_) AllReady.nil
                        go_simp
                        refine hK _ _ ?_
                        clear hK K
                        refine wpAny_ready (rs := [18]) (by kernel_rfl) (by simp) ?_
                        refine AllReady.cons rfl (fun K hK => ?_) AllReady.nil
                        rw [if_pos (by rfl)]
                        refine wp_append_fd (.tmp 53) (.tmp 70) rfl _ _ rfl rfl w.heap.size xs ⟨z0, a2, ds.length, c2, ds⟩ ((hrowW.kept (below_grown hB2) (by simp [Value.ownBlock])).alloc _) (cells_fresh W2 _) (by omega) (by have := hB2.size; simp; omega) ?_
                        intro v5 w5 hr5 hg5
                        obtain ⟨k5, b5⟩ := ref_step hsW hrowW hokW hdb ⟨h01, h02⟩ hB2 hrow2 hg5
                        refine hK _ _ ?_
                        clear hK K
                        refine wpAny_ready (rs := [19]) (by kernel_rfl) (by simp) ?_
                        refine AllReady.cons rfl (fun K hK => ?_) AllReady.nil
                        go_simp
                        refine hK _ _ ?_
                        clear hK K
                        refine wpAny_done (by kernel_rfl) ?_ _
                        go_wp2
                        go_roundw
                        case rel =>
                          refine ⟨k + 3 + ds.length, xs ++ [⟨z0, a2, ds.length, c2, ds⟩], by omega, by go_num, ?_, by rw [List.length_append]; exact hr5, k5, ?_, by simp; omega, hB.trans (hBW'.trans b5)⟩
                          · have h1 := hzx.out
                            have h2 := begins_eq HN.out Hb1.out Hb2.out (by have := HL.out; omega) a2 ds.length c2
                            rw [Hds.out, Hz0.out] at h2
                            rw [h2] at h1
                            show zs = _
                            rw [encL_append', List.append_assoc, show encL [⟨z0, a2, ds.length, c2, ds⟩] = encF ⟨z0, a2, ds.length, c2, ds⟩ from by simp [encL]]
                            exact h1
                          · intro x hx
                            rcases List.mem_append.1 hx with h | h
                            · exact hri.out x h
                            · obtain rfl : x = _ := by simpa using h
                              show rightB z0 ds.length = true
                              simp [rightB]; omega
                        case measure => simp [intOf]; omega
                      · rw [if_pos (by rfl)]
                        refine wp_append_bytes (.tmp 59) (.tmp 67) rfl _ _ rfl rfl W.heap.size W.heap.size _ [] ds (lit_zero W.drew _ (Nat.le_refl _)) hbd (by omega) (by simp) ?_
                        intro v2 W2 hrow2 hg2
                        obtain ⟨a2, c2, rfl⟩ : ∃ a2 c2, v2 = .slice a2 ds.length c2 := by
                          rcases Joins.ownsRow_forms hrow2 with ⟨rfl, h0⟩ | ⟨g, c, rfl⟩
                          · exact ⟨none, 0, by rw [show ds.length = 0 from by omega]⟩
                          · exact ⟨_, c, by rw [Nat.zero_add]⟩
                        rw [Nat.zero_add, List.nil_append] at hrow2
                        have hB2 : Below W.heap.size W W2 := (((Below.refl _ W).drew).alloc (Nat.le_refl _) _).grown hg2 (by simp) (fun k e => by cases e; exact Nat.le_refl _)
                        have c02 := (hB2.cell (p := ⟨b, off + k, none⟩) hbW).trans c0
                        refine hK _ _ ?_
                        clear hK K
                        refine wpAny_ready (rs := [5]) (by kernel_rfl) (by simp) ?_
                        refine AllReady.cons rfl (fun K hK => ?_) AllReady.nil
                        go_simp
                        refine hK _ _ ?_
                        clear hK K
                        refine wpAny_ready (rs := [16]) (by kernel_rfl) (by simp) ?_
                        refine AllReady.cons rfl (fun K hK => ?_) AllReady.nil
                        go_simp
                        refine hK _ _ ?_
                        clear hK K
                        refine wpAny_ready (rs := [17]) (by kernel_rfl) (by simp) ?_
                        refine AllReady.cons rfl (fun K hK => ?_) AllReady.nil
                        go_simp
                        refine hK _ _ ?_
                        clear hK K
                        refine wpAny_ready (rs := [18]) (by kernel_rfl) (by simp) ?_
                        refine AllReady.cons rfl (fun K hK => ?_) AllReady.nil
                        rw [if_pos (by rfl)]
                        refine wp_append_fd (.tmp 53) (.tmp 70) rfl _ _ rfl rfl w.heap.size xs ⟨z0, a2, ds.length, c2, ds⟩ ((hrowW.kept (below_grown hB2) (by simp [Value.ownBlock])).alloc _) (cells_fresh W2 _) (by omega) (by have := hB2.size; simp; omega) ?_
                        intro v5 w5 hr5 hg5
                        obtain ⟨k5, b5⟩ := ref_step hsW hrowW hokW hdb ⟨h01, h02⟩ hB2 hrow2 hg5
                        refine hK _ _ ?_
                        clear hK K
                        refine wpAny_ready (rs := [19]) (by kernel_rfl) (by simp) ?_
                        refine AllReady.cons rfl (fun K hK => ?_) AllReady.nil
                        go_simp
                        refine hK _ _ ?_
                        clear hK K
                        refine wpAny_done (by kernel_rfl) ?_ _
                        go_wp2
                        go_roundw
                        case rel =>
                          refine ⟨k + 3 + ds.length, xs ++ [⟨z0, a2, ds.length, c2, ds⟩], by omega, by go_num, ?_, by rw [List.length_append]; exact hr5, k5, ?_, by simp; omega, hB.trans (hBW'.trans b5)⟩
                          · have h1 := hzx.out
                            have h2 := begins_eq HN.out Hb1.out Hb2.out (by have := HL.out; omega) a2 ds.length c2
                            rw [Hds.out, Hz0.out] at h2
                            rw [h2] at h1
                            show zs = _
                            rw [encL_append', List.append_assoc, show encL [⟨z0, a2, ds.length, c2, ds⟩] = encF ⟨z0, a2, ds.length, c2, ds⟩ from by simp [encL]]
                            exact h1
                          · intro x hx
                            rcases List.mem_append.1 hx with h | h
                            · exact hri.out x h
                            · obtain rfl : x = _ := by simpa using h
                              show rightB z0 ds.length = true
                              simp [rightB]; omega
                        case measure => simp [intOf]; omega
                  · go_simp
                    refine hK _ _ ?_
                    clear hK K
                    refine wpAny_ready (rs := [4, 15]) (by kernel_rfl) (by simp) ?_
                    refine AllReady.cons rfl (fun K hK => ?_) (AllReady.cons rfl (fun K hK => ?_) AllReady.nil)
                    · go_simp
                      refine hK _ _ ?_
                      clear hK K
                      refine wpAny_ready (rs := [5, 15]) (by kernel_rfl) (by simp) ?_
                      refine AllReady.cons rfl (fun K hK => ?_) (AllReady.cons rfl (fun K hK => ?_) AllReady.nil)
                      · go_simp
                        refine hK _ _ ?_
                        clear hK K
                        refine wpAny_ready (rs := [15]) (by kernel_rfl) (by simp) ?_
                        refine AllReady.cons rfl (fun K hK => ?_) AllReady.nil
                        rw [if_pos (by rfl)]
                        refine wp_append_bytes (.tmp 59) (.tmp 67) rfl _ _ rfl rfl W.heap.size W.heap.size _ [] ds (lit_zero W.drew _ (Nat.le_refl _)) hbd (by omega) (by simp) ?_
                        intro v2 W2 hrow2 hg2
                        obtain ⟨a2, c2, rfl⟩ : ∃ a2 c2, v2 = .slice a2 ds.length c2 := by
                          rcases Joins.ownsRow_forms hrow2 with ⟨rfl, h0⟩ | ⟨g, c, rfl⟩
                          · exact ⟨none, 0, by rw [show ds.length = 0 from by omega]⟩
                          · exact ⟨_, c, by rw [Nat.zero_add]⟩
                        rw [Nat.zero_add, List.nil_append] at hrow2
                        have hB2 : Below W.heap.size W W2 := (((Below.refl _ W).drew).alloc (Nat.le_refl _) _).grown hg2 (by simp) (fun k e => by cases e; exact Nat.le_refl _)
                        have c02 := (hB2.cell (p := ⟨b, off + k, none⟩) hbW).trans c0
                        refine hK _ _ ?_
                        clear hK K
                        refine wpAny_ready (rs := [16]) (by kernel_rfl) (by simp) ?_
                        refine AllReady.cons rfl (fun K hK => ?_) AllReady.nil
                        go_simp
                        refine hK _ _ ?_
                        clear hK K
                        refine wpAny_ready (rs := [17]) (by kernel_rfl) (by simp) ?_
                        refine AllReady.cons rfl (fun K hK => ?_) AllReady.nil
                        go_simp
                        refine hK _ _ ?_
                        clear hK K
                        refine wpAny_ready (rs := [18]) (by kernel_rfl) (by simp) ?_
                        refine AllReady.cons rfl (fun K hK => ?_) AllReady.nil
                        rw [if_pos (by rfl)]
                        refine wp_append_fd (.tmp 53) (.tmp 70) rfl _ _ rfl rfl w.heap.size xs ⟨z0, a2, ds.length, c2, ds⟩ ((hrowW.kept (below_grown hB2) (by simp [Value.ownBlock])).alloc _) (cells_fresh W2 _) (by omega) (by have := hB2.size; simp; omega) ?_
                        intro v5 w5 hr5 hg5
                        obtain ⟨k5, b5⟩ := ref_step hsW hrowW hokW hdb ⟨h01, h02⟩ hB2 hrow2 hg5
                        refine hK _ _ ?_
                        clear hK K
                        refine wpAny_ready (rs := [19]) (by kernel_rfl) (by simp) ?_
                        refine AllReady.cons rfl (fun K hK => ?_) AllReady.nil
                        go_simp
                        refine hK _ _ ?_
                        clear hK K
                        refine wpAny_done (by kernel_rfl) ?_ _
                        go_wp2
                        go_roundw
                        case rel =>
                          refine ⟨k + 3 + ds.length, xs ++ [⟨z0, a2, ds.length, c2, ds⟩], by omega, by go_num, ?_, by rw [List.length_append]; exact hr5, k5, ?_, by simp; omega, hB.trans (hBW'.trans b5)⟩
                          · have h1 := hzx.out
                            have h2 := begins_eq HN.out Hb1.out Hb2.out (by have := HL.out; omega) a2 ds.length c2
                            rw [Hds.out, Hz0.out] at h2
                            rw [h2] at h1
                            show zs = _
                            rw [encL_append', List.append_assoc, show encL [⟨z0, a2, ds.length, c2, ds⟩] = encF ⟨z0, a2, ds.length, c2, ds⟩ from by simp [encL]]
                            exact h1
                          · intro x hx
                            rcases List.mem_append.1 hx with h | h
                            · exact hri.out x h
                            · obtain rfl : x = _ := by simpa using h
                              show rightB z0 ds.length = true
                              simp [rightB]; omega
                        case measure => simp [intOf]; omega
                      · rw [if_pos (by rfl)]
                        refine wp_append_bytes (.tmp 59) (.tmp 67) rfl _ _ rfl rfl W.heap.size W.heap.size _ [] ds (lit_zero W.drew _ (Nat.le_refl _)) hbd (by omega) (by simp) ?_
                        intro v2 W2 hrow2 hg2
                        obtain ⟨a2, c2, rfl⟩ : ∃ a2 c2, v2 = .slice a2 ds.length c2 := by
                          rcases Joins.ownsRow_forms hrow2 with ⟨rfl, h0⟩ | ⟨g, c, rfl⟩
                          · exact ⟨none, 0, by rw [show ds.length = 0 from by omega]⟩
                          · exact ⟨_, c, by rw [Nat.zero_add]⟩
                        rw [Nat.zero_add, List.nil_append] at hrow2
                        have hB2 : Below W.heap.size W W2 := (((Below.refl _ W).drew).alloc (Nat.le_refl _) _).grown hg2 (by simp) (fun k e => by cases e; exact Nat.le_refl _)
                        have c02 := (hB2.cell (p := ⟨b, off + k, none⟩) hbW).trans c0
                        refine hK _ _ ?_
                        clear hK K
                        refine wpAny_ready (rs := [5]) (by kernel_rfl) (by simp) ?_
                        refine AllReady.cons rfl (fun K hK => ?_) AllReady.nil
                        go_simp
                        refine hK _ _ ?_
                        clear hK K
                        refine wpAny_ready (rs := [16]) (by kernel_rfl) (by simp) ?_
                        refine AllReady.cons rfl (fun K hK => ?_) AllReady.nil
                        go_simp
                        refine hK _ _ ?_
                        clear hK K
                        refine wpAny_ready (rs := [17]) (by kernel_rfl) (by simp) ?_
                        refine AllReady.cons rfl (fun K hK => ?_) AllReady.nil
                        go_simp
                        refine hK _ _ ?_
                        clear hK K
                        refine wpAny_ready (rs := [18]) (by kernel_rfl) (by simp) ?_
                        refine AllReady.cons rfl (fun K hK => ?_) AllReady.nil
                        rw [if_pos (by rfl)]
                        refine wp_append_fd (.tmp 53) (.tmp 70) rfl _ _ rfl rfl w.heap.size xs ⟨z0, a2, ds.length, c2, ds⟩ ((hrowW.kept (below_grown hB2) (by simp [Value.ownBlock])).alloc _) (cells_fresh W2 _) (by omega) (by have := hB2.size; simp; omega) ?_
                        intro v5 w5 hr5 hg5
                        obtain ⟨k5, b5⟩ := ref_step hsW hrowW hokW hdb ⟨h01, h02⟩ hB2 hrow2 hg5
                        refine hK _ _ ?_
                        clear hK K
                        refine wpAny_ready (rs := [19]) (by kernel_rfl) (by simp) ?_
                        refine AllReady.cons rfl (fun K hK => ?_) AllReady.nil
                        go_simp
                        refine hK _ _ ?_
                        clear hK K
                        refine wpAny_done (by kernel_rfl) ?_ _
                        go_wp2
                        go_roundw
                        case rel =>
                          refine ⟨k + 3 + ds.length, xs ++ [⟨z0, a2, ds.length, c2, ds⟩], by omega, by go_num, ?_, by rw [List.length_append]; exact hr5, k5, ?_, by simp; omega, hB.trans (hBW'.trans b5)⟩
                          · have h1 := hzx.out
                            have h2 := begins_eq HN.out Hb1.out Hb2.out (by have := HL.out; omega) a2 ds.length c2
                            rw [Hds.out, Hz0.out] at h2
                            rw [h2] at h1
                            show zs = _
                            rw [encL_append', List.append_assoc, show encL [⟨z0, a2, ds.length, c2, ds⟩] = encF ⟨z0, a2, ds.length, c2, ds⟩ from by simp [encL]]
                            exact h1
                          · intro x hx
                            rcases List.mem_append.1 hx with h | h
                            · exact hri.out x h
                            · obtain rfl : x = _ := by simpa using h
                              show rightB z0 ds.length = true
                              simp [rightB]; omega
                        case measure => simp [intOf]; omega
                    · rw [if_pos (by rfl)]
                      refine wp_append_bytes (.tmp 59) (.tmp 67) rfl _ _ rfl rfl W.heap.size W.heap.size _ [] ds (lit_zero W.drew _ (Nat.le_refl _)) hbd (by omega) (by simp) ?_
                      intro v2 W2 hrow2 hg2
                      obtain ⟨a2, c2, rfl⟩ : ∃ a2 c2, v2 = .slice a2 ds.length c2 := by
                        rcases Joins.ownsRow_forms hrow2 with ⟨rfl, h0⟩ | ⟨g, c, rfl⟩
                        · exact ⟨none, 0, by rw [show ds.length = 0 from by omega]⟩
                        · exact ⟨_, c, by rw [Nat.zero_add]⟩
                      rw [Nat.zero_add, List.nil_append] at hrow2
                      have hB2 : Below W.heap.size W W2 := (((Below.refl _ W).drew).alloc (Nat.le_refl _) _).grown hg2 (by simp) (fun k e => by cases e; exact Nat.le_refl _)
                      have c02 := (hB2.cell (p := ⟨b, off + k, none⟩) hbW).trans c0
                      refine hK _ _ ?_
                      clear hK K
                      refine wpAny_ready (rs := [4]) (by kernel_rfl) (by simp) ?_
                      refine AllReady.cons rfl (fun K hK => ?_) AllReady.nil
                      go_simp
                      refine hK _ _ ?_
                      clear hK K
                      refine wpAny_ready (rs := [5]) (by kernel_rfl) (by simp) ?_
                      refine AllReady.cons rfl (fun K hK => ?_) AllReady.nil
                      go_simp
                      refine hK _ _ ?_
                      clear hK K
                      refine wpAny_ready (rs := [16]) (by kernel_rfl) (by simp) ?_
                      refine AllReady.cons rfl (fun K hK => ?_) AllReady.nil
                      go_simp
                      refine hK _ _ ?_
                      clear hK K
                      refine wpAny_ready (rs := [17]) (by kernel_rfl) (by simp) ?_
                      refine AllReady.cons rfl (fun K hK => ?_) AllReady.nil
                      go_simp
                      refine hK _ _ ?_
                      clear hK K
                      refine wpAny_ready (rs := [18]) (by kernel_rfl) (by simp) ?_
                      refine AllReady.cons rfl (fun K hK => ?_) AllReady.nil
                      rw [if_pos (by rfl)]
                      refine wp_append_fd (.tmp 53) (.tmp 70) rfl _ _ rfl rfl w.heap.size xs ⟨z0, a2, ds.length, c2, ds⟩ ((hrowW.kept (below_grown hB2) (by simp [Value.ownBlock])).alloc _) (cells_fresh W2 _) (by omega) (by have := hB2.size; simp; omega) ?_
                      intro v5 w5 hr5 hg5
                      obtain ⟨k5, b5⟩ := ref_step hsW hrowW hokW hdb ⟨h01, h02⟩ hB2 hrow2 hg5
                      refine hK _ _ ?_
                      clear hK K
                      refine wpAny_ready (rs := [19]) (by kernel_rfl) (by simp) ?_
                      refine AllReady.cons rfl (fun K hK => ?_) AllReady.nil
                      go_simp
                      refine hK _ _ ?_
                      clear hK K
                      refine wpAny_done (by kernel_rfl) ?_ _
                      go_wp2
                      go_roundw
                      case rel =>
                        refine ⟨k + 3 + ds.length, xs ++ [⟨z0, a2, ds.length, c2, ds⟩], by omega, by go_num, ?_, by rw [List.length_append]; exact hr5, k5, ?_, by simp; omega, hB.trans (hBW'.trans b5)⟩
                        · have h1 := hzx.out
                          have h2 := begins_eq HN.out Hb1.out Hb2.out (by have := HL.out; omega) a2 ds.length c2
                          rw [Hds.out, Hz0.out] at h2
                          rw [h2] at h1
                          show zs = _
                          rw [encL_append', List.append_assoc, show encL [⟨z0, a2, ds.length, c2, ds⟩] = encF ⟨z0, a2, ds.length, c2, ds⟩ from by simp [encL]]
                          exact h1
                        · intro x hx
                          rcases List.mem_append.1 hx with h | h
                          · exact hri.out x h
                          · obtain rfl : x = _ := by simpa using h
                            show rightB z0 ds.length = true
                            simp [rightB]; omega
                      case measure => simp [intOf]; omega
                · go_wp2_with fail
                  refine wp_region_any (by kernel_rfl) ?_
                  change wpAny _ _ _ _ _ _ _ (World.drew _)
                  refine wpAny_take (i := 0) (v := ?_) rfl (by kernel_rfl) (by kernel_rfl) (by kernel_rfl) (fun _ _ _ h => h) (Or.inl ⟨by rfl, ?_⟩) ?_
                  rotate_left
                  · intro w; go_simp; with_reducible rfl
                  refine wpAny_take (i := 1) (v := ?_) rfl (by kernel_rfl) (by kernel_rfl) (by kernel_rfl) (fun _ _ _ h => h) (Or.inl ⟨by rfl, ?_⟩) ?_
                  rotate_left
                  · intro w; go_simp; with_reducible rfl
                  refine wpAny_take (i := 2) (v := ?_) rfl (by kernel_rfl) (by kernel_rfl) (by kernel_rfl) (fun _ _ _ h => h) (Or.inl ⟨by rfl, ?_⟩) ?_
                  rotate_left
                  · intro w; go_simp; with_reducible rfl
                  refine wpAny_take (i := 3) (v := ?_) rfl (by kernel_rfl) (by kernel_rfl) (by kernel_rfl) (fun _ _ _ h => h) (Or.inl ⟨by rfl, ?_⟩) ?_
                  rotate_left
                  · intro w; go_simp; with_reducible rfl
                  refine wpAny_take (i := 7) (v := ?_) rfl (by kernel_rfl) (by kernel_rfl) (by kernel_rfl) (fun _ _ _ h => h) (Or.inl ⟨by rfl, ?_⟩) ?_
                  rotate_left
                  · intro w; go_simp; with_reducible rfl
                  refine wpAny_take (i := 8) (v := ?_) rfl (by kernel_rfl) (by kernel_rfl) (by kernel_rfl) (fun _ _ _ h => h) (Or.inl ⟨by rfl, ?_⟩) ?_
                  rotate_left
                  · intro w; go_simp; with_reducible rfl
                  refine wpAny_take (i := 9) (v := ?_) rfl (by kernel_rfl) (by kernel_rfl) (by kernel_rfl) (fun _ _ _ h => h) (Or.inl ⟨by rfl, ?_⟩) ?_
                  rotate_left
                  · intro w; go_simp; with_reducible rfl
                  refine wpAny_take (i := 10) (v := ?_) rfl (by kernel_rfl) (by kernel_rfl) (by kernel_rfl) (fun _ _ _ h => h) (Or.inl ⟨by rfl, ?_⟩) ?_
                  rotate_left
                  · intro w; go_simp; with_reducible rfl
                  refine wpAny_take (i := 11) (v := ?_) rfl (by kernel_rfl) (by kernel_rfl) (by kernel_rfl) (fun _ _ _ h => h) (Or.inl ⟨by rfl, ?_⟩) ?_
                  rotate_left
                  · intro w; go_simp; with_reducible rfl
                  refine wpAny_take (i := 12) (v := ?_) rfl (by kernel_rfl) (by kernel_rfl) (by kernel_rfl) (fun _ _ _ h => h) (Or.inl ⟨by rfl, ?_⟩) ?_
                  rotate_left
                  · intro w; go_simp; with_reducible rfl
                  refine wpAny_take (i := 13) (v := ?_) rfl (by kernel_rfl) (by kernel_rfl) (by kernel_rfl) (fun _ _ _ h => h) (Or.inl ⟨by rfl, ?_⟩) ?_
                  rotate_left
                  · intro w; go_simp; with_reducible rfl
                  refine wpAny_take (i := 14) (v := ?_) rfl (by kernel_rfl) (by kernel_rfl) (by kernel_rfl) (fun _ _ _ h => h) (Or.inl ⟨by rfl, ?_⟩) ?_
                  rotate_left
                  · intro w; go_simp; with_reducible rfl
                  refine wpAny_ready (rs := [4, 6]) (by kernel_rfl) (by simp) ?_
                  refine AllReady.cons rfl (fun K hK => ?_) (AllReady.cons rfl (fun K hK => ?_) AllReady.nil)
                  · go_simp
                    refine hK _ _ ?_
                    clear hK K
                    refine wpAny_ready (rs := [5, 6]) (by kernel_rfl) (by simp) ?_
                    refine AllReady.cons rfl (fun K hK => ?_) (AllReady.cons rfl (fun K hK => ?_) AllReady.nil)
                    · go_simp
                      refine hK _ _ ?_
                      clear hK K
                      refine wpAny_ready (rs := [6]) (by kernel_rfl) (by simp) ?_
                      refine AllReady.cons rfl (fun K hK => ?_) AllReady.nil
                      go_simp
                      refine hK _ _ ?_
                      clear hK K
                      refine wpAny_ready (rs := [15]) (by kernel_rfl) (by simp) ?_
                      refine AllReady.cons rfl (fun K hK => ?_) AllReady.nil
                      rw [if_pos (by rfl)]
                      refine wp_append_bytes (.tmp 59) (.tmp 67) rfl _ _ rfl rfl W.heap.size W.heap.size _ [] ds (lit_zero W.drew _ (Nat.le_refl _)) hbd (by omega) (by simp) ?_
                      intro v2 W2 hrow2 hg2
                      obtain ⟨a2, c2, rfl⟩ : ∃ a2 c2, v2 = .slice a2 ds.length c2 := by
                        rcases Joins.ownsRow_forms hrow2 with ⟨rfl, h0⟩ | ⟨g, c, rfl⟩
                        · exact ⟨none, 0, by rw [show ds.length = 0 from by omega]⟩
                        · exact ⟨_, c, by rw [Nat.zero_add]⟩
                      rw [Nat.zero_add, List.nil_append] at hrow2
                      have hB2 : Below W.heap.size W W2 := (((Below.refl _ W).drew).alloc (Nat.le_refl _) _).grown hg2 (by simp) (fun k e => by cases e; exact Nat.le_refl _)
                      have c02 := (hB2.cell (p := ⟨b, off + k, none⟩) hbW).trans c0
                      refine hK _ _ ?_
                      clear hK K
                      refine wpAny_ready (rs := [16]) (by kernel_rfl) (by simp) ?_
                      refine AllReady.cons rfl (fun K hK => ?_) AllReady.nil
                      go_simp
                      refine hK _ _ ?_
                      clear hK K
                      refine wpAny_ready (rs := [17]) (by kernel_rfl) (by simp) ?_
                      refine AllReady.cons rfl (fun K hK => ?_) AllReady.nil
                      go_simp
                      refine hK _ _ ?_
                      clear hK K
                      refine wpAny_ready (rs := [18]) (by kernel_rfl) (by simp) ?_
                      refine AllReady.cons rfl (fun K hK => ?_) AllReady.nil
                      rw [if_pos (by rfl)]
                      refine wp_append_fd (.tmp 53) (.tmp 70) rfl _ _ rfl rfl w.heap.size xs ⟨z0, a2, ds.length, c2, ds⟩ ((hrowW.kept (below_grown hB2) (by simp [Value.ownBlock])).alloc _) (cells_fresh W2 _) (by omega) (by have := hB2.size; simp; omega) ?_
                      intro v5 w5 hr5 hg5
                      obtain ⟨k5, b5⟩ := ref_step hsW hrowW hokW hdb ⟨h01, h02⟩ hB2 hrow2 hg5
                      refine hK _ _ ?_
                      clear hK K
                      refine wpAny_ready (rs := [19]) (by kernel_rfl) (by simp) ?_
                      refine AllReady.cons rfl (fun K hK => ?_) AllReady.nil
                      go_simp
                      refine hK _ _ ?_
                      clear hK K
                      refine wpAny_done (by kernel_rfl) ?_ _
                      go_wp2
                      go_roundw
                      case rel =>
                        refine ⟨k + 3 + ds.length, xs ++ [⟨z0, a2, ds.length, c2, ds⟩], by omega, by go_num, ?_, by rw [List.length_append]; exact hr5, k5, ?_, by simp; omega, hB.trans (hBW'.trans b5)⟩
                        · have h1 := hzx.out
                          have h2 := begins_eq HN.out Hb1.out Hb2.out (by have := HL.out; omega) a2 ds.length c2
                          rw [Hds.out, Hz0.out] at h2
                          rw [h2] at h1
                          show zs = _
                          rw [encL_append', List.append_assoc, show encL [⟨z0, a2, ds.length, c2, ds⟩] = encF ⟨z0, a2, ds.length, c2, ds⟩ from by simp [encL]]
                          exact h1
                        · intro x hx
                          rcases List.mem_append.1 hx with h | h
                          · exact hri.out x h
                          · obtain rfl : x = _ := by simpa using h
                            show rightB z0 ds.length = true
                            simp [rightB]; omega
                      case measure => simp [intOf]; omega
                    · go_simp
                      refine hK _ _ ?_
                      clear hK K
                      refine wpAny_ready (rs := [5, 15]) (by kernel_rfl) (by simp) ?_
                      refine AllReady.cons rfl (fun K hK => ?_) (AllReady.cons rfl (fun K hK => ?_) AllReady.nil)
                      · go_simp
                        refine hK _ _ ?_
                        clear hK K
                        refine wpAny_ready (rs := [15]) (by kernel_rfl) (by simp) ?_
                        refine AllReady.cons rfl (fun K hK => ?_) AllReady.nil
                        rw [if_pos (by rfl)]
                        refine wp_append_bytes (.tmp 59) (.tmp 67) rfl _ _ rfl rfl W.heap.size W.heap.size _ [] ds (lit_zero W.drew _ (Nat.le_refl _)) hbd (by omega) (by simp) ?_
                        intro v2 W2 hrow2 hg2
                        obtain ⟨a2, c2, rfl⟩ : ∃ a2 c2, v2 = .slice a2 ds.length c2 := by
                          rcases Joins.ownsRow_forms hrow2 with ⟨rfl, h0⟩ | ⟨g, c, rfl⟩
                          · exact ⟨none, 0, by rw [show ds.length = 0 from by omega]⟩
                          · exact ⟨_, c, by rw [Nat.zero_add]⟩
                        rw [Nat.zero_add, List.nil_append] at hrow2
                        have hB2 : Below W.heap.size W W2 := (((Below.refl _ W).drew).alloc (Nat.le_refl _) _).grown hg2 (by simp) (fun k e => by cases e; exact Nat.le_refl _)
                        have c02 := (hB2.cell (p := ⟨b, off + k, none⟩) hbW).trans c0
                        refine hK _ _ ?_
                        clear hK K
                        refine wpAny_ready (rs := [16]) (by kernel_rfl) (by simp) ?_
                        refine AllReady.cons rfl (fun K hK => ?_) AllReady.nil
                        go_simp
                        refine hK _ _ ?_
                        clear hK K
                        refine wpAny_ready (rs := [17]) (by kernel_rfl) (by simp) ?_
                        refine AllReady.cons rfl (fun K hK => ?_) AllReady.nil
                        go_simp
                        refine hK _ _ ?_
                        clear hK K
                        refine wpAny_ready (rs := [18]) (by kernel_rfl) (by simp) ?_
                        refine AllReady.cons rfl (fun K hK => ?_) AllReady.nil
                        rw [if_pos (by rfl)]
                        refine wp_append_fd (.tmp 53) (.tmp 70) rfl _ _ rfl rfl w.heap.size xs ⟨z0, a2, ds.length, c2, ds⟩ ((hrowW.kept (below_grown hB2) (by simp [Value.ownBlock])).alloc _) (cells_fresh W2 _) (by omega) (by have := hB2.size; simp; omega) ?_
                        intro v5 w5 hr5 hg5
                        obtain ⟨k5, b5⟩ := ref_step hsW hrowW hokW hdb ⟨h01, h02⟩ hB2 hrow2 hg5
                        refine hK _ _ ?_
                        clear hK K
                        refine wpAny_ready (rs := [19]) (by kernel_rfl) (by simp) ?_
                        refine AllReady.cons rfl (fun K hK => ?_) AllReady.nil
                        go_simp
                        refine hK _ _ ?_
                        clear hK K
                        refine wpAny_done (by kernel_rfl) ?_ _
                        go_wp2
                        go_roundw
                        case rel =>
                          refine ⟨k + 3 + ds.length, xs ++ [⟨z0, a2, ds.length, c2, ds⟩], by omega, by go_num, ?_, by rw [List.length_append]; exact hr5, k5, ?_, by simp; omega, hB.trans (hBW'.trans b5)⟩
                          · have h1 := hzx.out
                            have h2 := begins_eq HN.out Hb1.out Hb2.out (by have := HL.out; omega) a2 ds.length c2
                            rw [Hds.out, Hz0.out] at h2
                            rw [h2] at h1
                            show zs = _
                            rw [encL_append', List.append_assoc, show encL [⟨z0, a2, ds.length, c2, ds⟩] = encF ⟨z0, a2, ds.length, c2, ds⟩ from by simp [encL]]
                            exact h1
                          · intro x hx
                            rcases List.mem_append.1 hx with h | h
                            · exact hri.out x h
                            · obtain rfl : x = _ := by simpa using h
                              show rightB z0 ds.length = true
                              simp [rightB]; omega
                        case measure => simp [intOf]; omega
                      · rw [if_pos (by rfl)]
                        refine wp_append_bytes (.tmp 59) (.tmp 67) rfl _ _ rfl rfl W.heap.size W.heap.size _ [] ds (lit_zero W.drew _ (Nat.le_refl _)) hbd (by omega) (by simp) ?_
                        intro v2 W2 hrow2 hg2
                        obtain ⟨a2, c2, rfl⟩ : ∃ a2 c2, v2 = .slice a2 ds.length c2 := by
                          rcases Joins.ownsRow_forms hrow2 with ⟨rfl, h0⟩ | ⟨g, c, rfl⟩
                          · exact ⟨none, 0, by rw [show ds.length = 0 from by omega]⟩
                          · exact ⟨_, c, by rw [Nat.zero_add]⟩
                        rw [Nat.zero_add, List.nil_append] at hrow2
                        have hB2 : Below W.heap.size W W2 := (((Below.refl _ W).drew).alloc (Nat.le_refl _) _).grown hg2 (by simp) (fun k e => by cases e; exact Nat.le_refl _)
                        have c02 := (hB2.cell (p := ⟨b, off + k, none⟩) hbW).trans c0
                        refine hK _ _ ?_
                        clear hK K
                        refine wpAny_ready (rs := [5]) (by kernel_rfl) (by simp) ?_
                        refine AllReady.cons rfl (fun K hK => ?_) AllReady.nil
                        go_simp
                        refine hK _ _ ?_
                        clear hK K
                        refine wpAny_ready (rs := [16]) (by kernel_rfl) (by simp) ?_
                        refine AllReady.cons rfl (fun K hK => ?_) AllReady.nil
                        go_simp
                        refine hK _ _ ?_
                        clear hK K
                        refine wpAny_ready (rs := [17]) (by kernel_rfl) (by simp) ?_
                        refine AllReady.cons rfl (fun K hK => ?_) AllReady.nil
                        go_simp
                        refine hK _ _ ?_
                        clear hK K
                        refine wpAny_ready (rs := [18]) (by kernel_rfl) (by simp) ?_
                        refine AllReady.cons rfl (fun K hK => ?_) AllReady.nil
                        rw [if_pos (by rfl)]
                        refine wp_append_fd (.tmp 53) (.tmp 70) rfl _ _ rfl rfl w.heap.size xs ⟨z0, a2, ds.length, c2, ds⟩ ((hrowW.kept (below_grown hB2) (by simp [Value.ownBlock])).alloc _) (cells_fresh W2 _) (by omega) (by have := hB2.size; simp; omega) ?_
                        intro v5 w5 hr5 hg5
                        obtain ⟨k5, b5⟩ := ref_step hsW hrowW hokW hdb ⟨h01, h02⟩ hB2 hrow2 hg5
                        refine hK _ _ ?_
                        clear hK K
                        refine wpAny_ready (rs := [19]) (by kernel_rfl) (by simp) ?_
                        refine AllReady.cons rfl (fun K hK => ?_) AllReady.nil
                        go_simp
                        refine hK _ _ ?_
                        clear hK K
                        refine wpAny_done (by kernel_rfl) ?_ _
                        go_wp2
                        go_roundw
                        case rel =>
                          refine ⟨k + 3 + ds.length, xs ++ [⟨z0, a2, ds.length, c2, ds⟩], by omega, by go_num, ?_, by rw [List.length_append]; exact hr5, k5, ?_, by simp; omega, hB.trans (hBW'.trans b5)⟩
                          · have h1 := hzx.out
                            have h2 := begins_eq HN.out Hb1.out Hb2.out (by have := HL.out; omega) a2 ds.length c2
                            rw [Hds.out, Hz0.out] at h2
                            rw [h2] at h1
                            show zs = _
                            rw [encL_append', List.append_assoc, show encL [⟨z0, a2, ds.length, c2, ds⟩] = encF ⟨z0, a2, ds.length, c2, ds⟩ from by simp [encL]]
                            exact h1
                          · intro x hx
                            rcases List.mem_append.1 hx with h | h
                            · exact hri.out x h
                            · obtain rfl : x = _ := by simpa using h
                              show rightB z0 ds.length = true
                              simp [rightB]; omega
                        case measure => simp [intOf]; omega
                  · go_simp
                    refine hK _ _ ?_
                    clear hK K
                    refine wpAny_ready (rs := [4, 15]) (by kernel_rfl) (by simp) ?_
                    refine AllReady.cons rfl (fun K hK => ?_) (AllReady.cons rfl (fun K hK => ?_) AllReady.nil)
                    · go_simp
                      refine hK _ _ ?_
                      clear hK K
                      refine wpAny_ready (rs := [5, 15]) (by kernel_rfl) (by simp) ?_
                      refine AllReady.cons rfl (fun K hK => ?_) (AllReady.cons rfl (fun K hK => ?_) AllReady.nil)
                      · go_simp
                        refine hK _ _ ?_
                        clear hK K
                        refine wpAny_ready (rs := [15]) (by kernel_rfl) (by simp) ?_
                        refine AllReady.cons rfl (fun K hK => ?_) AllReady.nil
                        rw [if_pos (by rfl)]
                        refine wp_append_bytes (.tmp 59) (.tmp 67) rfl _ _ rfl rfl W.heap.size W.heap.size _ [] ds (lit_zero W.drew _ (Nat.le_refl _)) hbd (by omega) (by simp) ?_
                        intro v2 W2 hrow2 hg2
                        obtain ⟨a2, c2, rfl⟩ : ∃ a2 c2, v2 = .slice a2 ds.length c2 := by
                          rcases Joins.ownsRow_forms hrow2 with ⟨rfl, h0⟩ | ⟨g, c, rfl⟩
                          · exact ⟨none, 0, by rw [show ds.length = 0 from by omega]⟩
                          · exact ⟨_, c, by rw [Nat.zero_add]⟩
                        rw [Nat.zero_add, List.nil_append] at hrow2
                        have hB2 : Below W.heap.size W W2 := (((Below.refl _ W).drew).alloc (Nat.le_refl _) _).grown hg2 (by simp) (fun k e => by cases e; exact Nat.le_refl _)
                        have c02 := (hB2.cell (p := ⟨b, off + k, none⟩) hbW).trans c0
                        refine hK _ _ ?_
                        clear hK K
                        refine wpAny_ready (rs := [16]) (by kernel_rfl) (by simp) ?_
                        refine AllReady.cons rfl (fun K hK => ?_) AllReady.nil
                        go_simp
                        refine hK _ _ ?_
                        clear hK K
                        refine wpAny_ready (rs := [17]) (by kernel_rfl) (by simp) ?_
                        refine AllReady.cons rfl (fun K hK => ?_) AllReady.nil
                        go_simp
                        refine hK _ _ ?_
                        clear hK K
                        refine wpAny_ready (rs := [18]) (by kernel_rfl) (by simp) ?_
                        refine AllReady.cons rfl (fun K hK => ?_) AllReady.nil
                        rw [if_pos (by rfl)]
                        refine wp_append_fd (.tmp 53) (.tmp 70) rfl _ _ rfl rfl w.heap.size xs ⟨z0, a2, ds.length, c2, ds⟩ ((hrowW.kept (below_grown hB2) (by simp [Value.ownBlock])).alloc _) (cells_fresh W2 _) (by omega) (by have := hB2.size; simp; omega) ?_
                        intro v5 w5 hr5 hg5
                        obtain ⟨k5, b5⟩ := ref_step hsW hrowW hokW hdb ⟨h01, h02⟩ hB2 hrow2 hg5
                        refine hK _ _ ?_
                        clear hK K
                        refine wpAny_ready (rs := [19]) (by kernel_rfl) (by simp) ?_
                        refine AllReady.cons rfl (fun K hK => ?_) AllReady.nil
                        go_simp
                        refine hK _ _ ?_
                        clear hK K
                        refine wpAny_done (by kernel_rfl) ?_ _
                        go_wp2
                        go_roundw
                        case rel =>
                          refine ⟨k + 3 + ds.length, xs ++ [⟨z0, a2, ds.length, c2, ds⟩], by omega, by go_num, ?_, by rw [List.length_append]; exact hr5, k5, ?_, by simp; omega, hB.trans (hBW'.trans b5)⟩
                          · have h1 := hzx.out
                            have h2 := begins_eq HN.out Hb1.out Hb2.out (by have := HL.out; omega) a2 ds.length c2
                            rw [Hds.out, Hz0.out] at h2
                            rw [h2] at h1
                            show zs = _
                            rw [encL_append', List.append_assoc, show encL [⟨z0, a2, ds.length, c2, ds⟩] = encF ⟨z0, a2, ds.length, c2, ds⟩ from by simp [encL]]
                            exact h1
                          · intro x hx
                            rcases List.mem_append.1 hx with h | h
                            · exact hri.out x h
                            · obtain rfl : x = _ := by simpa using h
                              show rightB z0 ds.length = true
                              simp [rightB]; omega
                        case measure => simp [intOf]; omega
                      · rw [if_pos (by rfl)]
                        refine wp_append_bytes (.tmp 59) (.tmp 67) rfl _ _ rfl rfl W.heap.size W.heap.size _ [] ds (lit_zero W.drew _ (Nat.le_refl _)) hbd (by omega) (by simp) ?_
                        intro v2 W2 hrow2 hg2
                        obtain ⟨a2, c2, rfl⟩ : ∃ a2 c2, v2 = .slice a2 ds.length c2 := by
                          rcases Joins.ownsRow_forms hrow2 with ⟨rfl, h0⟩ | ⟨g, c, rfl⟩
                          · exact ⟨none, 0, by rw [show ds.length = 0 from by omega]⟩
                          · exact ⟨_, c, by rw [Nat.zero_add]⟩
                        rw [Nat.zero_add, List.nil_append] at hrow2
                        have hB2 : Below W.heap.size W W2 := (((Below.refl _ W).drew).alloc (Nat.le_refl _) _).grown hg2 (by simp) (fun k e => by cases e; exact Nat.le_refl _)
                        have c02 := (hB2.cell (p := ⟨b, off + k, none⟩) hbW).trans c0
                        refine hK _ _ ?_
                        clear hK K
                        refine wpAny_ready (rs := [5]) (by kernel_rfl) (by simp) ?_
                        refine AllReady.cons rfl (fun K hK => ?_) AllReady.nil
                        go_simp
                        refine hK _ _ ?_
                        clear hK K
                        refine wpAny_ready (rs := [16]) (by kernel_rfl) (by simp) ?_
                        refine AllReady.cons rfl (fun K hK => ?_) AllReady.nil
                        go_simp
                        refine hK _ _ ?_
                        clear hK K
                        refine wpAny_ready (rs := [17]) (by kernel_rfl) (by simp) ?_
                        refine AllReady.cons rfl (fun K hK => ?_) AllReady.nil
                        go_simp
                        refine hK _ _ ?_
                        clear hK K
                        refine wpAny_ready (rs := [18]) (by kernel_rfl) (by simp) ?_
                        refine AllReady.cons rfl (fun K hK => ?_) AllReady.nil
                        rw [if_pos (by rfl)]
                        refine wp_append_fd (.tmp 53) (.tmp 70) rfl _ _ rfl rfl w.heap.size xs ⟨z0, a2, ds.length, c2, ds⟩ ((hrowW.kept (below_grown hB2) (by simp [Value.ownBlock])).alloc _) (cells_fresh W2 _) (by omega) (by have := hB2.size; simp; omega) ?_
                        intro v5 w5 hr5 hg5
                        obtain ⟨k5, b5⟩ := ref_step hsW hrowW hokW hdb ⟨h01, h02⟩ hB2 hrow2 hg5
                        refine hK _ _ ?_
                        clear hK K
                        refine wpAny_ready (rs := [19]) (by kernel_rfl) (by simp) ?_
                        refine AllReady.cons rfl (fun K hK => ?_) AllReady.nil
                        go_simp
                        refine hK _ _ ?_
                        clear hK K
                        refine wpAny_done (by kernel_rfl) ?_ _
                        go_wp2
                        go_roundw
                        case rel =>
                          refine ⟨k + 3 + ds.length, xs ++ [⟨z0, a2, ds.length, c2, ds⟩], by omega, by go_num, ?_, by rw [List.length_append]; exact hr5, k5, ?_, by simp; omega, hB.trans (hBW'.trans b5)⟩
                          · have h1 := hzx.out
                            have h2 := begins_eq HN.out Hb1.out Hb2.out (by have := HL.out; omega) a2 ds.length c2
                            rw [Hds.out, Hz0.out] at h2
                            rw [h2] at h1
                            show zs = _
                            rw [encL_append', List.append_assoc, show encL [⟨z0, a2, ds.length, c2, ds⟩] = encF ⟨z0, a2, ds.length, c2, ds⟩ from by simp [encL]]
                            exact h1
                          · intro x hx
                            rcases List.mem_append.1 hx with h | h
                            · exact hri.out x h
                            · obtain rfl : x = _ := by simpa using h
                              show rightB z0 ds.length = true
                              simp [rightB]; omega
                        case measure => simp [intOf]; omega
                    · rw [if_pos (by rfl)]
                      refine wp_append_bytes (.tmp 59) (.tmp 67) rfl _ _ rfl rfl W.heap.size W.heap.size _ [] ds (lit_zero W.drew _ (Nat.le_refl _)) hbd (by omega) (by simp) ?_
                      intro v2 W2 hrow2 hg2
                      obtain ⟨a2, c2, rfl⟩ : ∃ a2 c2, v2 = .slice a2 ds.length c2 := by
                        rcases Joins.ownsRow_forms hrow2 with ⟨rfl, h0⟩ | ⟨g, c, rfl⟩
                        · exact ⟨none, 0, by rw [show ds.length = 0 from by omega]⟩
                        · exact ⟨_, c, by rw [Nat.zero_add]⟩
                      rw [Nat.zero_add, List.nil_append] at hrow2
                      have hB2 : Below W.heap.size W W2 := (((Below.refl _ W).drew).alloc (Nat.le_refl _) _).grown hg2 (by simp) (fun k e => by cases e; exact Nat.le_refl _)
                      have c02 := (hB2.cell (p := ⟨b, off + k, none⟩) hbW).trans c0
                      refine hK _ _ ?_
                      clear hK K
                      refine wpAny_ready (rs := [4]) (by kernel_rfl) (by simp) ?_
                      refine AllReady.cons rfl (fun K hK => ?_) AllReady.nil
                      go_simp
                      refine hK _ _ ?_
                      clear hK K
                      refine wpAny_ready (rs := [5]) (by kernel_rfl) (by simp) ?_
                      refine AllReady.cons rfl (fun K hK => ?_) AllReady.nil
                      go_simp
                      refine hK _ _ ?_
                      clear hK K
                      refine wpAny_ready (rs := [16]) (by kernel_rfl) (by simp) ?_
                      refine AllReady.cons rfl (fun K hK => ?_) AllReady.nil
                      go_simp
                      refine hK _ _ ?_
                      clear hK K
                      refine wpAny_ready (rs := [17]) (by kernel_rfl) (by simp) ?_
                      refine AllReady.cons rfl (fun K hK => ?_) AllReady.nil
                      go_simp
                      refine hK _ _ ?_
                      clear hK K
                      refine wpAny_ready (rs := [18]) (by kernel_rfl) (by simp) ?_
                      refine AllReady.cons rfl (fun K hK => ?_) AllReady.nil
                      rw [if_pos (by rfl)]
                      refine wp_append_fd (.tmp 53) (.tmp 70) rfl _ _ rfl rfl w.heap.size xs ⟨z0, a2, ds.length, c2, ds⟩ ((hrowW.kept (below_grown hB2) (by simp [Value.ownBlock])).alloc _) (cells_fresh W2 _) (by omega) (by have := hB2.size; simp; omega) ?_
                      intro v5 w5 hr5 hg5
                      obtain ⟨k5, b5⟩ := ref_step hsW hrowW hokW hdb ⟨h01, h02⟩ hB2 hrow2 hg5
                      refine hK _ _ ?_
                      clear hK K
                      refine wpAny_ready (rs := [19]) (by kernel_rfl) (by simp) ?_
                      refine AllReady.cons rfl (fun K hK => ?_) AllReady.nil
                      go_simp
                      refine hK _ _ ?_
                      clear hK K
                      refine wpAny_done (by kernel_rfl) ?_ _
                      go_wp2
                      go_roundw
                      case rel =>
                        refine ⟨k + 3 + ds.length, xs ++ [⟨z0, a2, ds.length, c2, ds⟩], by omega, by go_num, ?_, by rw [List.length_append]; exact hr5, k5, ?_, by simp; omega, hB.trans (hBW'.trans b5)⟩
                        · have h1 := hzx.out
                          have h2 := begins_eq HN.out Hb1.out Hb2.out (by have := HL.out; omega) a2 ds.length c2
                          rw [Hds.out, Hz0.out] at h2
                          rw [h2] at h1
                          show zs = _
                          rw [encL_append', List.append_assoc, show encL [⟨z0, a2, ds.length, c2, ds⟩] = encF ⟨z0, a2, ds.length, c2, ds⟩ from by simp [encL]]
                          exact h1
                        · intro x hx
                          rcases List.mem_append.1 hx with h | h
                          · exact hri.out x h
                          · obtain rfl : x = _ := by simpa using h
                            show rightB z0 ds.length = true
                            simp [rightB]; omega
                      case measure => simp [intOf]; omega
    · obtain rfl : k = len := by omega
      go_wp2
      go_ret2
      refine ⟨.inl ⟨_, xs, rfl, Flds.of_own hrow (fun x hx => (hok x hx).ok), ?_, ?_⟩, hB⟩
      · have h1 := hzx.out
        rw [List.drop_eq_nil_of_le (by rw [HL.out]; exact Nat.le_refl _), List.append_nil] at h1
        exact h1
      · simp only [okL, Bool.and_eq_true, decide_eq_true_eq, List.all_eq_true]
        exact ⟨hxl, hri.out⟩
end Go.Proofs.YtmahpceokpajgaaDoor.C
