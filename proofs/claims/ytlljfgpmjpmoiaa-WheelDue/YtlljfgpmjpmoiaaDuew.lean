/- The walk of WheelDue. -/
import Derived.Test.YtlljfgpmjpmoiaaRegb
import Derived.Test.YtlljfgpmjpmoiaaRegc
import Derived.Laws.BytesArg
namespace Go.Proofs.Ytlljfgpmjpmoiaa
open Go.RowKit Go.IntWalk Go.Maps Go.Shelf
set_option linter.unusedVariables false
set_option linter.unusedSimpArgs false
theorem run_name (w : World) (B i : Nat) (hB : w.cell? ⟨B, 0, none⟩ = some (.int .u8 (65 + i))) : (convert 51 9 (.slice (some ⟨B, 0, none⟩) 1 1)).run Try.prog w = .ok (.string (ni i)) w := by
  have := run_convert_bytes_arg (P := Try.prog) (w := w) 51 5 Try.underlying51 Try.underlying5 B 0 1 1 [(65 + i : Int)] rfl (fun j hj => by
    have : j = 0 := by omega
    subst this
    exact hB) 9 Try.underlying9
  rw [this]
  rfl
theorem inv_le {ys : List Int} {M : List E} (h : Inv ys M) (hp : ∀ y ∈ ys, 0 ≤ y) : M.length ≤ 40 := by
  have h1 := inv_len ys.length ys M rfl h hp
  have h2 := nz_le ys ys.length
  have h3 := h.len
  omega
set_option maxRecDepth 100000 in
set_option maxHeartbeats 8000000 in
theorem due_law (now : Int) (hnow : 0 ≤ now ∧ now < 18446744073709551616) (a : Option Addr) (cap : Nat) (ls : List Int) (a2 : Option Addr) (cap2 : Nat) (ps : List Int) (W : World) (ha : Us W.heap.size W (.slice a ls.length cap) ls) (hll : ls.length ≤ 40) (ha2 : Us W.heap.size W (.slice a2 ps.length cap2) ps) (hpl : ps.length ≤ 40) :
    Calls Try.prog 4 #[.int .u64 now, .slice a ls.length cap, .slice a2 ps.length cap2] W fun e W' => e = .returned (.bool true) ∧ Below W.heap.size W W' := by
  have hg1 : decide ((ls.length : Int) > 40) = false := by simp; omega
  have hg2 : decide (40 < ls.length) = false := by simp; omega
  have hg3 : decide ((ps.length : Int) > 40) = false := by simp; omega
  have hg4 : decide (40 < ps.length) = false := by simp; omega
  go_enter Try.func4, Try.ntmps4
  go_wp2_with fail
  refine (new_s (St.start W) now hnow).mono ?_
  rintro r w1 ⟨wb, rfl, hs1⟩
  replace hs1 : Hid _ := ⟨hs1⟩
  go_wp2_with fail
  go_loopw [8, 9] (fun v i wr => ∃ (k : Nat) (ra : Option Addr) (rc : Nat) (ys : List Int) (rl : List Res) (L : List E), k ≤ ls.length ∧ Hid (ys.length = k) ∧ v = .slice ra ys.length rc ∧ i = .int .i64 k ∧ Hid (Ir (.slice ra ys.length rc) ys rl) ∧ Hid (St W wr (rl ++ [.q wb now L])) ∧ Hid (Inv ys L) ∧ Hid (∀ y ∈ ys, 0 ≤ y))
    (fun _ i _ => ls.length - (intOf i).toNat)
  case atStart => exact ⟨0, none, 0, [], [], [], by omega, ⟨rfl⟩, rfl, rfl, ⟨Ir.nil⟩, hs1, ⟨Inv.nil⟩, ⟨by simp⟩⟩
  case round =>
    clear hs1
    obtain ⟨k, ra, rc, ys, rl, L, hk, hyk, rfl, rfl, hIr, hS, hI, hpos⟩ := hrel
    by_cases hlt : k < ls.length
    · have hd1 : decide ((k : Int) < ls.length) = true := by simp; omega
      obtain ⟨y, hy⟩ : ∃ y, ls[k]? = some y := ⟨ls[k], List.getElem?_eq_getElem hlt⟩
      obtain ⟨b, off, rfl, hb, hyb, c0⟩ := (ha.below hS.out.2).at hy
      have hcell : Hid (∀ w', Below W.heap.size W w' → w'.cell? ⟨b, off + k, none⟩ = some (.int .u64 y)) := ⟨fun w' hb' => by
        obtain ⟨b', off', e', _, _, d0⟩ := (ha.below hb').at hy
        cases e'
        exact d0⟩
      replace hy : Hid _ := ⟨hy⟩
      obtain ⟨t, ht⟩ : ∃ t, Hid (ltr now y = t) := ⟨_, ⟨rfl⟩⟩
      have htb := ltr_bd hnow hyb
      rw [ht.out] at htb
      have hw64 : IntKind.i64.wrap (65 + (k : Int)) = 65 + k := by simp [IntKind.wrap, IntKind.bits, IntKind.signed]; omega
      have hwr : IntKind.u8.wrap (65 + (k : Int)) = 65 + k := by simp [IntKind.wrap, IntKind.bits, IntKind.signed]; omega
      have hLl : Hid (L.length < 100000) := ⟨by have := inv_le hI.out hpos.out; omega⟩
      obtain ⟨hsr, _, _, _, _⟩ := hS.out.mq (L := L) (wb := wb) (now := now) (by simp)
      go_wp2_with fail
      refine (later_any _ now y hnow hyb ht).mono ?_
      rintro r w2 ⟨rfl, rfl⟩
      go_wp2_with fail
      have hS2 := hS.out.grown (grown_none (World.grownBy_alloc w2 (.cells #[.int .u8 (65 + (k : Int))] 5) none) (grown_drew _))
      have hconv := run_name (w2.alloc (.cells #[.int .u8 (65 + (k : Int))] 5)).drew w2.heap.size k (by simp)
      by_cases hnt : now < t
      · have hy0 : 0 < y := by
          rcases Int.lt_or_le 0 y with h | h
          · exact h
          · have h2 : ltr now y = now := by unfold ltr; split <;> omega
            have := ht.out
            omega
        have hq1 : decide (y > 0) = true := by simpa using hy0
        have hq2 : decide (0 < y) = true := by simpa using hy0
        have hq3 : decide (t > now) = true := by simpa using hnt
        have hq4 : decide (now < t) = true := by simpa using hnt
        have hq5 : (t == now) = false := by simp; omega
        obtain ⟨T, hT⟩ : ∃ T, Hid (putA now ⟨ni k, t⟩ L = T) := ⟨_, ⟨rfl⟩⟩
        have hpb : Hid (decide (now < t) = true) := ⟨hq4⟩
        have hI2 : Hid (Inv (ys ++ [t]) T) := ⟨by
          have hTe : T = putE ⟨ni k, t⟩ L := by rw [← hT.out]; unfold putA; rw [if_pos hnt]
          have hky := hyk.out
          refine hI.out.more (by omega) (by omega) (fun x => ?_) (by rw [hTe]; exact (hsr.put _).nodup)
          rw [hTe, mem_putE, hky]
          constructor
          · rintro (h | h)
            · exact .inl h
            · exact .inr h.1
          · rintro (h | h)
            · exact .inl h
            · have := hI.out.fresh (by omega) x h
              rw [hky] at this
              exact .inr ⟨h, this⟩⟩
        have hpos2 : Hid (∀ z ∈ ys ++ [t], 0 ≤ z) := ⟨fun z hz => by
          rcases List.mem_append.1 hz with h | h
          · exact hpos.out z h
          · simp at h; omega⟩
        clear hnt hy0
        refine wp_region_held_drew (S := fun w' => w'.cell? ⟨b, off + k, none⟩ = some (.int .u64 y)) (by kernel_rfl) (by (try dsimp only); exact hcell.out _ (hS.out.grown (grown_drew _)).2) (fun hHeld => ?_)
        refine wpAnyH_take (i := 0) (v := ?_) rfl (by kernel_rfl) (by kernel_rfl) (by kernel_rfl) (fun _ _ _ h => h) (Or.inl ⟨by rfl, ?_⟩) (by assumption) ?_
        rotate_left
        · (intro w hSw; (try dsimp only at hSw); go_simp; try with_reducible rfl)
        try simp only [List.getElem_toArray, List.getElem_cons_zero, List.getElem_cons_succ, Act.put, List.setIfInBounds_toArray, List.set_cons_zero, List.set_cons_succ]
        refine wpAnyH_take (i := 1) (v := ?_) rfl (by kernel_rfl) (by kernel_rfl) (by kernel_rfl) (fun _ _ _ h => h) (Or.inl ⟨by rfl, ?_⟩) (by assumption) ?_
        rotate_left
        · (intro w hSw; (try dsimp only at hSw); go_simp; try with_reducible rfl)
        try simp only [List.getElem_toArray, List.getElem_cons_zero, List.getElem_cons_succ, Act.put, List.setIfInBounds_toArray, List.set_cons_zero, List.set_cons_succ]
        refine wpAnyH_take (i := 2) (v := ?_) rfl (by kernel_rfl) (by kernel_rfl) (by kernel_rfl) (fun _ _ _ h => h) (Or.inl ⟨by rfl, ?_⟩) (by assumption) ?_
        rotate_left
        · (intro w hSw; (try dsimp only at hSw); go_simp; try with_reducible rfl)
        try simp only [List.getElem_toArray, List.getElem_cons_zero, List.getElem_cons_succ, Act.put, List.setIfInBounds_toArray, List.set_cons_zero, List.set_cons_succ]
        refine wpAnyH_take (i := 3) (v := ?_) rfl (by kernel_rfl) (by kernel_rfl) (by kernel_rfl) (fun _ _ _ h => h) (Or.inl ⟨by rfl, ?_⟩) (by assumption) ?_
        rotate_left
        · (intro w hSw; (try dsimp only at hSw); go_simp; try with_reducible rfl)
        try simp only [List.getElem_toArray, List.getElem_cons_zero, List.getElem_cons_succ, Act.put, List.setIfInBounds_toArray, List.set_cons_zero, List.set_cons_succ]
        refine wpAnyH_take (i := 6) (v := ?_) rfl (by kernel_rfl) (by kernel_rfl) (by kernel_rfl) (fun _ _ _ h => h) (Or.inl ⟨by rfl, ?_⟩) (by assumption) ?_
        rotate_left
        · (intro w hSw; (try dsimp only at hSw); go_simp; try with_reducible rfl)
        try simp only [List.getElem_toArray, List.getElem_cons_zero, List.getElem_cons_succ, Act.put, List.setIfInBounds_toArray, List.set_cons_zero, List.set_cons_succ]
        refine wpAnyH_take (i := 8) (v := ?_) rfl (by kernel_rfl) (by kernel_rfl) (by kernel_rfl) (fun _ _ _ h => h) (Or.inl ⟨by rfl, ?_⟩) (by assumption) ?_
        rotate_left
        · (intro w hSw; (try dsimp only at hSw); go_simp; try with_reducible rfl)
        try simp only [List.getElem_toArray, List.getElem_cons_zero, List.getElem_cons_succ, Act.put, List.setIfInBounds_toArray, List.set_cons_zero, List.set_cons_succ]
        refine wpAnyH_take (i := 9) (v := ?_) rfl (by kernel_rfl) (by kernel_rfl) (by kernel_rfl) (fun _ _ _ h => h) (Or.inl ⟨by rfl, ?_⟩) (by assumption) ?_
        rotate_left
        · (intro w hSw; (try dsimp only at hSw); go_simp; try with_reducible rfl)
        try simp only [List.getElem_toArray, List.getElem_cons_zero, List.getElem_cons_succ, Act.put, List.setIfInBounds_toArray, List.set_cons_zero, List.set_cons_succ]
        refine wpAnyH_take (i := 10) (v := ?_) rfl (by kernel_rfl) (by kernel_rfl) (by kernel_rfl) (fun _ _ _ h => h) (Or.inl ⟨by rfl, ?_⟩) (by assumption) ?_
        rotate_left
        · (intro w hSw; (try dsimp only at hSw); go_simp; try with_reducible rfl)
        try simp only [List.getElem_toArray, List.getElem_cons_zero, List.getElem_cons_succ, Act.put, List.setIfInBounds_toArray, List.set_cons_zero, List.set_cons_succ]
        refine wpAnyH_take (i := 11) (v := ?_) rfl (by kernel_rfl) (by kernel_rfl) (by kernel_rfl) (fun _ _ _ h => h) (Or.inl ⟨by rfl, ?_⟩) (by assumption) ?_
        rotate_left
        · (intro w hSw; (try dsimp only at hSw); go_simp; try with_reducible rfl)
        try simp only [List.getElem_toArray, List.getElem_cons_zero, List.getElem_cons_succ, Act.put, List.setIfInBounds_toArray, List.set_cons_zero, List.set_cons_succ]
        refine wpAnyH_take (i := 12) (v := ?_) rfl (by kernel_rfl) (by kernel_rfl) (by kernel_rfl) (fun _ _ _ h => h) (Or.inl ⟨by rfl, ?_⟩) (by assumption) ?_
        rotate_left
        · (intro w hSw; (try dsimp only at hSw); go_simp; try with_reducible rfl)
        try simp only [List.getElem_toArray, List.getElem_cons_zero, List.getElem_cons_succ, Act.put, List.setIfInBounds_toArray, List.set_cons_zero, List.set_cons_succ]
        refine wpAnyH_ready (rs := [4]) (by kernel_rfl) (by simp) ?_
        refine AllReadyH.cons rfl (fun K hK => ?_) AllReadyH.nil
        go_simp
        refine hK.out _ _ ?_ (fun hHeld => ?_)
        · ((try dsimp only); exact hcell.out _ hS2.2)
        clear hK K
        try simp only [List.getElem_toArray, List.getElem_cons_zero, List.getElem_cons_succ, Act.put, List.setIfInBounds_toArray, List.set_cons_zero, List.set_cons_succ]
        refine wpAnyH_ready (rs := [5]) (by kernel_rfl) (by simp) ?_
        refine AllReadyH.cons rfl (fun K hK => ?_) AllReadyH.nil
        go_simp
        refine hK.out _ _ ?_ (fun hHeld => ?_)
        · ((try dsimp only); exact hcell.out _ hS2.2)
        clear hK K
        try simp only [List.getElem_toArray, List.getElem_cons_zero, List.getElem_cons_succ, Act.put, List.setIfInBounds_toArray, List.set_cons_zero, List.set_cons_succ]
        refine wpAnyH_ready (rs := [7]) (by kernel_rfl) (by simp) ?_
        refine AllReadyH.cons rfl (fun K hK => ?_) AllReadyH.nil
        go_simp
        refine (put_e hS2.back (ni k) t (ni_size k) ⟨htb.1, htb.2.1⟩ hLl.out hpb hT).mono ?_
        rintro r w3 ⟨rfl, hs3⟩
        replace hs3 : Hid _ := ⟨hs3⟩
        go_wp2_with fail
        refine hK.out _ _ ?_ (fun hHeld => ?_)
        · ((try dsimp only); exact hcell.out _ hs3.out.2)
        clear hK K
        try simp only [List.getElem_toArray, List.getElem_cons_zero, List.getElem_cons_succ, Act.put, List.setIfInBounds_toArray, List.set_cons_zero, List.set_cons_succ]
        refine wpAnyH_take (i := 13) (v := ?_) rfl (by kernel_rfl) (by kernel_rfl) (by kernel_rfl) (fun _ _ _ h => h) (Or.inl ⟨by rfl, ?_⟩) (by assumption) ?_
        rotate_left
        · (intro w hSw; (try dsimp only at hSw); go_simp; try with_reducible rfl)
        try simp only [List.getElem_toArray, List.getElem_cons_zero, List.getElem_cons_succ, Act.put, List.setIfInBounds_toArray, List.set_cons_zero, List.set_cons_succ]
        refine wpAnyH_take (i := 14) (v := ?_) rfl (by kernel_rfl) (by kernel_rfl) (by kernel_rfl) (fun _ _ _ h => h) (Or.inl ⟨by rfl, ?_⟩) (by assumption) ?_
        rotate_left
        · (intro w hSw; (try dsimp only at hSw); go_simp; try with_reducible rfl)
        try simp only [List.getElem_toArray, List.getElem_cons_zero, List.getElem_cons_succ, Act.put, List.setIfInBounds_toArray, List.set_cons_zero, List.set_cons_succ]
        refine wpAnyH_take (i := 15) (v := ?_) rfl (by kernel_rfl) (by kernel_rfl) (by kernel_rfl) (fun _ _ _ h => h) (Or.inl ⟨by rfl, ?_⟩) (by assumption) ?_
        rotate_left
        · (intro w hSw; (try dsimp only at hSw); go_simp; try with_reducible rfl)
        try simp only [List.getElem_toArray, List.getElem_cons_zero, List.getElem_cons_succ, Act.put, List.setIfInBounds_toArray, List.set_cons_zero, List.set_cons_succ]
        refine wpAnyH_take (i := 16) (v := ?_) rfl (by kernel_rfl) (by kernel_rfl) (by kernel_rfl) (fun _ _ _ h => h) (Or.inl ⟨by rfl, ?_⟩) (by assumption) ?_
        rotate_left
        · (intro w hSw; (try dsimp only at hSw); go_simp; try with_reducible rfl)
        try simp only [List.getElem_toArray, List.getElem_cons_zero, List.getElem_cons_succ, Act.put, List.setIfInBounds_toArray, List.set_cons_zero, List.set_cons_succ]
        refine wpAnyH_take (i := 17) (v := ?_) rfl (by kernel_rfl) (by kernel_rfl) (by kernel_rfl) (fun _ _ _ h => h) (Or.inl ⟨by rfl, ?_⟩) (by assumption) ?_
        rotate_left
        · (intro w hSw; (try dsimp only at hSw); go_simp; try with_reducible rfl)
        try simp only [List.getElem_toArray, List.getElem_cons_zero, List.getElem_cons_succ, Act.put, List.setIfInBounds_toArray, List.set_cons_zero, List.set_cons_succ]
        refine wpAnyH_take (i := 18) (v := ?_) rfl (by kernel_rfl) (by kernel_rfl) (by kernel_rfl) (fun _ _ _ h => h) (Or.inl ⟨by rfl, ?_⟩) (by assumption) ?_
        rotate_left
        · (intro w hSw; (try dsimp only at hSw); go_simp; try with_reducible rfl)
        try simp only [List.getElem_toArray, List.getElem_cons_zero, List.getElem_cons_succ, Act.put, List.setIfInBounds_toArray, List.set_cons_zero, List.set_cons_succ]
        refine wpAnyH_done (by kernel_rfl) ?_ _
        clear hconv c0
        have hB2 : Hid (St W (w3.alloc (.cells #[.int .u64 t] 22)) (rl ++ [.q wb now T])) := ⟨(hs3.out.forth).grown (World.grownBy_alloc w3 _ none)⟩
        obtain ⟨ra2, rc2, w4, rl2, hrun, hIr2, hS4⟩ := app_i hB2.out hIr.out (by have := hyk.out; omega) t w3.heap.size (by simp)
        replace hIr2 : Hid _ := ⟨hIr2⟩
        replace hS4 : Hid _ := ⟨hS4⟩
        go_wp2_with (at_builtin; refine wpList_append_run rfl _ _ 49 rfl _ _ rfl rfl hrun ?_)
        go_roundw
        case rel => exact ⟨k + 1, ra2, rc2, ys ++ [t], rl2, T, by omega, ⟨by have := hyk.out; simp; omega⟩, by simp, by go_num, hIr2, hS4, hI2, hpos2⟩
        case measure => simp [intOf]; omega
      · have hte : t = now := by omega
        have hq3 : decide (t > now) = false := by simp; omega
        have hq4 : decide (now < t) = false := by simp; omega
        have hq5 : (t == now) = true := by simp; omega
        obtain ⟨T, hT⟩ : ∃ T, Hid (putA now ⟨ni k, t⟩ L = T) := ⟨_, ⟨rfl⟩⟩
        have hpb : Hid (decide (now < t) = false) := ⟨hq4⟩
        have hI2 : Hid (Inv (ys ++ [0]) T) := ⟨by
          have hTe : T = L := by rw [← hT.out]; unfold putA; rw [if_neg hnt]
          have hky := hyk.out
          rw [hTe]
          exact hI.out.zero (by omega)⟩
        have hpos2 : Hid (∀ z ∈ ys ++ [(0 : Int)], 0 ≤ z) := ⟨fun z hz => by
          rcases List.mem_append.1 hz with h | h
          · exact hpos.out z h
          · simp at h; omega⟩
        by_cases hy0 : 0 < y
        · have hq1 : decide (y > 0) = true := by simpa using hy0
          have hq2 : decide (0 < y) = true := by simpa using hy0
          replace hte : Hid _ := ⟨hte⟩
          clear hnt hy0
          refine wp_region_held_drew (S := fun w' => w'.cell? ⟨b, off + k, none⟩ = some (.int .u64 y)) (by kernel_rfl) (by (try dsimp only); exact hcell.out _ (hS.out.grown (grown_drew _)).2) (fun hHeld => ?_)
          refine wpAnyH_take (i := 0) (v := ?_) rfl (by kernel_rfl) (by kernel_rfl) (by kernel_rfl) (fun _ _ _ h => h) (Or.inl ⟨by rfl, ?_⟩) (by assumption) ?_
          rotate_left
          · (intro w hSw; (try dsimp only at hSw); go_simp; try with_reducible rfl)
          try simp only [List.getElem_toArray, List.getElem_cons_zero, List.getElem_cons_succ, Act.put, List.setIfInBounds_toArray, List.set_cons_zero, List.set_cons_succ]
          refine wpAnyH_take (i := 1) (v := ?_) rfl (by kernel_rfl) (by kernel_rfl) (by kernel_rfl) (fun _ _ _ h => h) (Or.inl ⟨by rfl, ?_⟩) (by assumption) ?_
          rotate_left
          · (intro w hSw; (try dsimp only at hSw); go_simp; try with_reducible rfl)
          try simp only [List.getElem_toArray, List.getElem_cons_zero, List.getElem_cons_succ, Act.put, List.setIfInBounds_toArray, List.set_cons_zero, List.set_cons_succ]
          refine wpAnyH_take (i := 2) (v := ?_) rfl (by kernel_rfl) (by kernel_rfl) (by kernel_rfl) (fun _ _ _ h => h) (Or.inl ⟨by rfl, ?_⟩) (by assumption) ?_
          rotate_left
          · (intro w hSw; (try dsimp only at hSw); go_simp; try with_reducible rfl)
          try simp only [List.getElem_toArray, List.getElem_cons_zero, List.getElem_cons_succ, Act.put, List.setIfInBounds_toArray, List.set_cons_zero, List.set_cons_succ]
          refine wpAnyH_take (i := 3) (v := ?_) rfl (by kernel_rfl) (by kernel_rfl) (by kernel_rfl) (fun _ _ _ h => h) (Or.inl ⟨by rfl, ?_⟩) (by assumption) ?_
          rotate_left
          · (intro w hSw; (try dsimp only at hSw); go_simp; try with_reducible rfl)
          try simp only [List.getElem_toArray, List.getElem_cons_zero, List.getElem_cons_succ, Act.put, List.setIfInBounds_toArray, List.set_cons_zero, List.set_cons_succ]
          refine wpAnyH_take (i := 6) (v := ?_) rfl (by kernel_rfl) (by kernel_rfl) (by kernel_rfl) (fun _ _ _ h => h) (Or.inl ⟨by rfl, ?_⟩) (by assumption) ?_
          rotate_left
          · (intro w hSw; (try dsimp only at hSw); go_simp; try with_reducible rfl)
          try simp only [List.getElem_toArray, List.getElem_cons_zero, List.getElem_cons_succ, Act.put, List.setIfInBounds_toArray, List.set_cons_zero, List.set_cons_succ]
          refine wpAnyH_take (i := 8) (v := ?_) rfl (by kernel_rfl) (by kernel_rfl) (by kernel_rfl) (fun _ _ _ h => h) (Or.inl ⟨by rfl, ?_⟩) (by assumption) ?_
          rotate_left
          · (intro w hSw; (try dsimp only at hSw); go_simp; try with_reducible rfl)
          try simp only [List.getElem_toArray, List.getElem_cons_zero, List.getElem_cons_succ, Act.put, List.setIfInBounds_toArray, List.set_cons_zero, List.set_cons_succ]
          refine wpAnyH_take (i := 9) (v := ?_) rfl (by kernel_rfl) (by kernel_rfl) (by kernel_rfl) (fun _ _ _ h => h) (Or.inl ⟨by rfl, ?_⟩) (by assumption) ?_
          rotate_left
          · (intro w hSw; (try dsimp only at hSw); go_simp; try with_reducible rfl)
          try simp only [List.getElem_toArray, List.getElem_cons_zero, List.getElem_cons_succ, Act.put, List.setIfInBounds_toArray, List.set_cons_zero, List.set_cons_succ]
          refine wpAnyH_take (i := 10) (v := ?_) rfl (by kernel_rfl) (by kernel_rfl) (by kernel_rfl) (fun _ _ _ h => h) (Or.inl ⟨by rfl, ?_⟩) (by assumption) ?_
          rotate_left
          · (intro w hSw; (try dsimp only at hSw); go_simp; try with_reducible rfl)
          try simp only [List.getElem_toArray, List.getElem_cons_zero, List.getElem_cons_succ, Act.put, List.setIfInBounds_toArray, List.set_cons_zero, List.set_cons_succ]
          refine wpAnyH_take (i := 11) (v := ?_) rfl (by kernel_rfl) (by kernel_rfl) (by kernel_rfl) (fun _ _ _ h => h) (Or.inl ⟨by rfl, ?_⟩) (by assumption) ?_
          rotate_left
          · (intro w hSw; (try dsimp only at hSw); go_simp; try with_reducible rfl)
          try simp only [List.getElem_toArray, List.getElem_cons_zero, List.getElem_cons_succ, Act.put, List.setIfInBounds_toArray, List.set_cons_zero, List.set_cons_succ]
          refine wpAnyH_take (i := 12) (v := ?_) rfl (by kernel_rfl) (by kernel_rfl) (by kernel_rfl) (fun _ _ _ h => h) (Or.inl ⟨by rfl, ?_⟩) (by assumption) ?_
          rotate_left
          · (intro w hSw; (try dsimp only at hSw); go_simp; try with_reducible rfl)
          try simp only [List.getElem_toArray, List.getElem_cons_zero, List.getElem_cons_succ, Act.put, List.setIfInBounds_toArray, List.set_cons_zero, List.set_cons_succ]
          refine wpAnyH_ready (rs := [4]) (by kernel_rfl) (by simp) ?_
          refine AllReadyH.cons rfl (fun K hK => ?_) AllReadyH.nil
          go_simp
          refine hK.out _ _ ?_ (fun hHeld => ?_)
          · ((try dsimp only); exact hcell.out _ hS2.2)
          clear hK K
          try simp only [List.getElem_toArray, List.getElem_cons_zero, List.getElem_cons_succ, Act.put, List.setIfInBounds_toArray, List.set_cons_zero, List.set_cons_succ]
          refine wpAnyH_ready (rs := [5]) (by kernel_rfl) (by simp) ?_
          refine AllReadyH.cons rfl (fun K hK => ?_) AllReadyH.nil
          go_simp
          refine hK.out _ _ ?_ (fun hHeld => ?_)
          · ((try dsimp only); exact hcell.out _ hS2.2)
          clear hK K
          try simp only [List.getElem_toArray, List.getElem_cons_zero, List.getElem_cons_succ, Act.put, List.setIfInBounds_toArray, List.set_cons_zero, List.set_cons_succ]
          refine wpAnyH_ready (rs := [7]) (by kernel_rfl) (by simp) ?_
          refine AllReadyH.cons rfl (fun K hK => ?_) AllReadyH.nil
          go_simp
          refine (put_e hS2.back (ni k) t (ni_size k) ⟨htb.1, htb.2.1⟩ hLl.out hpb hT).mono ?_
          rintro r w3 ⟨rfl, hs3⟩
          replace hs3 : Hid _ := ⟨hs3⟩
          go_wp2_with fail
          refine hK.out _ _ ?_ (fun hHeld => ?_)
          · ((try dsimp only); exact hcell.out _ hs3.out.2)
          clear hK K
          try simp only [List.getElem_toArray, List.getElem_cons_zero, List.getElem_cons_succ, Act.put, List.setIfInBounds_toArray, List.set_cons_zero, List.set_cons_succ]
          refine wpAnyH_take (i := 13) (v := ?_) rfl (by kernel_rfl) (by kernel_rfl) (by kernel_rfl) (fun _ _ _ h => h) (Or.inl ⟨by rfl, ?_⟩) (by assumption) ?_
          rotate_left
          · (intro w hSw; (try dsimp only at hSw); go_simp; try with_reducible rfl)
          try simp only [List.getElem_toArray, List.getElem_cons_zero, List.getElem_cons_succ, Act.put, List.setIfInBounds_toArray, List.set_cons_zero, List.set_cons_succ]
          refine wpAnyH_take (i := 14) (v := ?_) rfl (by kernel_rfl) (by kernel_rfl) (by kernel_rfl) (fun _ _ _ h => h) (Or.inl ⟨by rfl, ?_⟩) (by assumption) ?_
          rotate_left
          · (intro w hSw; (try dsimp only at hSw); go_simp; try with_reducible rfl)
          try simp only [List.getElem_toArray, List.getElem_cons_zero, List.getElem_cons_succ, Act.put, List.setIfInBounds_toArray, List.set_cons_zero, List.set_cons_succ]
          refine wpAnyH_take (i := 15) (v := ?_) rfl (by kernel_rfl) (by kernel_rfl) (by kernel_rfl) (fun _ _ _ h => h) (Or.inl ⟨by rfl, ?_⟩) (by assumption) ?_
          rotate_left
          · (intro w hSw; (try dsimp only at hSw); go_simp; try with_reducible rfl)
          try simp only [List.getElem_toArray, List.getElem_cons_zero, List.getElem_cons_succ, Act.put, List.setIfInBounds_toArray, List.set_cons_zero, List.set_cons_succ]
          refine wpAnyH_take (i := 16) (v := ?_) rfl (by kernel_rfl) (by kernel_rfl) (by kernel_rfl) (fun _ _ _ h => h) (Or.inl ⟨by rfl, ?_⟩) (by assumption) ?_
          rotate_left
          · (intro w hSw; (try dsimp only at hSw); go_simp; try with_reducible rfl)
          try simp only [List.getElem_toArray, List.getElem_cons_zero, List.getElem_cons_succ, Act.put, List.setIfInBounds_toArray, List.set_cons_zero, List.set_cons_succ]
          refine wpAnyH_take (i := 17) (v := ?_) rfl (by kernel_rfl) (by kernel_rfl) (by kernel_rfl) (fun _ _ _ h => h) (Or.inl ⟨by rfl, ?_⟩) (by assumption) ?_
          rotate_left
          · (intro w hSw; (try dsimp only at hSw); go_simp; try with_reducible rfl)
          try simp only [List.getElem_toArray, List.getElem_cons_zero, List.getElem_cons_succ, Act.put, List.setIfInBounds_toArray, List.set_cons_zero, List.set_cons_succ]
          refine wpAnyH_take (i := 18) (v := ?_) rfl (by kernel_rfl) (by kernel_rfl) (by kernel_rfl) (fun _ _ _ h => h) (Or.inl ⟨by rfl, ?_⟩) (by assumption) ?_
          rotate_left
          · (intro w hSw; (try dsimp only at hSw); go_simp; try with_reducible rfl)
          try simp only [List.getElem_toArray, List.getElem_cons_zero, List.getElem_cons_succ, Act.put, List.setIfInBounds_toArray, List.set_cons_zero, List.set_cons_succ]
          refine wpAnyH_done (by kernel_rfl) ?_ _
          clear hconv c0
          have hB2 : Hid (St W (w3.alloc (.cells #[.int .u64 0] 22)) (rl ++ [.q wb now T])) := ⟨(hs3.out.forth).grown (World.grownBy_alloc w3 _ none)⟩
          obtain ⟨ra2, rc2, w4, rl2, hrun, hIr2, hS4⟩ := app_i hB2.out hIr.out (by have := hyk.out; omega) 0 w3.heap.size (by simp)
          replace hIr2 : Hid _ := ⟨hIr2⟩
          replace hS4 : Hid _ := ⟨hS4⟩
          go_wp2_with (at_builtin; refine wpList_append_run rfl _ _ 49 rfl _ _ rfl rfl hrun ?_)
          go_roundw
          case rel => exact ⟨k + 1, ra2, rc2, ys ++ [0], rl2, T, by omega, ⟨by have := hyk.out; simp; omega⟩, by simp, by go_num, hIr2, hS4, hI2, hpos2⟩
          case measure => simp [intOf]; omega
        · have hq1 : decide (y > 0) = false := by simpa using hy0
          have hq2 : decide (0 < y) = false := by simpa using hy0
          replace hte : Hid _ := ⟨hte⟩
          clear hnt hy0
          refine wp_region_held_drew (S := fun w' => w'.cell? ⟨b, off + k, none⟩ = some (.int .u64 y)) (by kernel_rfl) (by (try dsimp only); exact hcell.out _ (hS.out.grown (grown_drew _)).2) (fun hHeld => ?_)
          refine wpAnyH_take (i := 0) (v := ?_) rfl (by kernel_rfl) (by kernel_rfl) (by kernel_rfl) (fun _ _ _ h => h) (Or.inl ⟨by rfl, ?_⟩) (by assumption) ?_
          rotate_left
          · (intro w hSw; (try dsimp only at hSw); go_simp; try with_reducible rfl)
          try simp only [List.getElem_toArray, List.getElem_cons_zero, List.getElem_cons_succ, Act.put, List.setIfInBounds_toArray, List.set_cons_zero, List.set_cons_succ]
          refine wpAnyH_take (i := 1) (v := ?_) rfl (by kernel_rfl) (by kernel_rfl) (by kernel_rfl) (fun _ _ _ h => h) (Or.inl ⟨by rfl, ?_⟩) (by assumption) ?_
          rotate_left
          · (intro w hSw; (try dsimp only at hSw); go_simp; try with_reducible rfl)
          try simp only [List.getElem_toArray, List.getElem_cons_zero, List.getElem_cons_succ, Act.put, List.setIfInBounds_toArray, List.set_cons_zero, List.set_cons_succ]
          refine wpAnyH_take (i := 2) (v := ?_) rfl (by kernel_rfl) (by kernel_rfl) (by kernel_rfl) (fun _ _ _ h => h) (Or.inl ⟨by rfl, ?_⟩) (by assumption) ?_
          rotate_left
          · (intro w hSw; (try dsimp only at hSw); go_simp; try with_reducible rfl)
          try simp only [List.getElem_toArray, List.getElem_cons_zero, List.getElem_cons_succ, Act.put, List.setIfInBounds_toArray, List.set_cons_zero, List.set_cons_succ]
          refine wpAnyH_take (i := 3) (v := ?_) rfl (by kernel_rfl) (by kernel_rfl) (by kernel_rfl) (fun _ _ _ h => h) (Or.inl ⟨by rfl, ?_⟩) (by assumption) ?_
          rotate_left
          · (intro w hSw; (try dsimp only at hSw); go_simp; try with_reducible rfl)
          try simp only [List.getElem_toArray, List.getElem_cons_zero, List.getElem_cons_succ, Act.put, List.setIfInBounds_toArray, List.set_cons_zero, List.set_cons_succ]
          refine wpAnyH_take (i := 6) (v := ?_) rfl (by kernel_rfl) (by kernel_rfl) (by kernel_rfl) (fun _ _ _ h => h) (Or.inl ⟨by rfl, ?_⟩) (by assumption) ?_
          rotate_left
          · (intro w hSw; (try dsimp only at hSw); go_simp; try with_reducible rfl)
          try simp only [List.getElem_toArray, List.getElem_cons_zero, List.getElem_cons_succ, Act.put, List.setIfInBounds_toArray, List.set_cons_zero, List.set_cons_succ]
          refine wpAnyH_take (i := 8) (v := ?_) rfl (by kernel_rfl) (by kernel_rfl) (by kernel_rfl) (fun _ _ _ h => h) (Or.inl ⟨by rfl, ?_⟩) (by assumption) ?_
          rotate_left
          · (intro w hSw; (try dsimp only at hSw); go_simp; try with_reducible rfl)
          try simp only [List.getElem_toArray, List.getElem_cons_zero, List.getElem_cons_succ, Act.put, List.setIfInBounds_toArray, List.set_cons_zero, List.set_cons_succ]
          refine wpAnyH_take (i := 9) (v := ?_) rfl (by kernel_rfl) (by kernel_rfl) (by kernel_rfl) (fun _ _ _ h => h) (Or.inl ⟨by rfl, ?_⟩) (by assumption) ?_
          rotate_left
          · (intro w hSw; (try dsimp only at hSw); go_simp; try with_reducible rfl)
          try simp only [List.getElem_toArray, List.getElem_cons_zero, List.getElem_cons_succ, Act.put, List.setIfInBounds_toArray, List.set_cons_zero, List.set_cons_succ]
          refine wpAnyH_take (i := 10) (v := ?_) rfl (by kernel_rfl) (by kernel_rfl) (by kernel_rfl) (fun _ _ _ h => h) (Or.inl ⟨by rfl, ?_⟩) (by assumption) ?_
          rotate_left
          · (intro w hSw; (try dsimp only at hSw); go_simp; try with_reducible rfl)
          try simp only [List.getElem_toArray, List.getElem_cons_zero, List.getElem_cons_succ, Act.put, List.setIfInBounds_toArray, List.set_cons_zero, List.set_cons_succ]
          refine wpAnyH_take (i := 11) (v := ?_) rfl (by kernel_rfl) (by kernel_rfl) (by kernel_rfl) (fun _ _ _ h => h) (Or.inl ⟨by rfl, ?_⟩) (by assumption) ?_
          rotate_left
          · (intro w hSw; (try dsimp only at hSw); go_simp; try with_reducible rfl)
          try simp only [List.getElem_toArray, List.getElem_cons_zero, List.getElem_cons_succ, Act.put, List.setIfInBounds_toArray, List.set_cons_zero, List.set_cons_succ]
          refine wpAnyH_take (i := 12) (v := ?_) rfl (by kernel_rfl) (by kernel_rfl) (by kernel_rfl) (fun _ _ _ h => h) (Or.inl ⟨by rfl, ?_⟩) (by assumption) ?_
          rotate_left
          · (intro w hSw; (try dsimp only at hSw); go_simp; try with_reducible rfl)
          try simp only [List.getElem_toArray, List.getElem_cons_zero, List.getElem_cons_succ, Act.put, List.setIfInBounds_toArray, List.set_cons_zero, List.set_cons_succ]
          refine wpAnyH_ready (rs := [4]) (by kernel_rfl) (by simp) ?_
          refine AllReadyH.cons rfl (fun K hK => ?_) AllReadyH.nil
          go_simp
          refine hK.out _ _ ?_ (fun hHeld => ?_)
          · ((try dsimp only); exact hcell.out _ hS2.2)
          clear hK K
          try simp only [List.getElem_toArray, List.getElem_cons_zero, List.getElem_cons_succ, Act.put, List.setIfInBounds_toArray, List.set_cons_zero, List.set_cons_succ]
          refine wpAnyH_ready (rs := [5]) (by kernel_rfl) (by simp) ?_
          refine AllReadyH.cons rfl (fun K hK => ?_) AllReadyH.nil
          go_simp
          refine hK.out _ _ ?_ (fun hHeld => ?_)
          · ((try dsimp only); exact hcell.out _ hS2.2)
          clear hK K
          try simp only [List.getElem_toArray, List.getElem_cons_zero, List.getElem_cons_succ, Act.put, List.setIfInBounds_toArray, List.set_cons_zero, List.set_cons_succ]
          refine wpAnyH_ready (rs := [7]) (by kernel_rfl) (by simp) ?_
          refine AllReadyH.cons rfl (fun K hK => ?_) AllReadyH.nil
          go_simp
          refine (put_e hS2.back (ni k) t (ni_size k) ⟨htb.1, htb.2.1⟩ hLl.out hpb hT).mono ?_
          rintro r w3 ⟨rfl, hs3⟩
          replace hs3 : Hid _ := ⟨hs3⟩
          go_wp2_with fail
          refine hK.out _ _ ?_ (fun hHeld => ?_)
          · ((try dsimp only); exact hcell.out _ hs3.out.2)
          clear hK K
          try simp only [List.getElem_toArray, List.getElem_cons_zero, List.getElem_cons_succ, Act.put, List.setIfInBounds_toArray, List.set_cons_zero, List.set_cons_succ]
          refine wpAnyH_take (i := 13) (v := ?_) rfl (by kernel_rfl) (by kernel_rfl) (by kernel_rfl) (fun _ _ _ h => h) (Or.inl ⟨by rfl, ?_⟩) (by assumption) ?_
          rotate_left
          · (intro w hSw; (try dsimp only at hSw); go_simp; try with_reducible rfl)
          try simp only [List.getElem_toArray, List.getElem_cons_zero, List.getElem_cons_succ, Act.put, List.setIfInBounds_toArray, List.set_cons_zero, List.set_cons_succ]
          refine wpAnyH_take (i := 14) (v := undef) rfl (by kernel_rfl) (by kernel_rfl) (by kernel_rfl) (fun _ _ _ h => h) (Or.inr ⟨by rfl, rfl⟩) (by assumption) ?_
          try simp only [List.getElem_toArray, List.getElem_cons_zero, List.getElem_cons_succ, Act.put, List.setIfInBounds_toArray, List.set_cons_zero, List.set_cons_succ]
          refine wpAnyH_take (i := 15) (v := undef) rfl (by kernel_rfl) (by kernel_rfl) (by kernel_rfl) (fun _ _ _ h => h) (Or.inr ⟨by rfl, rfl⟩) (by assumption) ?_
          try simp only [List.getElem_toArray, List.getElem_cons_zero, List.getElem_cons_succ, Act.put, List.setIfInBounds_toArray, List.set_cons_zero, List.set_cons_succ]
          refine wpAnyH_take (i := 16) (v := undef) rfl (by kernel_rfl) (by kernel_rfl) (by kernel_rfl) (fun _ _ _ h => h) (Or.inr ⟨by rfl, rfl⟩) (by assumption) ?_
          try simp only [List.getElem_toArray, List.getElem_cons_zero, List.getElem_cons_succ, Act.put, List.setIfInBounds_toArray, List.set_cons_zero, List.set_cons_succ]
          refine wpAnyH_take (i := 17) (v := ?_) rfl (by kernel_rfl) (by kernel_rfl) (by kernel_rfl) (fun _ _ _ h => h) (Or.inl ⟨by rfl, ?_⟩) (by assumption) ?_
          rotate_left
          · (intro w hSw; (try dsimp only at hSw); go_simp; try with_reducible rfl)
          try simp only [List.getElem_toArray, List.getElem_cons_zero, List.getElem_cons_succ, Act.put, List.setIfInBounds_toArray, List.set_cons_zero, List.set_cons_succ]
          refine wpAnyH_take (i := 18) (v := ?_) rfl (by kernel_rfl) (by kernel_rfl) (by kernel_rfl) (fun _ _ _ h => h) (Or.inl ⟨by rfl, ?_⟩) (by assumption) ?_
          rotate_left
          · (intro w hSw; (try dsimp only at hSw); go_simp; try with_reducible rfl)
          try simp only [List.getElem_toArray, List.getElem_cons_zero, List.getElem_cons_succ, Act.put, List.setIfInBounds_toArray, List.set_cons_zero, List.set_cons_succ]
          refine wpAnyH_done (by kernel_rfl) ?_ _
          clear hconv c0
          have hB2 : Hid (St W (w3.alloc (.cells #[.int .u64 0] 22)) (rl ++ [.q wb now T])) := ⟨(hs3.out.forth).grown (World.grownBy_alloc w3 _ none)⟩
          obtain ⟨ra2, rc2, w4, rl2, hrun, hIr2, hS4⟩ := app_i hB2.out hIr.out (by have := hyk.out; omega) 0 w3.heap.size (by simp)
          replace hIr2 : Hid _ := ⟨hIr2⟩
          replace hS4 : Hid _ := ⟨hS4⟩
          go_wp2_with (at_builtin; refine wpList_append_run rfl _ _ 49 rfl _ _ rfl rfl hrun ?_)
          go_roundw
          case rel => exact ⟨k + 1, ra2, rc2, ys ++ [0], rl2, T, by omega, ⟨by have := hyk.out; simp; omega⟩, by simp, by go_num, hIr2, hS4, hI2, hpos2⟩
          case measure => simp [intOf]; omega
    · have hd1 : decide ((k : Int) < ls.length) = false := by simp; omega
      obtain ⟨m, hm⟩ : ∃ m, Hid (ys.length = m) := ⟨_, ⟨rfl⟩⟩
      have hm40 : m ≤ 40 := by rw [← hm.out]; exact hI.out.len
      rw [hm.out] at hIr ⊢
      go_wp2_with fail
      go_loopw [0, 11] (fun nv i wr => ∃ (j : Nat) (nw : Int) (ys : List Int) (rl : List Res) (L : List E), j ≤ ps.length ∧ nv = .int .u64 nw ∧ i = .int .i64 j ∧ Hid (ys.length = m) ∧ Hid (Ir (.slice ra m rc) ys rl) ∧ Hid (St W wr (rl ++ [.q wb nw L])) ∧ Hid (Inv ys L) ∧ Hid (∀ y ∈ ys, 0 ≤ y) ∧ Hid (0 ≤ nw ∧ nw < 18446744073709551616))
        (fun _ i _ => ps.length - (intOf i).toNat)
      case atStart => exact ⟨0, now, ys, rl, L, by omega, rfl, rfl, hm, hIr, hS, hI, hpos, ⟨hnow⟩⟩
      case round =>
        clear hm hIr hS hI hpos hyk
        obtain ⟨j, nw, ys, rl, L, hj, rfl, rfl, hm, hIr, hS, hI, hpos, hnw⟩ := hrel
        by_cases hjp : j < ps.length
        · have hdj : decide ((j : Int) < ps.length) = true := by simp; omega
          obtain ⟨y, hy⟩ : ∃ y, ps[j]? = some y := ⟨ps[j], List.getElem?_eq_getElem hjp⟩
          obtain ⟨b, off, rfl, hb, hyb, c0⟩ := (ha2.below hS.out.2).at hy
          replace hy : Hid _ := ⟨hy⟩
          obtain ⟨t, ht⟩ : ∃ t, Hid (ltr nw y = t) := ⟨_, ⟨rfl⟩⟩
          have htb := ltr_bd hnw.out hyb
          rw [ht.out] at htb
          obtain ⟨A, hA⟩ : ∃ A, Hid (due t L = A) := ⟨_, ⟨rfl⟩⟩
          obtain ⟨R, hR⟩ : ∃ R, Hid (rst t L = R) := ⟨_, ⟨rfl⟩⟩
          have hn1 : Hid ((if nw < t then t else nw) = t) := ⟨by split <;> omega⟩
          obtain ⟨hsr, -, -, -, -⟩ := hS.out.mq (L := L) (wb := wb) (now := nw) (by simp)
          have hsA : Hid (Srt A) := ⟨by rw [← hA.out]; exact hsr.due t⟩
          have hAt : Hid (∀ x ∈ A, x.at_ ≤ t) := ⟨fun x hx => by rw [← hA.out] at hx; exact (mem_due.1 hx).2⟩
          have hRt : Hid (∀ x ∈ R, t < x.at_) := ⟨fun x hx => by rw [← hR.out] at hx; exact (mem_rst.1 hx).2⟩
          have hI1 : Hid (Inv ys (A ++ R)) := ⟨hI.out.same (fun x => by
            rw [List.mem_append, ← hA.out, ← hR.out, mem_due, mem_rst]
            constructor
            · rintro (h | h)
              · exact h.1
              · exact h.1
            · intro h
              by_cases h2 : x.at_ ≤ t
              · exact .inl ⟨h, h2⟩
              · exact .inr ⟨h, by omega⟩) (List.nodup_append.2 ⟨hsA.out.nodup, by rw [← hR.out]; exact (hsr.rst t).nodup, fun x hx z hz e => by
                subst e
                have h1 := hAt.out x hx
                have h2 := hRt.out x hz
                omega⟩)⟩
          have hAl : A.length ≤ 40 := by have := inv_le hI1.out hpos.out; rw [List.length_append] at this; omega
          go_wp2_with fail
          refine (later_any _ nw y hnw.out hyb ht).mono ?_
          rintro r w2 ⟨rfl, rfl⟩
          clear c0
          go_wp2_with fail
          refine (adv_e hS.out.back t ⟨htb.1, htb.2.1⟩ hA hR hn1).mono ?_
          rintro r w3 ⟨da, dc, rfl, hS3⟩
          have hS4 : Hid (St W w3 (rl ++ [.q wb t R, .r 52 (.slice da A.length dc) A])) := ⟨hS3.perm (by simpa using (List.perm_append_comm (l₁ := [Res.q wb t R, Res.r 52 (.slice da A.length dc) A]) (l₂ := rl)))⟩
          clear hS3
          go_wp2_with fail
          go_loopw [13] (fun i wr => ∃ (p : Nat) (ys : List Int) (rl : List Res), p ≤ A.length ∧ i = .int .i64 p ∧ Hid (ys.length = m) ∧ Hid (Ir (.slice ra m rc) ys rl) ∧ Hid (St W wr (rl ++ [.q wb t R, .r 52 (.slice da A.length dc) A])) ∧ Hid (Inv ys (A.drop p ++ R)) ∧ Hid (∀ y ∈ ys, 0 ≤ y))
            (fun i _ => A.length - (intOf i).toNat)
          case atStart => exact ⟨0, ys, rl, by omega, rfl, hm, hIr, hS4, hI1, hpos⟩
          case round =>
            clear hm hIr hS hI hpos hS4 hI1
            obtain ⟨p, ys, rl, hp, rfl, hm, hIr, hS, hI, hpos⟩ := hrel
            by_cases hpA : p < A.length
            · have hdp : decide ((p : Int) < A.length) = true := by simp; omega
              obtain ⟨x, hx⟩ := some_at hpA
              have hdr : A.drop p ++ R = x :: (A.drop (p + 1) ++ R) := by
                obtain ⟨f, hf, h2⟩ := drop_cons hpA
                rw [hx] at hf
                cases hf
                rw [h2]
                rfl
              have hI' := hI.out
              rw [hdr] at hI'
              obtain ⟨n, hn1, hn2, hn3, hI2⟩ := hI'.tell
              have hnl : n < m := by have := at_lt hn1; rw [hm.out] at this; exact this
              have hrow : Rw 52 wr (.slice da A.length dc) A := hS.out.mr (by simp)
              obtain ⟨g, rfl, -, -, k1, k2, -⟩ := hrow.at hx
              obtain ⟨g2, rfl, k3, k4⟩ := hIr.out.at hS.out hn1
              have hxt := hAt.out x (List.mem_of_getElem? hx)
              obtain ⟨nm, hnm⟩ : ∃ nm, Hid (x.n = nm) := ⟨_, ⟨rfl⟩⟩
              rw [hnm.out] at k1
              have hnsz : nm.size = 1 := by rw [← hnm.out, hn2]; rfl
              have hn0 : 0 < nm.size := by omega
              have hb0 : ((nm[0]'hn0).toNat : Int) = 65 + n := by
                have h1 : nm = ni n := hnm.out.symm.trans hn2
                subst h1
                show ((UInt8.ofNat (65 + n)).toNat : Int) = 65 + n
                simp
                omega
              obtain ⟨cb, hcb⟩ : ∃ cb : Int, cb = 65 + n := ⟨_, rfl⟩
              rw [← hcb] at hb0
              have hcn : cb - 65 = n := by omega
              have hc1 : 65 ≤ cb := by omega
              have hc2 : cb ≤ 105 := by omega
              clear hcb
              have hq1 : decide (x.at_ > t) = false := by simp; omega
              have hq2 : decide (t < x.at_) = false := by simp; omega
              have hq3 : (x.at_ == 0) = false := by simpa using hn3
              have hpos2 : Hid (∀ y ∈ ys.set n 0, 0 ≤ y) := ⟨fun y hy => by
                rcases List.mem_or_eq_of_mem_set hy with h | h
                · exact hpos.out y h
                · omega⟩
              have hIr0 : Hid (Ir (.slice (some ⟨g2, 0, none⟩) ys.length rc) ys rl) := ⟨by rw [hm.out]; exact hIr.out⟩
              have hreg : Hid (∀ (u1 u2 u3 u4 u5 u6 u7 u9 u10 u11 u15 u16 u17 u18 u19 u20 u21 u22 u23 u24 u25 u26 u27 u28 u29 u30 u31 u32 u33 u34 u35 u36 u37 u38 u39 u40 u41 u42 u43 u44 u45 u46 u47 u48 u49 u50 u51 u52 u53 u54 u55 u56 u57 u58 u59 u60 u61 u62 u63 u64 u65 u66 u67 u68 u69 u70 u71 u72 u73 u74 u75 u76 u77 u78 u79 u80 u81 u82 u83 u84 u85 u86 u87 u88 u89 u90 u91 u92 u93 u94 u95 u96 u97 u98 u99 u100 u101 u102 u103 u104 u105 u106 u107 u108 u109 u110 u111 u112 u113 u114 u115 u116 u117 u118 u119 u120 u121 u122 u123 u124 u125 u126 u127 u128 u129 u130 u131 u132 u133 u134 u135 u136 u137 u138 u139 u140 u141 u142 u143 u144 u145 u146 u147 u148 u149 u150 u151 u152 u153 u154 u155 u156 u157 u158 u159 u160 u161 u162 u163 u164 u165 u166 u167 u168 u169 u170 u171 u172 u173 u174 u175 u176 u177 u178 u179 u180 u181 u182 u183 u184 u185 u186 u187 u188 u189 u190 u191 u192 u193 u194 u195 u196 u197 u198 u199 u200 u201 u202 u203 u204 u205 u206 u207 u208 u209 u210 u211 u212 u213 u214 u215 u216 u217 u218 : Value) (Q : Exit → Act → World → Prop), (∀ (pw : Lat wr) (v97 v98 v99 v100 v101 v102 v103 v104 v105 v106 v107 v108 v109 v110 v111 v112 v113 v114 v115 v116 v117 v118 v119 v120 v121 v122 v123 v124 v125 v126 v127 v128 v129 v130 v131 v132 v133 v134 v135 v136 v137 v138 v139 v140 v141 v142 v143 v144 v145 v146 v147 v148 v149 v150 v151 v152 v153 v154 v155 v156 v157 v158 v159 v160 v161 v162 v163 v164 v165 v166 v167 v168 v169 v170 v171 v172 v173 v174 v175 v176 v177 : Value), Q .normal ⟨#[.int .u64 t, u1, u2, u3, u4, u5, u6, u7, .slice (some ⟨g2, 0, none⟩) m rc, u9, u10, u11, .slice (some ⟨g, 0, none⟩) A.length dc, .int .i64 p, .int .i64 n, u15, u16, u17, u18, u19, u20, u21, u22, u23, u24, u25, u26, u27, u28, u29, u30, u31, u32, u33, u34, u35, u36, u37, u38, u39, u40, u41, u42, u43, u44, u45, u46, u47, u48, u49, u50, u51, u52, u53, u54, u55, u56, u57, u58, u59, u60, u61, u62, u63, u64, u65, u66, u67, u68, u69, u70, u71, u72, u73, u74, u75, u76, u77, u78, u79, u80, u81, u82, u83, u84, u85, u86, u87, u88, u89, u90, u91, u92, u93, u94, u95, u96, v97, v98, v99, v100, v101, v102, v103, v104, v105, v106, v107, v108, v109, v110, v111, v112, v113, v114, v115, v116, v117, v118, v119, v120, v121, v122, v123, v124, v125, v126, v127, v128, v129, v130, v131, v132, v133, v134, v135, v136, v137, v138, v139, v140, v141, v142, v143, v144, v145, v146, v147, v148, v149, v150, v151, v152, v153, v154, v155, v156, v157, v158, v159, v160, v161, v162, v163, v164, v165, v166, v167, v168, v169, v170, v171, v172, v173, v174, v175, v176, v177, .bool false, u179, u180, u181, u182, u183, u184, u185, u186, u187, u188, u189, u190, u191, u192, u193, u194, u195, u196, u197, u198, u199, u200, u201, u202, u203, u204, u205, u206, u207, u208, u209, u210, u211, u212, u213, u214, u215, u216, u217, u218], []⟩ pw.W) → Code.wp Try.prog ((Try.f4.body.bind (findR 25)).getD .skip) Q ⟨#[.int .u64 t, u1, u2, u3, u4, u5, u6, u7, .slice (some ⟨g2, 0, none⟩) m rc, u9, u10, u11, .slice (some ⟨g, 0, none⟩) A.length dc, .int .i64 p, .int .i64 n, u15, u16, u17, u18, u19, u20, u21, u22, u23, u24, u25, u26, u27, u28, u29, u30, u31, u32, u33, u34, u35, u36, u37, u38, u39, u40, u41, u42, u43, u44, u45, u46, u47, u48, u49, u50, u51, u52, u53, u54, u55, u56, u57, u58, u59, u60, u61, u62, u63, u64, u65, u66, u67, u68, u69, u70, u71, u72, u73, u74, u75, u76, u77, u78, u79, u80, u81, u82, u83, u84, u85, u86, u87, u88, u89, u90, u91, u92, u93, u94, u95, u96, u97, u98, u99, u100, u101, u102, u103, u104, u105, u106, u107, u108, u109, u110, u111, u112, u113, u114, u115, u116, u117, u118, u119, u120, u121, u122, u123, u124, u125, u126, u127, u128, u129, u130, u131, u132, u133, u134, u135, u136, u137, u138, u139, u140, u141, u142, u143, u144, u145, u146, u147, u148, u149, u150, u151, u152, u153, u154, u155, u156, u157, u158, u159, u160, u161, u162, u163, u164, u165, u166, u167, u168, u169, u170, u171, u172, u173, u174, u175, u176, u177, u178, u179, u180, u181, u182, u183, u184, u185, u186, u187, u188, u189, u190, u191, u192, u193, u194, u195, u196, u197, u198, u199, u200, u201, u202, u203, u204, u205, u206, u207, u208, u209, u210, u211, u212, u213, u214, u215, u216, u217, u218], []⟩ wr) := ⟨by
                by_cases hp0 : p = 0
                · exact reg25a (nm := nm) hnl hm40 ⟨by omega, by omega⟩ hAl (by simpa using k1) (by simpa using k2) k3 hq1 hq2 hq3 (by simp; omega) (by simp; omega)
                · obtain ⟨x0, hx0⟩ := some_at (es := A) (k := p - 1) (by omega)
                  obtain ⟨g', e', -, -, k5, k6, -⟩ := hrow.at hx0
                  simp only [Option.some.injEq, Addr.mk.injEq] at e'
                  obtain ⟨rfl, -⟩ := e'
                  have hlt := hsA.out.next hx0 hx (by omega)
                  have hpm : (p : Int).toNat = p := by omega
                  rcases lt_said hlt with ⟨_, f1, f2⟩ | ⟨f1, f2, f3⟩
                  · exact reg25b (nm := nm) (nm0 := x0.n) (xb := x0.at_) hnl hm40 ⟨by omega, by omega⟩ hAl (by simpa using k1) (by simpa using k2) k3 hq1 hq2 hq3 (by rw [hpm]; exact k5) (by rw [hpm]; exact k6) (by simp; omega) (by simp; omega) (by omega) f1 f2
                  · rw [hnm.out] at f3
                    exact reg25c (nm := nm) (nm0 := x0.n) (xb := x0.at_) hnl hm40 ⟨by omega, by omega⟩ hAl (by simpa using k1) (by simpa using k2) k3 hq1 hq2 hq3 (by rw [hpm]; exact k5) (by rw [hpm]; exact k6) (by simp; omega) (by simp; omega) (by omega) f1 f2 f3⟩
              replace hx : Hid _ := ⟨hx⟩
              replace hI2 : Hid _ := ⟨hI2⟩
              replace hrow : Hid _ := ⟨hrow⟩
              replace hn1 : Hid _ := ⟨hn1⟩
              replace hn2 : Hid _ := ⟨hn2⟩
              replace hI' : Hid _ := ⟨hI'⟩
              replace hdr : Hid _ := ⟨hdr⟩
              clear hxt hn3
              go_wp2_with fail
              refine hreg.out _ _ _ _ _ _ _ _ _ _ _ _ _ _ _ _ _ _ _ _ _ _ _ _ _ _ _ _ _ _ _ _ _ _ _ _ _ _ _ _ _ _ _ _ _ _ _ _ _ _ _ _ _ _ _ _ _ _ _ _ _ _ _ _ _ _ _ _ _ _ _ _ _ _ _ _ _ _ _ _ _ _ _ _ _ _ _ _ _ _ _ _ _ _ _ _ _ _ _ _ _ _ _ _ _ _ _ _ _ _ _ _ _ _ _ _ _ _ _ _ _ _ _ _ _ _ _ _ _ _ _ _ _ _ _ _ _ _ _ _ _ _ _ _ _ _ _ _ _ _ _ _ _ _ _ _ _ _ _ _ _ _ _ _ _ _ _ _ _ _ _ _ _ _ _ _ _ _ _ _ _ _ _ _ _ _ _ _ _ _ _ _ _ _ _ _ _ _ _ _ _ _ _ _ _ _ _ _ _ _ _ _ _ _ _ ?_
              clear hreg
              intro pw v97 v98 v99 v100 v101 v102 v103 v104 v105 v106 v107 v108 v109 v110 v111 v112 v113 v114 v115 v116 v117 v118 v119 v120 v121 v122 v123 v124 v125 v126 v127 v128 v129 v130 v131 v132 v133 v134 v135 v136 v137 v138 v139 v140 v141 v142 v143 v144 v145 v146 v147 v148 v149 v150 v151 v152 v153 v154 v155 v156 v157 v158 v159 v160 v161 v162 v163 v164 v165 v166 v167 v168 v169 v170 v171 v172 v173 v174 v175 v176 v177
              have q3 := grown_cell pw.h k3
              have hfz : pw.W.frozen? ⟨g2, n, none⟩ = false := by rw [grown_frozen pw.h (World.block_lt_of_cell? wr _ k3)]; exact k4 n
              obtain ⟨rl', hIr', hS'⟩ := set_i (hS.out.grown pw.h) hIr0.out n (by rw [hm.out]; exact hnl)
              replace hIr' : Hid (Ir (.slice (some ⟨g2, 0, none⟩) m rc) (ys.set n 0) rl') := ⟨by have := hIr'; rw [List.length_set, hm.out] at this; exact this⟩
              replace hS' : Hid _ := ⟨hS'⟩
              clear k1 k2
              go_wp2_with fail
              go_roundw
              case rel => exact ⟨p + 1, ys.set n 0, rl', by omega, by go_num, ⟨by rw [List.length_set]; exact hm.out⟩, hIr', hS', hI2, hpos2⟩
              case measure => simp [intOf]; omega
            · have hdp : decide ((p : Int) < A.length) = false := by simp; omega
              have hpe : p = A.length := by omega
              have hI3 : Hid (Inv ys R) := ⟨by have := hI.out; rw [hpe, List.drop_length] at this; exact this⟩
              have hlen : Hid (nz ys m = R.length) := ⟨by have := inv_len m ys R hm.out hI3.out hpos.out; exact this⟩
              replace hpe : Hid _ := ⟨hpe⟩
              clear hI
              go_wp2_with fail
              go_loop [15, 16] (fun c i => ∃ q : Nat, q ≤ m ∧ c = .int .i64 (nz ys q : Nat) ∧ i = .int .i64 q)
                (fun _ i => m - (intOf i).toNat)
              case atStart => exact ⟨0, by omega, by simp [nz], rfl⟩
              case round =>
                obtain ⟨q, hq, rfl, rfl⟩ := hrel
                have hnzl := nz_le ys q
                by_cases hqm : q < m
                · have hdq : decide ((q : Int) < m) = true := by simp; omega
                  obtain ⟨z, hz⟩ : ∃ z, ys[q]? = some z := ⟨ys[q]'(by rw [hm.out]; exact hqm), List.getElem?_eq_getElem _⟩
                  obtain ⟨g2, rfl, k3, -⟩ := hIr.out.at hS.out hz
                  have hz0 := hpos.out z (List.mem_of_getElem? hz)
                  have hsu := nz_succ hz
                  by_cases hzp : 0 < z
                  · have hzt := hRt.out _ (hI3.out.of q z hz (by omega))
                    have e1 : decide (z > 0) = true := by simpa using hzp
                    have e2 : decide (0 < z) = true := by simpa using hzp
                    have e3 : decide (z ≤ t) = false := by simp; exact hzt
                    rw [if_pos hzp] at hsu
                    generalize nz ys q = cq at *
                    replace hsu : Hid _ := ⟨hsu⟩
                    replace hz : Hid _ := ⟨hz⟩
                    clear hzt hzp
                    go_wp2_with fail
                    go_round
                    case rel => exact ⟨q + 1, by omega, by rw [hsu.out]; go_num, by go_num⟩
                    case measure => simp [intOf]; omega
                  · have e1 : decide (z > 0) = false := by simpa using hzp
                    have e2 : decide (0 < z) = false := by simpa using hzp
                    rw [if_neg hzp] at hsu
                    generalize nz ys q = cq at *
                    replace hsu : Hid _ := ⟨hsu⟩
                    replace hz : Hid _ := ⟨hz⟩
                    clear hzp
                    go_wp2_with fail
                    go_round
                    case rel => exact ⟨q + 1, by omega, by rw [hsu.out]; simp, by go_num⟩
                    case measure => simp [intOf]; omega
                · have hdq : decide ((q : Int) < m) = false := by simp; omega
                  have hqe : q = m := by omega
                  subst hqe
                  rw [hlen.out]
                  clear hnzl
                  go_wp2_with fail
                  refine (len_m hS.out (by simp : Res.q wb t R ∈ _)).mono ?_
                  rintro r wA ⟨rfl, rfl⟩
                  go_wp2_with fail
                  refine (clock_m hS.out (by simp : Res.q wb t R ∈ _)).mono ?_
                  rintro r wB ⟨rfl, rfl⟩
                  go_wp2_with fail
                  go_roundw
                  case rel => exact ⟨j + 1, t, ys, rl, R, by omega, rfl, by go_num, hm, hIr, ⟨hS.out.sub (by simp)⟩, hI3, hpos, ⟨⟨htb.1, htb.2.1⟩⟩⟩
                  case measure => simp [intOf]; omega
        · have hdj : decide ((j : Int) < ps.length) = false := by simp; omega
          go_wp2_with fail
          refine (alive_s hS.out).mono ?_
          rintro r w4 ⟨rfl, hS4⟩
          go_wp2
          go_ret
          exact ⟨rfl, hS4.2⟩
set_option maxRecDepth 100000 in
set_option maxHeartbeats 2000000 in
theorem due_long (now : Int) (a : Option Addr) (len cap : Nat) (a2 : Option Addr) (len2 cap2 : Nat) (W : World) (h1 : len ≤ 9223372036854775807) (h2 : len2 ≤ 9223372036854775807) (h : 40 < len ∨ 40 < len2) :
    Calls Try.prog 4 #[.int .u64 now, .slice a len cap, .slice a2 len2 cap2] W fun e W' => e = .returned (.bool true) ∧ Below W.heap.size W W' := by
  by_cases hl : 40 < len
  · have hd1 : decide ((len : Int) > 40) = true := by simp; omega
    have hd2 : decide (40 < len) = true := by simp; omega
    go_enter Try.func4, Try.ntmps4
    go_wp2_with fail
    refine (alive_s (St.start W)).mono ?_
    rintro r w1 ⟨rfl, hS⟩
    go_wp2
    go_ret
    exact ⟨rfl, hS.2⟩
  · have hl2 : 40 < len2 := by omega
    have hd1 : decide ((len : Int) > 40) = false := by simp; omega
    have hd2 : decide (40 < len) = false := by simp; omega
    have hd3 : decide ((len2 : Int) > 40) = true := by simp; omega
    have hd4 : decide (40 < len2) = true := by simp; omega
    go_enter Try.func4, Try.ntmps4
    go_wp2_with fail
    refine (alive_s (St.start W)).mono ?_
    rintro r w1 ⟨rfl, hS⟩
    go_wp2
    go_ret
    exact ⟨rfl, hS.2⟩
theorem due_walk (now : Int) (hnow : 0 ≤ now ∧ now < 18446744073709551616) (a : Option Addr) (len cap : Nat) (ls : List Int) (a2 : Option Addr) (len2 cap2 : Nat) (ps : List Int) (W : World) (ha : Us W.heap.size W (.slice a len cap) ls) (ha2 : Us W.heap.size W (.slice a2 len2 cap2) ps) :
    Calls Try.prog 4 #[.int .u64 now, .slice a len cap, .slice a2 len2 cap2] W fun e W' => e = .returned (.bool true) ∧ Below W.heap.size W W' := by
  obtain ⟨_, _, e, hl1⟩ := ha.shape
  simp only [Value.slice.injEq] at e
  obtain ⟨rfl, rfl, rfl⟩ := e
  obtain ⟨_, _, e, hl2⟩ := ha2.shape
  simp only [Value.slice.injEq] at e
  obtain ⟨rfl, rfl, rfl⟩ := e
  unfold maxLen at hl1 hl2
  by_cases h : ls.length ≤ 40 ∧ ps.length ≤ 40
  · exact due_law now hnow a cap ls a2 cap2 ps W ha h.1 ha2 h.2
  · exact due_long now a ls.length cap a2 ps.length cap2 W (by omega) (by omega) (by omega)
end Go.Proofs.Ytlljfgpmjpmoiaa
