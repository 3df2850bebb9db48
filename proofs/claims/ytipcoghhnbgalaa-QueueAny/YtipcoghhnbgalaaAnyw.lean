/- The walk of QueueAny. -/
import Derived.Test.YtipcoghhnbgalaaAnyp
namespace Go.Proofs.Ytipcoghhnbgalaa
open Go.RowKit Go.IntWalk Go.Maps
set_option linter.unusedVariables false
set_option linter.unusedSimpArgs false
set_option maxRecDepth 100000 in
set_option maxHeartbeats 8000000 in
theorem any_walk (a : Option Addr) (len cap : Nat) (xs : List Ac) (t : Int) (ht : 0 ≤ t ∧ t < 18446744073709551616) (W : World) (ha : Acs W.heap.size W (.slice a len cap) xs) : Calls Try.prog 6 #[.slice a len cap, .int .u64 t] W fun e W' => e = .returned (.bool true) ∧ Below W.heap.size W W' := by
  obtain ⟨a', cap', e', hxl⟩ := ha.shape
  simp only [Value.slice.injEq] at e'
  obtain ⟨rfl, rfl, rfl⟩ := e'
  have hbo := bld_ok ha 150
  have hbl : (bld (xs.take 150)).length ≤ 150 := by
    have := bld_len (xs.take 150)
    rw [List.length_take] at this
    omega
  go_enter Try.func6, Try.ntmps6
  go_wp2_with fail
  refine (built_s (St.start W) ha hxl).mono ?_
  rintro r w1 ⟨qb, rfl, h1⟩
  go_wp2_with fail
  refine (new_s h1).mono ?_
  rintro r w2 ⟨pb, rfl, h2⟩
  go_wp2_with fail
  refine (built_s h2 ha hxl).mono ?_
  rintro r w3 ⟨lb, rfl, h3⟩
  obtain ⟨L, hL⟩ : ∃ L, L = bld (xs.take 150) := ⟨_, rfl⟩
  rw [← hL] at h3 hbo hbl
  have hsL : Hid (Srt L) := ⟨by rw [hL]; exact bld_srt _⟩
  have hta := tk_all (L := L) (fun e he => by have := hbo e he; omega)
  replace hbo : Hid _ := ⟨hbo⟩
  clear hL h1 h2
  go_wp2_with fail
  refine (due_e h3 18446744073709551615 ⟨hta.1⟩ ⟨hta.2⟩).mono ?_
  rintro r w4 ⟨a4, c4, rfl, h4⟩
  have h5 := h4.drop.swap
  clear h3 h4 hta
  replace h5 : Hid _ := ⟨h5⟩
  go_wp2_with fail
  go_loopw [9] (fun i wr => ∃ (j : Int) (k : Nat) (P : List E), i = .int .i64 j ∧ Hid (j = (k : Int) - 1) ∧ k ≤ L.length ∧ Hid (St W wr [.q pb P, .r 36 (.slice a4 L.length c4) L, .q qb L] ∧ P1 L t k P))
    (fun i _ => (intOf i + 1).toNat)
  case atStart => exact ⟨_, L.length, [], rfl, ⟨rfl⟩, by omega, ⟨h5.out, P1.start L t⟩⟩
  case round =>
    clear h5
    obtain ⟨j, k, P, rfl, hj, hk, hS⟩ := hrel
    by_cases hk0 : k = 0
    · have hd : decide (j ≥ 0) = false := by have := hj.out; simp; omega
      have hS2 : Hid (St W wr [.q pb P, .r 36 (.slice a4 L.length c4) L, .q qb L] ∧ P2 L 0 P ∧ P.length ≤ 150) := ⟨hS.out.1, P2.start (by have := hS.out.2; rw [hk0] at this; exact this), by have := hS.out.2.len; omega⟩
      clear hS hk0
      go_wp2_with fail
      go_loopw [10] (fun i wr => ∃ (k : Nat) (P : List E), i = .int .i64 k ∧ k ≤ L.length ∧ Hid (St W wr [.q pb P, .r 36 (.slice a4 L.length c4) L, .q qb L] ∧ P2 L k P ∧ P.length ≤ 150 + 2 * k))
        (fun i _ => L.length - (intOf i).toNat)
      case atStart => exact ⟨0, P, rfl, by omega, hS2⟩
      case round =>
        clear hS2
        obtain ⟨k, P, rfl, hk, hS⟩ := hrel
        by_cases hlt : k < L.length
        · have hd : decide ((k : Int) < L.length) = true := by simp; omega
          obtain ⟨f, hf⟩ := some_at hlt
          obtain ⟨r, hr⟩ : ∃ r, r = (k * 7 + 3) % L.length := ⟨_, rfl⟩
          have hrl : r < L.length := by rw [hr]; exact Nat.mod_lt _ (by omega)
          obtain ⟨u, hu⟩ := some_at hrl
          obtain ⟨m7, hm7⟩ : ∃ m7 : Int, Hid (m7 = (k : Int) * 7) := ⟨_, ⟨rfl⟩⟩
          obtain ⟨m10, hm10⟩ : ∃ m10 : Int, Hid (m10 = (k : Int) * 7 + 3) := ⟨_, ⟨rfl⟩⟩
          have e7 : IntKind.i64.wrap ((k : Int) * 7) = m7 := by rw [hm7.out]; exact i64_in _ (by omega)
          have e10 : IntKind.i64.wrap (m7 + 3) = m10 := by rw [hm7.out, hm10.out]; exact i64_in _ (by omega)
          have er : m10.tmod (L.length : Int) = (r : Int) := by
            rw [hm10.out, hr, Int.tmod_eq_emod_of_nonneg (by omega), Int.natCast_emod]
            simp
          have hn0 : ((L.length : Int) == 0) = false := by rw [beq_eq_false_iff_ne]; omega
          have hn1 : ¬ L = [] := fun e => by rw [e] at hlt; simp at hlt
          have hrb : (r : Int) < L.length := Int.ofNat_lt.2 hrl
          have hkb : (k : Int) < L.length := Int.ofNat_lt.2 hlt
          obtain ⟨g, rfl, _, _, c0, c1, _⟩ := (hS.out.1.mr (t := 36) (v := .slice a4 L.length c4) (es := L) (by simp)).at hf
          have hcl : Hid (∀ w' P', St W w' [.q pb P', .r 36 (.slice (some ⟨g, 0, none⟩) L.length c4) L, .q qb L] → w'.cell? ⟨g, r * 2, none⟩ = some (.string u.n) ∧ w'.cell? ⟨g, r * 2 + 1, none⟩ = some (.int .u64 u.at_) ∧ w'.cell? ⟨g, k * 2, none⟩ = some (.string f.n) ∧ w'.cell? ⟨g, k * 2 + 1, none⟩ = some (.int .u64 f.at_)) := ⟨fun w' P' h' => by
            have hrow := h'.mr (t := 36) (v := .slice (some ⟨g, 0, none⟩) L.length c4) (es := L) (by simp)
            obtain ⟨g1, q1, _, _, a1, a2, _⟩ := hrow.at hu
            obtain ⟨g2, q2, _, _, a3, a4, _⟩ := hrow.at hf
            cases q1; cases q2
            exact ⟨a1, a2, a3, a4⟩⟩
          have hfm : Hid (f ∈ L) := ⟨List.mem_of_getElem? hf⟩
          have hum : Hid (u ∈ L) := ⟨List.mem_of_getElem? hu⟩
          have hfs := small f.n (hbo.out f hfm.out).1
          have hus := small u.n (hbo.out u hum.out).1
          have hfa := (hbo.out f hfm.out).2
          have hua := (hbo.out u hum.out).2
          have hPl : P.length < 100000 := by have := hS.out.2.2; omega
          have hPl2 : (putE u P).length < 100000 := by have := putE_le hS.out.2.1.srt u; have := hS.out.2.2; omega
          have h2 : Hid (P2 L k (putE u P)) := ⟨hS.out.2.1.put hsL.out hum.out⟩
          have h3 : Hid (P2 L (k + 1) (putE f (putE u P)) ∧ (putE f (putE u P)).length ≤ 150 + 2 * (k + 1)) := ⟨(h2.out.put hsL.out hfm.out).next hf (mem_putE.2 (.inl rfl)), by
            have := putE_le hS.out.2.1.srt u
            have := putE_le h2.out.srt f
            have := hS.out.2.2
            omega⟩
          replace hf : Hid _ := ⟨hf⟩
          replace hu : Hid _ := ⟨hu⟩
          replace hr : Hid _ := ⟨hr⟩
          go_wp2_with fail
          refine wp_region_held_drew (S := fun w' => w'.cell? ⟨g, r * 2, none⟩ = some (.string u.n) ∧ w'.cell? ⟨g, r * 2 + 1, none⟩ = some (.int .u64 u.at_) ∧ w'.cell? ⟨g, k * 2, none⟩ = some (.string f.n) ∧ w'.cell? ⟨g, k * 2 + 1, none⟩ = some (.int .u64 f.at_)) (by kernel_rfl) (by (try dsimp only); exact hcl.out _ _ (hS.out.1.grown (grown_drew wr))) (fun hHeld => ?_)
          refine wpAnyH_take (i := 0) (v := ?_) rfl (by kernel_rfl) (by kernel_rfl) (by kernel_rfl) (fun _ _ _ h => h) (Or.inl ⟨by rfl, ?_⟩) (by assumption) ?_
          rotate_left
          · (intro w hSw; (try dsimp only at hSw); go_simp; try with_reducible rfl)
          try simp only [List.getElem_toArray, List.getElem_cons_zero, List.getElem_cons_succ, Act.put, List.setIfInBounds_toArray, List.set_cons_zero, List.set_cons_succ]
          refine wpAnyH_take (i := 1) (v := ?_) rfl (by kernel_rfl) (by kernel_rfl) (by kernel_rfl) (fun _ _ _ h => h) (Or.inl ⟨by rfl, ?_⟩) (by assumption) ?_
          rotate_left
          · (intro w hSw; (try dsimp only at hSw); go_simp; try with_reducible rfl)
          try simp only [List.getElem_toArray, List.getElem_cons_zero, List.getElem_cons_succ, Act.put, List.setIfInBounds_toArray, List.set_cons_zero, List.set_cons_succ]
          refine wpAnyH_take (i := 2) (v := ?_) rfl (by kernel_rfl) (by kernel_rfl) (by kernel_rfl) (fun _ _ _ h => h) (Or.inl ⟨by rfl, ?_⟩) (by assumption) ?_
          rotate_left
          · (intro w hSw; (try dsimp only at hSw); go_simp; try with_reducible rfl)
          try simp only [List.getElem_toArray, List.getElem_cons_zero, List.getElem_cons_succ, Act.put, List.setIfInBounds_toArray, List.set_cons_zero, List.set_cons_succ]
          refine wpAnyH_take (i := 3) (v := ?_) rfl (by kernel_rfl) (by kernel_rfl) (by kernel_rfl) (fun _ _ _ h => h) (Or.inl ⟨by rfl, ?_⟩) (by assumption) ?_
          rotate_left
          · (intro w hSw; (try dsimp only at hSw); go_simp; try with_reducible rfl)
          try simp only [List.getElem_toArray, List.getElem_cons_zero, List.getElem_cons_succ, Act.put, List.setIfInBounds_toArray, List.set_cons_zero, List.set_cons_succ]
          refine wpAnyH_take (i := 4) (v := ?_) rfl (by kernel_rfl) (by kernel_rfl) (by kernel_rfl) (fun _ _ _ h => h) (Or.inl ⟨by rfl, ?_⟩) (by assumption) ?_
          rotate_left
          · (intro w hSw; (try dsimp only at hSw); go_simp; try with_reducible rfl)
          try simp only [List.getElem_toArray, List.getElem_cons_zero, List.getElem_cons_succ, Act.put, List.setIfInBounds_toArray, List.set_cons_zero, List.set_cons_succ]
          refine wpAnyH_take (i := 5) (v := ?_) rfl (by kernel_rfl) (by kernel_rfl) (by kernel_rfl) (fun _ _ _ h => h) (Or.inl ⟨by rfl, ?_⟩) (by assumption) ?_
          rotate_left
          · (intro w hSw; (try dsimp only at hSw); go_simp; try with_reducible rfl)
          try simp only [List.getElem_toArray, List.getElem_cons_zero, List.getElem_cons_succ, Act.put, List.setIfInBounds_toArray, List.set_cons_zero, List.set_cons_succ]
          refine wpAnyH_take (i := 6) (v := ?_) rfl (by kernel_rfl) (by kernel_rfl) (by kernel_rfl) (fun _ _ _ h => h) (Or.inl ⟨by rfl, ?_⟩) (by assumption) ?_
          rotate_left
          · (intro w hSw; (try dsimp only at hSw); go_simp; try with_reducible rfl)
          try simp only [List.getElem_toArray, List.getElem_cons_zero, List.getElem_cons_succ, Act.put, List.setIfInBounds_toArray, List.set_cons_zero, List.set_cons_succ]
          refine wpAnyH_take (i := 7) (v := ?_) rfl (by kernel_rfl) (by kernel_rfl) (by kernel_rfl) (fun _ _ _ h => h) (Or.inl ⟨by rfl, ?_⟩) (by assumption) ?_
          rotate_left
          · (intro w hSw; (try dsimp only at hSw); go_simp; try with_reducible rfl)
          try simp only [List.getElem_toArray, List.getElem_cons_zero, List.getElem_cons_succ, Act.put, List.setIfInBounds_toArray, List.set_cons_zero, List.set_cons_succ]
          refine wpAnyH_take (i := 8) (v := ?_) rfl (by kernel_rfl) (by kernel_rfl) (by kernel_rfl) (fun _ _ _ h => h) (Or.inl ⟨by rfl, ?_⟩) (by assumption) ?_
          rotate_left
          · (intro w hSw; (try dsimp only at hSw); go_simp; try with_reducible rfl)
          try simp only [List.getElem_toArray, List.getElem_cons_zero, List.getElem_cons_succ, Act.put, List.setIfInBounds_toArray, List.set_cons_zero, List.set_cons_succ]
          refine wpAnyH_take (i := 9) (v := ?_) rfl (by kernel_rfl) (by kernel_rfl) (by kernel_rfl) (fun _ _ _ h => h) (Or.inl ⟨by rfl, ?_⟩) (by assumption) ?_
          rotate_left
          · (intro w hSw; (try dsimp only at hSw); go_simp; try with_reducible rfl)
          try simp only [List.getElem_toArray, List.getElem_cons_zero, List.getElem_cons_succ, Act.put, List.setIfInBounds_toArray, List.set_cons_zero, List.set_cons_succ]
          refine wpAnyH_take (i := 10) (v := ?_) rfl (by kernel_rfl) (by kernel_rfl) (by kernel_rfl) (fun _ _ _ h => h) (Or.inl ⟨by rfl, ?_⟩) (by assumption) ?_
          rotate_left
          · (intro w hSw; (try dsimp only at hSw); go_simp; try with_reducible rfl)
          try simp only [List.getElem_toArray, List.getElem_cons_zero, List.getElem_cons_succ, Act.put, List.setIfInBounds_toArray, List.set_cons_zero, List.set_cons_succ]
          refine wpAnyH_take (i := 11) (v := ?_) rfl (by kernel_rfl) (by kernel_rfl) (by kernel_rfl) (fun _ _ _ h => h) (Or.inl ⟨by rfl, ?_⟩) (by assumption) ?_
          rotate_left
          · (intro w hSw; (try dsimp only at hSw); go_simp; try with_reducible rfl)
          try simp only [List.getElem_toArray, List.getElem_cons_zero, List.getElem_cons_succ, Act.put, List.setIfInBounds_toArray, List.set_cons_zero, List.set_cons_succ]
          refine wpAnyH_take (i := 12) (v := ?_) rfl (by kernel_rfl) (by kernel_rfl) (by kernel_rfl) (fun _ _ _ h => h) (Or.inl ⟨by rfl, ?_⟩) (by assumption) ?_
          rotate_left
          · (intro w hSw; (try dsimp only at hSw); go_simp; try with_reducible rfl)
          try simp only [List.getElem_toArray, List.getElem_cons_zero, List.getElem_cons_succ, Act.put, List.setIfInBounds_toArray, List.set_cons_zero, List.set_cons_succ]
          refine wpAnyH_take (i := 13) (v := ?_) rfl (by kernel_rfl) (by kernel_rfl) (by kernel_rfl) (fun _ _ _ h => h) (Or.inl ⟨by rfl, ?_⟩) (by assumption) ?_
          rotate_left
          · (intro w hSw; (try dsimp only at hSw); go_simp; try with_reducible rfl)
          try simp only [List.getElem_toArray, List.getElem_cons_zero, List.getElem_cons_succ, Act.put, List.setIfInBounds_toArray, List.set_cons_zero, List.set_cons_succ]
          refine wpAnyH_take (i := 14) (v := ?_) rfl (by kernel_rfl) (by kernel_rfl) (by kernel_rfl) (fun _ _ _ h => h) (Or.inl ⟨by rfl, ?_⟩) (by assumption) ?_
          rotate_left
          · (intro w hSw; (try dsimp only at hSw); go_simp; try with_reducible rfl)
          try simp only [List.getElem_toArray, List.getElem_cons_zero, List.getElem_cons_succ, Act.put, List.setIfInBounds_toArray, List.set_cons_zero, List.set_cons_succ]
          refine wpAnyH_take (i := 15) (v := ?_) rfl (by kernel_rfl) (by kernel_rfl) (by kernel_rfl) (fun _ _ _ h => h) (Or.inl ⟨by rfl, ?_⟩) (by assumption) ?_
          rotate_left
          · (intro w hSw; (try dsimp only at hSw); go_simp; try with_reducible rfl)
          try simp only [List.getElem_toArray, List.getElem_cons_zero, List.getElem_cons_succ, Act.put, List.setIfInBounds_toArray, List.set_cons_zero, List.set_cons_succ]
          refine wpAnyH_take (i := 16) (v := ?_) rfl (by kernel_rfl) (by kernel_rfl) (by kernel_rfl) (fun _ _ _ h => h) (Or.inl ⟨by rfl, ?_⟩) (by assumption) ?_
          rotate_left
          · (intro w hSw; (try dsimp only at hSw); go_simp; try with_reducible rfl)
          try simp only [List.getElem_toArray, List.getElem_cons_zero, List.getElem_cons_succ, Act.put, List.setIfInBounds_toArray, List.set_cons_zero, List.set_cons_succ]
          refine wpAnyH_take (i := 17) (v := ?_) rfl (by kernel_rfl) (by kernel_rfl) (by kernel_rfl) (fun _ _ _ h => h) (Or.inl ⟨by rfl, ?_⟩) (by assumption) ?_
          rotate_left
          · (intro w hSw; (try dsimp only at hSw); go_simp; try with_reducible rfl)
          try simp only [List.getElem_toArray, List.getElem_cons_zero, List.getElem_cons_succ, Act.put, List.setIfInBounds_toArray, List.set_cons_zero, List.set_cons_succ]
          refine wpAnyH_take (i := 18) (v := ?_) rfl (by kernel_rfl) (by kernel_rfl) (by kernel_rfl) (fun _ _ _ h => h) (Or.inl ⟨by rfl, ?_⟩) (by assumption) ?_
          rotate_left
          · (intro w hSw; (try dsimp only at hSw); go_simp; try with_reducible rfl)
          try simp only [List.getElem_toArray, List.getElem_cons_zero, List.getElem_cons_succ, Act.put, List.setIfInBounds_toArray, List.set_cons_zero, List.set_cons_succ]
          refine wpAnyH_take (i := 19) (v := ?_) rfl (by kernel_rfl) (by kernel_rfl) (by kernel_rfl) (fun _ _ _ h => h) (Or.inl ⟨by rfl, ?_⟩) (by assumption) ?_
          rotate_left
          · (intro w hSw; (try dsimp only at hSw); go_simp; try with_reducible rfl)
          try simp only [List.getElem_toArray, List.getElem_cons_zero, List.getElem_cons_succ, Act.put, List.setIfInBounds_toArray, List.set_cons_zero, List.set_cons_succ]
          refine wpAnyH_take (i := 20) (v := ?_) rfl (by kernel_rfl) (by kernel_rfl) (by kernel_rfl) (fun _ _ _ h => h) (Or.inl ⟨by rfl, ?_⟩) (by assumption) ?_
          rotate_left
          · (intro w hSw; (try dsimp only at hSw); go_simp; try with_reducible rfl)
          try simp only [List.getElem_toArray, List.getElem_cons_zero, List.getElem_cons_succ, Act.put, List.setIfInBounds_toArray, List.set_cons_zero, List.set_cons_succ]
          refine wpAnyH_ready (rs := [21]) (by kernel_rfl) (by simp) ?_
          refine AllReadyH.cons rfl (fun K hK => ?_) AllReadyH.nil
          go_simp
          refine (put_e (hS.out.1.grown (grown_drew wr)) u.n u.at_ hus hua hPl ⟨hS.out.2.1.has hum.out⟩ ⟨rfl⟩).mono ?_
          rintro r w6 ⟨rfl, h6⟩
          replace h6 : Hid _ := ⟨h6⟩
          go_wp2_with fail
          refine hK.out _ _ ?_ (fun hHeld => ?_)
          · ((try dsimp only); exact hcl.out w6 _ h6.out)
          clear hK K
          try simp only [List.getElem_toArray, List.getElem_cons_zero, List.getElem_cons_succ, Act.put, List.setIfInBounds_toArray, List.set_cons_zero, List.set_cons_succ]
          refine wpAnyH_take (i := 22) (v := ?_) rfl (by kernel_rfl) (by kernel_rfl) (by kernel_rfl) (fun _ _ _ h => h) (Or.inl ⟨by rfl, ?_⟩) (by assumption) ?_
          rotate_left
          · (intro w hSw; (try dsimp only at hSw); go_simp; try with_reducible rfl)
          try simp only [List.getElem_toArray, List.getElem_cons_zero, List.getElem_cons_succ, Act.put, List.setIfInBounds_toArray, List.set_cons_zero, List.set_cons_succ]
          refine wpAnyH_take (i := 23) (v := ?_) rfl (by kernel_rfl) (by kernel_rfl) (by kernel_rfl) (fun _ _ _ h => h) (Or.inl ⟨by rfl, ?_⟩) (by assumption) ?_
          rotate_left
          · (intro w hSw; (try dsimp only at hSw); go_simp; try with_reducible rfl)
          try simp only [List.getElem_toArray, List.getElem_cons_zero, List.getElem_cons_succ, Act.put, List.setIfInBounds_toArray, List.set_cons_zero, List.set_cons_succ]
          refine wpAnyH_take (i := 24) (v := ?_) rfl (by kernel_rfl) (by kernel_rfl) (by kernel_rfl) (fun _ _ _ h => h) (Or.inl ⟨by rfl, ?_⟩) (by assumption) ?_
          rotate_left
          · (intro w hSw; (try dsimp only at hSw); go_simp; try with_reducible rfl)
          try simp only [List.getElem_toArray, List.getElem_cons_zero, List.getElem_cons_succ, Act.put, List.setIfInBounds_toArray, List.set_cons_zero, List.set_cons_succ]
          refine wpAnyH_take (i := 25) (v := ?_) rfl (by kernel_rfl) (by kernel_rfl) (by kernel_rfl) (fun _ _ _ h => h) (Or.inl ⟨by rfl, ?_⟩) (by assumption) ?_
          rotate_left
          · (intro w hSw; (try dsimp only at hSw); go_simp; try with_reducible rfl)
          try simp only [List.getElem_toArray, List.getElem_cons_zero, List.getElem_cons_succ, Act.put, List.setIfInBounds_toArray, List.set_cons_zero, List.set_cons_succ]
          refine wpAnyH_take (i := 26) (v := ?_) rfl (by kernel_rfl) (by kernel_rfl) (by kernel_rfl) (fun _ _ _ h => h) (Or.inl ⟨by rfl, ?_⟩) (by assumption) ?_
          rotate_left
          · (intro w hSw; (try dsimp only at hSw); go_simp; try with_reducible rfl)
          try simp only [List.getElem_toArray, List.getElem_cons_zero, List.getElem_cons_succ, Act.put, List.setIfInBounds_toArray, List.set_cons_zero, List.set_cons_succ]
          refine wpAnyH_take (i := 27) (v := ?_) rfl (by kernel_rfl) (by kernel_rfl) (by kernel_rfl) (fun _ _ _ h => h) (Or.inl ⟨by rfl, ?_⟩) (by assumption) ?_
          rotate_left
          · (intro w hSw; (try dsimp only at hSw); go_simp; try with_reducible rfl)
          try simp only [List.getElem_toArray, List.getElem_cons_zero, List.getElem_cons_succ, Act.put, List.setIfInBounds_toArray, List.set_cons_zero, List.set_cons_succ]
          refine wpAnyH_take (i := 28) (v := ?_) rfl (by kernel_rfl) (by kernel_rfl) (by kernel_rfl) (fun _ _ _ h => h) (Or.inl ⟨by rfl, ?_⟩) (by assumption) ?_
          rotate_left
          · (intro w hSw; (try dsimp only at hSw); go_simp; try with_reducible rfl)
          try simp only [List.getElem_toArray, List.getElem_cons_zero, List.getElem_cons_succ, Act.put, List.setIfInBounds_toArray, List.set_cons_zero, List.set_cons_succ]
          refine wpAnyH_take (i := 29) (v := ?_) rfl (by kernel_rfl) (by kernel_rfl) (by kernel_rfl) (fun _ _ _ h => h) (Or.inl ⟨by rfl, ?_⟩) (by assumption) ?_
          rotate_left
          · (intro w hSw; (try dsimp only at hSw); go_simp; try with_reducible rfl)
          try simp only [List.getElem_toArray, List.getElem_cons_zero, List.getElem_cons_succ, Act.put, List.setIfInBounds_toArray, List.set_cons_zero, List.set_cons_succ]
          refine wpAnyH_take (i := 30) (v := ?_) rfl (by kernel_rfl) (by kernel_rfl) (by kernel_rfl) (fun _ _ _ h => h) (Or.inl ⟨by rfl, ?_⟩) (by assumption) ?_
          rotate_left
          · (intro w hSw; (try dsimp only at hSw); go_simp; try with_reducible rfl)
          try simp only [List.getElem_toArray, List.getElem_cons_zero, List.getElem_cons_succ, Act.put, List.setIfInBounds_toArray, List.set_cons_zero, List.set_cons_succ]
          refine wpAnyH_take (i := 31) (v := ?_) rfl (by kernel_rfl) (by kernel_rfl) (by kernel_rfl) (fun _ _ _ h => h) (Or.inl ⟨by rfl, ?_⟩) (by assumption) ?_
          rotate_left
          · (intro w hSw; (try dsimp only at hSw); go_simp; try with_reducible rfl)
          try simp only [List.getElem_toArray, List.getElem_cons_zero, List.getElem_cons_succ, Act.put, List.setIfInBounds_toArray, List.set_cons_zero, List.set_cons_succ]
          refine wpAnyH_take (i := 32) (v := ?_) rfl (by kernel_rfl) (by kernel_rfl) (by kernel_rfl) (fun _ _ _ h => h) (Or.inl ⟨by rfl, ?_⟩) (by assumption) ?_
          rotate_left
          · (intro w hSw; (try dsimp only at hSw); go_simp; try with_reducible rfl)
          try simp only [List.getElem_toArray, List.getElem_cons_zero, List.getElem_cons_succ, Act.put, List.setIfInBounds_toArray, List.set_cons_zero, List.set_cons_succ]
          refine wpAnyH_take (i := 33) (v := ?_) rfl (by kernel_rfl) (by kernel_rfl) (by kernel_rfl) (fun _ _ _ h => h) (Or.inl ⟨by rfl, ?_⟩) (by assumption) ?_
          rotate_left
          · (intro w hSw; (try dsimp only at hSw); go_simp; try with_reducible rfl)
          try simp only [List.getElem_toArray, List.getElem_cons_zero, List.getElem_cons_succ, Act.put, List.setIfInBounds_toArray, List.set_cons_zero, List.set_cons_succ]
          refine wpAnyH_take (i := 34) (v := ?_) rfl (by kernel_rfl) (by kernel_rfl) (by kernel_rfl) (fun _ _ _ h => h) (Or.inl ⟨by rfl, ?_⟩) (by assumption) ?_
          rotate_left
          · (intro w hSw; (try dsimp only at hSw); go_simp; try with_reducible rfl)
          try simp only [List.getElem_toArray, List.getElem_cons_zero, List.getElem_cons_succ, Act.put, List.setIfInBounds_toArray, List.set_cons_zero, List.set_cons_succ]
          refine wpAnyH_ready (rs := [35]) (by kernel_rfl) (by simp) ?_
          refine AllReadyH.cons rfl (fun K hK => ?_) AllReadyH.nil
          go_simp
          refine (put_e h6.out f.n f.at_ hfs hfa hPl2 ⟨h2.out.has hfm.out⟩ ⟨rfl⟩).mono ?_
          rintro r w7 ⟨rfl, h7⟩
          replace h7 : Hid _ := ⟨h7⟩
          go_wp2_with fail
          refine hK.out _ _ ?_ (fun hHeld => ?_)
          · ((try dsimp only); exact hcl.out w7 _ h7.out)
          clear hK K
          try simp only [List.getElem_toArray, List.getElem_cons_zero, List.getElem_cons_succ, Act.put, List.setIfInBounds_toArray, List.set_cons_zero, List.set_cons_succ]
          refine wpAnyH_take (i := 36) (v := ?_) rfl (by kernel_rfl) (by kernel_rfl) (by kernel_rfl) (fun _ _ _ h => h) (Or.inl ⟨by rfl, ?_⟩) (by assumption) ?_
          rotate_left
          · (intro w hSw; (try dsimp only at hSw); go_simp; try with_reducible rfl)
          try simp only [List.getElem_toArray, List.getElem_cons_zero, List.getElem_cons_succ, Act.put, List.setIfInBounds_toArray, List.set_cons_zero, List.set_cons_succ]
          refine wpAnyH_take (i := 37) (v := ?_) rfl (by kernel_rfl) (by kernel_rfl) (by kernel_rfl) (fun _ _ _ h => h) (Or.inl ⟨by rfl, ?_⟩) (by assumption) ?_
          rotate_left
          · (intro w hSw; (try dsimp only at hSw); go_simp; try with_reducible rfl)
          try simp only [List.getElem_toArray, List.getElem_cons_zero, List.getElem_cons_succ, Act.put, List.setIfInBounds_toArray, List.set_cons_zero, List.set_cons_succ]
          refine wpAnyH_done (by kernel_rfl) ?_ _
          have h8 : Hid _ := Hid.mk (And.intro h7.out h3.out)
          clear h7 h6 h3
          go_wp2_with fail
          go_roundw
          case rel => exact ⟨k + 1, _, by go_num, by omega, h8⟩
          case measure => simp [intOf]; omega
        · have hd : decide ((k : Int) < L.length) = false := by simp; omega
          have hPL : P = L := by
            have := hS.out.2.1
            rw [show k = L.length by omega] at this
            exact this.done hsL.out
          have hS3 : Hid (St W wr [.q pb (L.drop 0), .r 36 (.slice a4 L.length c4) L, .q qb (L.drop 0)]) := ⟨by have := hS.out.1; rw [hPL] at this; exact this⟩
          clear hS hPL
          go_wp2_with fail
          go_loopw [11] (fun i wr => ∃ (k : Nat), i = .int .i64 k ∧ k ≤ L.length ∧ Hid (St W wr [.q pb (L.drop k), .r 36 (.slice a4 L.length c4) L, .q qb (L.drop k)]))
            (fun i _ => L.length - (intOf i).toNat)
          case atStart => exact ⟨0, rfl, by omega, hS3⟩
          case round =>
            clear hS3
            obtain ⟨k, rfl, hk, hS⟩ := hrel
            by_cases hlt : k < L.length
            · have hd : decide ((k : Int) < L.length) = true := by simp; omega
              obtain ⟨f, hf, hdr⟩ := drop_cons hlt
              have hfr : Hid (fr (L.drop k) = (f, true)) := ⟨by rw [hdr]; rfl⟩
              have htl : Hid ((L.drop k).tail = L.drop (k + 1)) := ⟨by rw [hdr]; rfl⟩
              replace hf : Hid _ := ⟨hf⟩
              replace hdr : Hid _ := ⟨hdr⟩
              go_wp2_with fail
              refine (pop_e hS.out.rot hfr htl).mono ?_
              rintro r w5 ⟨rfl, h5⟩
              have h6 := (h5.box (.cells #[.string f.n, .int .u64 f.at_] 36)).rot
              clear h5
              go_wp2_with fail
              refine (pop_e h6 hfr htl).mono ?_
              rintro r w7 ⟨rfl, h7⟩
              have h8 := h7.box (.cells #[.string f.n, .int .u64 f.at_] 36)
              clear h6 h7
              obtain ⟨x0, x1, _⟩ := own_b (h8.mb (k := w7.heap.size) (o := .cells #[.string f.n, .int .u64 f.at_] 36 (0, 0)) (by simp))
              obtain ⟨y0, y1, _⟩ := own_b (h8.mb (k := w5.heap.size) (o := .cells #[.string f.n, .int .u64 f.at_] 36 (0, 0)) (by simp))
              obtain ⟨g, rfl, _, _, z0, z1, _⟩ := (h8.mr (t := 36) (v := .slice a4 L.length c4) (es := L) (by simp)).at hf.out
              haveI := lat_nonempty (w7.alloc (.cells #[.string f.n, .int .u64 f.at_] 36))
              have x0' := lat_cell x0
              have x1' := lat_cell x1
              have y0' := lat_cell y0
              have y1' := lat_cell y1
              have z0' := lat_cell z0
              have z1' := lat_cell z1
              have nq := fun p : Lat (w7.alloc (.cells #[.string f.n, .int .u64 f.at_] 36)) => neq36 f.n f.at_ p.W
              replace h8 : Hid _ := ⟨h8⟩
              clear x0 x1 y0 y1 z0 z1
              go_wp2_with fail
              refine wp_region_lat (by kernel_rfl) (by kernel_rfl) ?_
              repeat (go_big_quiet_step (fail))
              refine wpQuiet_nil ?_
              intro _ hw'
              obtain ⟨p, hw''⟩ := hw'
              subst hw''
              have h9 : Hid (St W p.W [.q pb (L.drop (k + 1)), .r 36 (.slice (some ⟨g, 0, none⟩) L.length c4) L, .q qb (L.drop (k + 1))]) := ⟨((h8.out.grown p.h).drop.swap.drop).perm ((List.Perm.swap _ _ _).cons _)⟩
              clear h8 nq x0' x1' y0' y1' z0' z1'
              go_wp2_with fail
              go_roundw
              case rel => exact ⟨k + 1, by go_num, by omega, h9⟩
              case measure => simp [intOf]; omega
            · have hd : decide ((k : Int) < L.length) = false := by simp; omega
              have hke : L.drop k = [] := List.drop_eq_nil_of_le (by omega)
              have h5 := hS.out
              rw [hke] at h5
              clear hS hke
              go_wp2_with fail
              refine (alive_s h5).mono ?_
              rintro r w6 ⟨rfl, h6⟩
              go_wp2_with fail
              refine (len_m h6 (qb := pb) (L := []) (by simp)).mono ?_
              rintro r w7 ⟨rfl, rfl⟩
              go_wp2_with fail
              refine (len_m h6 (qb := qb) (L := []) (by simp)).mono ?_
              rintro r w8 ⟨rfl, rfl⟩
              go_wp2
              go_ret
              exact ⟨rfl, h6.2⟩
    · obtain ⟨m, rfl⟩ : ∃ m, k = m + 1 := ⟨k - 1, by omega⟩
      obtain rfl : j = (m : Int) := by have := hj.out; omega
      have hd : decide ((m : Int) ≥ 0) = true := by simp
      obtain ⟨f, hf⟩ := some_at (es := L) (k := m) (by omega)
      obtain ⟨g, rfl, _, _, c0, c1, _⟩ := (hS.out.1.mr (t := 36) (v := .slice a4 L.length c4) (es := L) (by simp)).at hf
      have hfs := small f.n (hbo.out f (List.mem_of_getElem? hf)).1
      have hPl : P.length < 100000 := by have := hS.out.2.len; omega
      replace hf : Hid _ := ⟨hf⟩
      clear hj
      go_wp2_with fail
      refine (put_s hS.out.1 f.n t hfs ht hPl).mono ?_
      rintro r w6 ⟨rfl, h6⟩
      have h7 : Hid _ := Hid.mk (And.intro h6 (hS.out.2.step hsL.out hf.out))
      clear h6
      go_wp2_with fail
      go_roundw
      case rel => exact ⟨_, m, _, rfl, ⟨rfl⟩, by omega, h7⟩
      case measure => simp [intOf]
end Go.Proofs.Ytipcoghhnbgalaa
