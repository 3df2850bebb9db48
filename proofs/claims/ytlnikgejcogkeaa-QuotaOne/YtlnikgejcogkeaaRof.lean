/- The document's Of; a use as the document's. -/
import Derived.Test.YtlnikgejcogkeaaOff
namespace Go.Proofs.Ytlnikgejcogkeaa
open Go.RowKit Go.IntWalk
set_option linter.unusedVariables false
set_option linter.unusedSimpArgs false
abbrev bR (k r t : Int) : Obj := .cells #[.int .i64 k, .int .i64 r, .int .i64 t] 25
set_option maxRecDepth 100000 in
set_option maxHeartbeats 1000000 in
/-- The law's told. -/
theorem told_any (k r t : Int) (w : World) : Calls Try.prog 7 #[uV k r t] w fun e w' => e = .returned (uV k r t) ∧ Below w.heap.size w w' := by
  go_enter Try.func7, Try.ntmps7
  go_wp2
  refine bodyPost_ret (v := uV k r t) (by rw [results_cell1 rfl]; go_simp) rfl ?_
  refine ⟨rfl, ?_⟩
  exact ((((((Below.refl _ _).alloc (Nat.le_refl _) _).alloc (by simp) _)))) 
set_option maxRecDepth 100000 in
set_option maxHeartbeats 4000000 in
theorem rof_lt {v u : Value} {ks vs : List Int} (w : World) (hk : Ins w.heap.size w v ks) (hv : Ins w.heap.size w u vs) (lk : ks.length ≤ 3000) (lv : vs.length ≤ 3000) {t : Int} (ht : I64 t) (h : vs.length < ks.length) {d : Int} (hd : Hid (cntL ks vs vs.length = d)) {T : Int} (hT : Hid (top t = T)) :
    Calls Try.prog 9 #[v, u, .int .i64 t] w fun e w' => e = .returned (uV vs.length d T) ∧ Below w.heap.size w w' := by
  obtain ⟨ka, kc, rfl, hkl⟩ := hk.shape
  obtain ⟨va, vc, rfl, hvl⟩ := hv.shape
  clear hkl hvl
  obtain ⟨ht0, ht1⟩ := ht
  go_enter Try.func9, Try.ntmps9
  go_wp2
  go_loopw [8, 9] (fun cv i wr => ∃ (k : Nat) (c : Int), k ≤ vs.length ∧ i = .int .i64 k ∧ cv = .int .i64 c ∧ Hid (cntL ks vs k = c) ∧ Hid (wr.heap[w.heap.size]? = some (bR 0 0 0)) ∧ Below w.heap.size w wr) (fun _ i _ => (vs.length - intOf i).toNat)
  case atStart => exact ⟨0, 0, by omega, rfl, rfl, ⟨rfl⟩, ⟨heap_new w _⟩, (Below.refl _ _).alloc (Nat.le_refl _) _⟩
  case round =>
    obtain ⟨k, c, hkn, rfl, rfl, hc, hq, hB⟩ := hrel
    by_cases hlt : k < vs.length
    · have hk1 : k < ks.length := by omega
      have hv1 : k < vs.length := by omega
      obtain ⟨kb, ko, rfl, hkb, hkc⟩ := (hk.below hB).at hk1
      obtain ⟨vb, vo, rfl, hvb, hvc⟩ := (hv.below hB).at hv1
      have hnx : Hid (cntL ks vs (k + 1) = cnt1 (cnt1 c (ks[k]?.getD 0)) (vs[k]?.getD 0)) := ⟨by rw [← hc.out]; rfl⟩
      have hcb : 0 ≤ c ∧ c ≤ 2147483647 := by rw [← hc.out]; exact cntL_bd _ _ _
      generalize (ks[k]?.getD 0) = x at *
      generalize (vs[k]?.getD 0) = y at *
      obtain ⟨hc0, hc1⟩ := hcb
      replace hk := Hid.mk hk
      replace hv := Hid.mk hv
      obtain ⟨bx, hbx⟩ : ∃ bx, bad x = bx := ⟨_, rfl⟩
      obtain ⟨by', hby⟩ : ∃ by', bad y = by' := ⟨_, rfl⟩
      have hsx := fun w1 => size_any x w1
      have hsy := fun w1 => size_any y w1
      rw [hbx] at hsx
      rw [hby] at hsy
      obtain ⟨m, hm⟩ : ∃ m, cnt1 (cnt1 c x) y = m := ⟨_, rfl⟩
      replace hnx : Hid (cntL ks vs (k + 1) = m) := ⟨hnx.out.trans hm⟩
      cases bx <;> cases by'
      · have hxb : 0 ≤ x ∧ x ≤ 4000 := by simp [bad] at hbx; omega
        have hyb : 0 ≤ y ∧ y ≤ 4000 := by simp [bad] at hby; omega
        have hmm : Hid ((if 2147483647 < c + x + y then 2147483647 else c + x + y) = m) := by
          refine ⟨?_⟩
          rw [← hm]
          simp only [cnt1, hbx, hby]
          simp only [Bool.false_eq_true, if_true, if_false]
          split <;> omega
        obtain ⟨hx0, hx1⟩ := hxb
        obtain ⟨hy0, hy1⟩ := hyb
        clear hbx hby hm
        go_wp2_with fail
        refine (hsx _).mono ?_
        rintro e w1 ⟨rfl, rfl⟩
        go_wp2_with fail
        refine (hsy _).mono ?_
        rintro e w1 ⟨rfl, rfl⟩
        go_wp2
        go_roundw
        case rel => exact ⟨k + 1, m, by omega, by go_num, congrArg _ hmm.out, hnx, hq, hB⟩
        case measure => simp [intOf]; omega
      · have hxb : 0 ≤ x ∧ x ≤ 4000 := by simp [bad] at hbx; omega
        skip
        have hmm : Hid ((if 2147483647 < c + x then 2147483647 else c + x) = m) := by
          refine ⟨?_⟩
          rw [← hm]
          simp only [cnt1, hbx, hby]
          simp only [Bool.false_eq_true, if_true, if_false]
          split <;> omega
        obtain ⟨hx0, hx1⟩ := hxb
        skip
        clear hbx hby hm
        go_wp2_with fail
        refine (hsx _).mono ?_
        rintro e w1 ⟨rfl, rfl⟩
        go_wp2_with fail
        refine (hsy _).mono ?_
        rintro e w1 ⟨rfl, rfl⟩
        go_wp2
        go_roundw
        case rel => exact ⟨k + 1, m, by omega, by go_num, congrArg _ hmm.out, hnx, hq, hB⟩
        case measure => simp [intOf]; omega
      · skip
        have hyb : 0 ≤ y ∧ y ≤ 4000 := by simp [bad] at hby; omega
        have hmm : Hid ((if 2147483647 < c + y then 2147483647 else c + y) = m) := by
          refine ⟨?_⟩
          rw [← hm]
          simp only [cnt1, hbx, hby]
          simp only [Bool.false_eq_true, if_true, if_false]
          split <;> omega
        skip
        obtain ⟨hy0, hy1⟩ := hyb
        clear hbx hby hm
        go_wp2_with fail
        refine (hsx _).mono ?_
        rintro e w1 ⟨rfl, rfl⟩
        go_wp2_with fail
        refine (hsy _).mono ?_
        rintro e w1 ⟨rfl, rfl⟩
        go_wp2
        go_roundw
        case rel => exact ⟨k + 1, m, by omega, by go_num, congrArg _ hmm.out, hnx, hq, hB⟩
        case measure => simp [intOf]; omega
      · skip
        skip
        have hmm : Hid ((if 2147483647 < c then 2147483647 else c) = m) := by
          refine ⟨?_⟩
          rw [← hm]
          simp only [cnt1, hbx, hby]
          simp only [Bool.false_eq_true, if_true, if_false]
          split <;> omega
        skip
        skip
        clear hbx hby hm
        go_wp2_with fail
        refine (hsx _).mono ?_
        rintro e w1 ⟨rfl, rfl⟩
        go_wp2_with fail
        refine (hsy _).mono ?_
        rintro e w1 ⟨rfl, rfl⟩
        go_wp2
        go_roundw
        case rel => exact ⟨k + 1, m, by omega, by go_num, congrArg _ (by have := hmm.out; rwa [if_neg (by omega)] at this), hnx, hq, hB⟩
        case measure => simp [intOf]; omega
    · obtain rfl : k = vs.length := by omega
      obtain rfl : c = d := by rw [← hc.out, hd.out]
      obtain ⟨q0, q1, q2, qf⟩ := own3 hq.out
      go_wp2
      all_goals
        have hT' := hT.out
        unfold top at hT'
        repeat' split at hT'
        all_goals first | omega | skip
      all_goals
        subst hT'
        refine bodyPost_ret (v := uV vs.length c _) (by rw [results_cell1 rfl]; go_simp; rfl) rfl ?_
        refine ⟨rfl, ?_⟩
        exact ((hB.setCell (by simp) _).setCell (by simp) _).setCell (by simp) _
set_option maxRecDepth 100000 in
set_option maxHeartbeats 4000000 in
theorem rof_ge {v u : Value} {ks vs : List Int} (w : World) (hk : Ins w.heap.size w v ks) (hv : Ins w.heap.size w u vs) (lk : ks.length ≤ 3000) (lv : vs.length ≤ 3000) {t : Int} (ht : I64 t) (h : ¬ vs.length < ks.length) {d : Int} (hd : Hid (cntL ks vs ks.length = d)) {T : Int} (hT : Hid (top t = T)) :
    Calls Try.prog 9 #[v, u, .int .i64 t] w fun e w' => e = .returned (uV ks.length d T) ∧ Below w.heap.size w w' := by
  obtain ⟨ka, kc, rfl, hkl⟩ := hk.shape
  obtain ⟨va, vc, rfl, hvl⟩ := hv.shape
  clear hkl hvl
  obtain ⟨ht0, ht1⟩ := ht
  go_enter Try.func9, Try.ntmps9
  go_wp2
  go_loopw [8, 9] (fun cv i wr => ∃ (k : Nat) (c : Int), k ≤ ks.length ∧ i = .int .i64 k ∧ cv = .int .i64 c ∧ Hid (cntL ks vs k = c) ∧ Hid (wr.heap[w.heap.size]? = some (bR 0 0 0)) ∧ Below w.heap.size w wr) (fun _ i _ => (ks.length - intOf i).toNat)
  case atStart => exact ⟨0, 0, by omega, rfl, rfl, ⟨rfl⟩, ⟨heap_new w _⟩, (Below.refl _ _).alloc (Nat.le_refl _) _⟩
  case round =>
    obtain ⟨k, c, hkn, rfl, rfl, hc, hq, hB⟩ := hrel
    by_cases hlt : k < ks.length
    · have hk1 : k < ks.length := by omega
      have hv1 : k < vs.length := by omega
      obtain ⟨kb, ko, rfl, hkb, hkc⟩ := (hk.below hB).at hk1
      obtain ⟨vb, vo, rfl, hvb, hvc⟩ := (hv.below hB).at hv1
      have hnx : Hid (cntL ks vs (k + 1) = cnt1 (cnt1 c (ks[k]?.getD 0)) (vs[k]?.getD 0)) := ⟨by rw [← hc.out]; rfl⟩
      have hcb : 0 ≤ c ∧ c ≤ 2147483647 := by rw [← hc.out]; exact cntL_bd _ _ _
      generalize (ks[k]?.getD 0) = x at *
      generalize (vs[k]?.getD 0) = y at *
      obtain ⟨hc0, hc1⟩ := hcb
      replace hk := Hid.mk hk
      replace hv := Hid.mk hv
      obtain ⟨bx, hbx⟩ : ∃ bx, bad x = bx := ⟨_, rfl⟩
      obtain ⟨by', hby⟩ : ∃ by', bad y = by' := ⟨_, rfl⟩
      have hsx := fun w1 => size_any x w1
      have hsy := fun w1 => size_any y w1
      rw [hbx] at hsx
      rw [hby] at hsy
      obtain ⟨m, hm⟩ : ∃ m, cnt1 (cnt1 c x) y = m := ⟨_, rfl⟩
      replace hnx : Hid (cntL ks vs (k + 1) = m) := ⟨hnx.out.trans hm⟩
      cases bx <;> cases by'
      · have hxb : 0 ≤ x ∧ x ≤ 4000 := by simp [bad] at hbx; omega
        have hyb : 0 ≤ y ∧ y ≤ 4000 := by simp [bad] at hby; omega
        have hmm : Hid ((if 2147483647 < c + x + y then 2147483647 else c + x + y) = m) := by
          refine ⟨?_⟩
          rw [← hm]
          simp only [cnt1, hbx, hby]
          simp only [Bool.false_eq_true, if_true, if_false]
          split <;> omega
        obtain ⟨hx0, hx1⟩ := hxb
        obtain ⟨hy0, hy1⟩ := hyb
        clear hbx hby hm
        go_wp2_with fail
        refine (hsx _).mono ?_
        rintro e w1 ⟨rfl, rfl⟩
        go_wp2_with fail
        refine (hsy _).mono ?_
        rintro e w1 ⟨rfl, rfl⟩
        go_wp2
        go_roundw
        case rel => exact ⟨k + 1, m, by omega, by go_num, congrArg _ hmm.out, hnx, hq, hB⟩
        case measure => simp [intOf]; omega
      · have hxb : 0 ≤ x ∧ x ≤ 4000 := by simp [bad] at hbx; omega
        skip
        have hmm : Hid ((if 2147483647 < c + x then 2147483647 else c + x) = m) := by
          refine ⟨?_⟩
          rw [← hm]
          simp only [cnt1, hbx, hby]
          simp only [Bool.false_eq_true, if_true, if_false]
          split <;> omega
        obtain ⟨hx0, hx1⟩ := hxb
        skip
        clear hbx hby hm
        go_wp2_with fail
        refine (hsx _).mono ?_
        rintro e w1 ⟨rfl, rfl⟩
        go_wp2_with fail
        refine (hsy _).mono ?_
        rintro e w1 ⟨rfl, rfl⟩
        go_wp2
        go_roundw
        case rel => exact ⟨k + 1, m, by omega, by go_num, congrArg _ hmm.out, hnx, hq, hB⟩
        case measure => simp [intOf]; omega
      · skip
        have hyb : 0 ≤ y ∧ y ≤ 4000 := by simp [bad] at hby; omega
        have hmm : Hid ((if 2147483647 < c + y then 2147483647 else c + y) = m) := by
          refine ⟨?_⟩
          rw [← hm]
          simp only [cnt1, hbx, hby]
          simp only [Bool.false_eq_true, if_true, if_false]
          split <;> omega
        skip
        obtain ⟨hy0, hy1⟩ := hyb
        clear hbx hby hm
        go_wp2_with fail
        refine (hsx _).mono ?_
        rintro e w1 ⟨rfl, rfl⟩
        go_wp2_with fail
        refine (hsy _).mono ?_
        rintro e w1 ⟨rfl, rfl⟩
        go_wp2
        go_roundw
        case rel => exact ⟨k + 1, m, by omega, by go_num, congrArg _ hmm.out, hnx, hq, hB⟩
        case measure => simp [intOf]; omega
      · skip
        skip
        have hmm : Hid ((if 2147483647 < c then 2147483647 else c) = m) := by
          refine ⟨?_⟩
          rw [← hm]
          simp only [cnt1, hbx, hby]
          simp only [Bool.false_eq_true, if_true, if_false]
          split <;> omega
        skip
        skip
        clear hbx hby hm
        go_wp2_with fail
        refine (hsx _).mono ?_
        rintro e w1 ⟨rfl, rfl⟩
        go_wp2_with fail
        refine (hsy _).mono ?_
        rintro e w1 ⟨rfl, rfl⟩
        go_wp2
        go_roundw
        case rel => exact ⟨k + 1, m, by omega, by go_num, congrArg _ (by have := hmm.out; rwa [if_neg (by omega)] at this), hnx, hq, hB⟩
        case measure => simp [intOf]; omega
    · obtain rfl : k = ks.length := by omega
      obtain rfl : c = d := by rw [← hc.out, hd.out]
      obtain ⟨q0, q1, q2, qf⟩ := own3 hq.out
      go_wp2
      all_goals
        have hT' := hT.out
        unfold top at hT'
        repeat' split at hT'
        all_goals first | omega | skip
      all_goals
        subst hT'
        refine bodyPost_ret (v := uV ks.length c _) (by rw [results_cell1 rfl]; go_simp; rfl) rfl ?_
        refine ⟨rfl, ?_⟩
        exact ((hB.setCell (by simp) _).setCell (by simp) _).setCell (by simp) _
/-- The document's Of. -/
theorem rof_any {v u : Value} {ks vs : List Int} (w : World) (hk : Ins w.heap.size w v ks) (hv : Ins w.heap.size w u vs) (lk : ks.length ≤ 3000) (lv : vs.length ≤ 3000) {t : Int} (ht : I64 t) {n : Nat} (hn : Hid (min ks.length vs.length = n)) {d : Int} (hd : Hid (cntL ks vs n = d)) {T : Int} (hT : Hid (top t = T)) :
    Calls Try.prog 9 #[v, u, .int .i64 t] w fun e w' => e = .returned (uV n d T) ∧ Below w.heap.size w w' := by
  by_cases h : vs.length < ks.length
  · obtain rfl : n = vs.length := by have := hn.out; omega
    exact rof_lt w hk hv lk lv ht h hd hT
  · obtain rfl : n = ks.length := by have := hn.out; omega
    exact rof_ge w hk hv lk lv ht h hd hT
set_option maxRecDepth 100000 in
set_option maxHeartbeats 1000000 in
theorem of_long {v u : Value} {ks vs : List Int} (w : World) (hk : Ins w.heap.size w v ks) (hv : Ins w.heap.size w u vs) (t : Int) (h : 3000 < ks.length ∨ (¬ 3000 < ks.length ∧ 3000 < vs.length)) :
    Calls Try.prog 3 #[v, u, .int .i64 t] w fun e w' => e = .returned (.bool true) ∧ Below w.heap.size w w' := by
  obtain ⟨ka, kc, rfl, hkl⟩ := hk.shape
  obtain ⟨va, vc, rfl, hvl⟩ := hv.shape
  have hml : maxLen = 9223372036854775807 := by decide
  rcases h with h | ⟨h, h'⟩
  · have h1 : decide ((3000 : Int) < ks.length) = true := decide_eq_true (by omega)
    go_enter Try.func3, Try.ntmps3
    go_wp2_with fail
    refine (alive_any _).mono ?_
    rintro e w1 ⟨rfl, hB⟩
    go_wp2
    go_ret
    exact ⟨rfl, hB⟩
  · have h1 : decide ((3000 : Int) < ks.length) = false := decide_eq_false (by omega)
    have h2 : decide ((3000 : Int) < vs.length) = true := decide_eq_true (by omega)
    go_enter Try.func3, Try.ntmps3
    go_wp2_with fail
    refine (alive_any _).mono ?_
    rintro e w1 ⟨rfl, hB⟩
    go_wp2
    go_ret
    exact ⟨rfl, hB⟩
set_option maxRecDepth 100000 in
set_option maxHeartbeats 1000000 in
theorem of_short {v u : Value} {ks vs : List Int} (w : World) (hk : Ins w.heap.size w v ks) (hv : Ins w.heap.size w u vs) {t : Int} (ht : I64 t) (lk : ks.length ≤ 3000) (lv : vs.length ≤ 3000) :
    Calls Try.prog 3 #[v, u, .int .i64 t] w fun e w' => e = .returned (.bool true) ∧ Below w.heap.size w w' := by
  obtain ⟨n, hn⟩ : ∃ n, Hid (min ks.length vs.length = n) := ⟨_, ⟨rfl⟩⟩
  obtain ⟨d, hd⟩ : ∃ d, Hid (cntL ks vs n = d) := ⟨_, ⟨rfl⟩⟩
  obtain ⟨T, hT⟩ : ∃ T, Hid (top t = T) := ⟨_, ⟨rfl⟩⟩
  have f1 : ∀ w1, Below w.heap.size w w1 → _ := fun w1 hB => of_any w1 ((hk.below hB).mono hB.size) ((hv.below hB).mono hB.size) lk lv ht hn hd hT
  have f2 : ∀ w1, Below w.heap.size w w1 → _ := fun w1 hB => rof_any w1 ((hk.below hB).mono hB.size) ((hv.below hB).mono hB.size) lk lv ht hn hd hT
  obtain ⟨ka, kc, rfl, hkl⟩ := hk.shape
  obtain ⟨va, vc, rfl, hvl⟩ := hv.shape
  replace hk := Hid.mk hk
  replace hv := Hid.mk hv
  have h1 : decide ((3000 : Int) < ks.length) = false := decide_eq_false (by omega)
  have h2 : decide ((3000 : Int) < vs.length) = false := decide_eq_false (by omega)
  clear hkl hvl ht
  go_enter Try.func3, Try.ntmps3
  go_wp2_with fail
  refine (alive_any _).mono ?_
  rintro e w1 ⟨rfl, hB⟩
  go_wp2_with fail
  refine (f1 _ hB).mono ?_
  rintro e w2 ⟨rfl, hB2⟩
  replace hB := hB.trans (hB2.mono hB.size)
  go_wp2_with fail
  refine (told_any _ _ _ _).mono ?_
  rintro e w3 ⟨rfl, hB3⟩
  replace hB := hB.trans (hB3.mono hB.size)
  go_wp2_with fail
  refine (f2 _ hB).mono ?_
  rintro e w4 ⟨rfl, hB4⟩
  replace hB := hB.trans (hB4.mono hB.size)
  go_wp2
  go_ret
  exact ⟨by simp, hB⟩
theorem of_walk {v u : Value} {ks vs : List Int} (w : World) (hk : Ins w.heap.size w v ks) (hv : Ins w.heap.size w u vs) {t : Int} (ht : I64 t) :
    Calls Try.prog 3 #[v, u, .int .i64 t] w fun e w' => e = .returned (.bool true) ∧ Below w.heap.size w w' := by
  by_cases h : 3000 < ks.length
  · exact of_long w hk hv t (.inl h)
  · by_cases h2 : 3000 < vs.length
    · exact of_long w hk hv t (.inr ⟨h, h2⟩)
    · exact of_short w hk hv ht (by omega) (by omega)
end Go.Proofs.Ytlnikgejcogkeaa
