/- quota.Of. -/
import Derived.Test.YtlnikgejcogkeaaCnt
namespace Go.Proofs.Ytlnikgejcogkeaa
open Go.RowKit Go.IntWalk
set_option linter.unusedVariables false
/-- So many timers, as far as they are counted. -/
def top (t : Int) : Int := if t < 0 then 0 else if 2147483647 < t then 2147483647 else t
theorem getD_mem {zs : List Int} {k : Nat} (h : k < zs.length) : zs[k]?.getD 0 ∈ zs := by
  rw [List.getElem?_eq_getElem h]
  exact List.getElem_mem _
set_option maxRecDepth 100000 in
set_option maxHeartbeats 4000000 in
theorem of_lt {v u : Value} {ks vs : List Int} (w : World) (hk : Ins w.heap.size w v ks) (hv : Ins w.heap.size w u vs) (lk : ks.length ≤ 3000) (lv : vs.length ≤ 3000) {t : Int} (ht : I64 t) (h : vs.length < ks.length) {d : Int} (hd : Hid (cntL ks vs vs.length = d)) {T : Int} (hT : Hid (top t = T)) :
    Calls Try.prog 8 #[v, u, .int .i64 t] w fun e w' => e = .returned (uV vs.length d T) ∧ Below w.heap.size w w' := by
  obtain ⟨ka, kc, rfl, hkl⟩ := hk.shape
  obtain ⟨va, vc, rfl, hvl⟩ := hv.shape
  clear hkl hvl
  obtain ⟨ht0, ht1⟩ := ht
  go_enter Try.func8, Try.ntmps8
  go_wp2
  go_loopw [8, 16] (fun cv i wr => ∃ (k : Nat) (c : Int), k ≤ vs.length ∧ i = .int .i64 k ∧ cv = .int .i64 c ∧ Hid (cntL ks vs k = c) ∧ Hid (wr.heap[w.heap.size]? = some (bU 0 0 0)) ∧ Below w.heap.size w wr) (fun _ i _ => (vs.length - intOf i).toNat)
  case atStart => exact ⟨0, 0, by omega, rfl, rfl, ⟨rfl⟩, ⟨heap_new w _⟩, (Below.refl _ _).alloc (Nat.le_refl _) _⟩
  case round =>
    obtain ⟨k, c, hkn, rfl, rfl, hc, hq, hB⟩ := hrel
    by_cases hlt : k < vs.length
    · have hk1 : k < ks.length := by omega
      have hv1 : k < vs.length := by omega
      obtain ⟨kb, ko, rfl, hkb, hkc⟩ := (hk.below hB).at hk1
      obtain ⟨vb, vo, rfl, hvb, hvc⟩ := (hv.below hB).at hv1
      have hz1 : I64 (ks[k]?.getD 0) := hk.2 _ (getD_mem hk1)
      have hz2 : I64 (vs[k]?.getD 0) := hv.2 _ (getD_mem hv1)
      have hnx : Hid (cntL ks vs (k + 1) = cnt1 (cnt1 c (ks[k]?.getD 0)) (vs[k]?.getD 0)) := ⟨by rw [← hc.out]; rfl⟩
      have hcb : 0 ≤ c ∧ c ≤ 2147483647 := by rw [← hc.out]; exact cntL_bd _ _ _
      generalize (ks[k]?.getD 0) = x at *
      generalize (vs[k]?.getD 0) = y at *
      have hi := ins_new2' (w := wr.drew) (n := wr.heap.size) rfl hz1 hz2
      have hcc := count_any (n₀ := wr.heap.size + 1) (wr.drew.alloc (.cells #[.int .i64 x, .int .i64 y] 3)) (by simp) hi hcb (d := cnt1 (cnt1 c x) y) ⟨rfl⟩
      obtain ⟨m, hm⟩ : ∃ m, cnt1 (cnt1 c x) y = m := ⟨_, rfl⟩
      rw [hm] at hcc
      replace hnx : Hid (cntL ks vs (k + 1) = m) := ⟨hnx.out.trans hm⟩
      clear hi hz1 hz2 hm hcb
      replace hk := Hid.mk hk
      replace hv := Hid.mk hv
      go_wp2_with fail
      go_region_held3 (fun w' => w'.cell? ⟨kb, ko + k, none⟩ = some (.int .i64 x) ∧ w'.cell? ⟨vb, vo + k, none⟩ = some (.int .i64 y))
        (first
          | go_keep
          | exact hS2)
        (first
          | (go_at_call 15
             refine hcc.mono ?_
             rintro e w2 ⟨rfl, hB2⟩
             have hS2 := (⟨cell_keep (w := wr.drew.alloc (.cells #[.int .i64 x, .int .i64 y] 3)) (by go_simp) hB2, cell_keep (w := wr.drew.alloc (.cells #[.int .i64 x, .int .i64 y] 3)) (by go_simp) hB2⟩ : w2.cell? ⟨kb, ko + k, none⟩ = some (.int .i64 x) ∧ w2.cell? ⟨vb, vo + k, none⟩ = some (.int .i64 y))))
      have hqn := heap_keep (heap_al (w := wr.drew) hq.out (.cells #[.int .i64 x, .int .i64 y] 3)) hB2
      have sz := hB.size
      have hBn : Below w.heap.size w w2 := hB.trans (((Below.refl _ wr).drew.alloc (by exact sz) _).trans (hB2.mono (by simp; show w.heap.size ≤ wr.heap.size + 1; omega)))
      clear hB2 hcc hq hB hS2 hkc hvc
      go_wp2
      go_roundw
      case rel => exact ⟨k + 1, m, by omega, by go_num, rfl, hnx, ⟨hqn⟩, hBn⟩
      case measure => simp [intOf]; omega
    · obtain rfl : k = vs.length := by omega
      obtain rfl : c = d := by rw [← hc.out, hd.out]
      obtain ⟨q0, q1, q2, qf⟩ := own3 hq.out
      go_wp2
      all_goals
        have hT' := hT.out
        unfold top at hT'
        repeat' split at hT'
        all_goals first | omega | skip
      all_goals
        subst hT'
        refine bodyPost_ret (v := uV vs.length c _) (by rw [results_cell1 rfl]; go_simp; rfl) rfl ?_
        refine ⟨rfl, ?_⟩
        exact ((hB.setCell (by simp) _).setCell (by simp) _).setCell (by simp) _
set_option maxRecDepth 100000 in
set_option maxHeartbeats 4000000 in
theorem of_ge {v u : Value} {ks vs : List Int} (w : World) (hk : Ins w.heap.size w v ks) (hv : Ins w.heap.size w u vs) (lk : ks.length ≤ 3000) (lv : vs.length ≤ 3000) {t : Int} (ht : I64 t) (h : ¬ vs.length < ks.length) {d : Int} (hd : Hid (cntL ks vs ks.length = d)) {T : Int} (hT : Hid (top t = T)) :
    Calls Try.prog 8 #[v, u, .int .i64 t] w fun e w' => e = .returned (uV ks.length d T) ∧ Below w.heap.size w w' := by
  obtain ⟨ka, kc, rfl, hkl⟩ := hk.shape
  obtain ⟨va, vc, rfl, hvl⟩ := hv.shape
  clear hkl hvl
  obtain ⟨ht0, ht1⟩ := ht
  go_enter Try.func8, Try.ntmps8
  go_wp2
  go_loopw [8, 16] (fun cv i wr => ∃ (k : Nat) (c : Int), k ≤ ks.length ∧ i = .int .i64 k ∧ cv = .int .i64 c ∧ Hid (cntL ks vs k = c) ∧ Hid (wr.heap[w.heap.size]? = some (bU 0 0 0)) ∧ Below w.heap.size w wr) (fun _ i _ => (ks.length - intOf i).toNat)
  case atStart => exact ⟨0, 0, by omega, rfl, rfl, ⟨rfl⟩, ⟨heap_new w _⟩, (Below.refl _ _).alloc (Nat.le_refl _) _⟩
  case round =>
    obtain ⟨k, c, hkn, rfl, rfl, hc, hq, hB⟩ := hrel
    by_cases hlt : k < ks.length
    · have hk1 : k < ks.length := by omega
      have hv1 : k < vs.length := by omega
      obtain ⟨kb, ko, rfl, hkb, hkc⟩ := (hk.below hB).at hk1
      obtain ⟨vb, vo, rfl, hvb, hvc⟩ := (hv.below hB).at hv1
      have hz1 : I64 (ks[k]?.getD 0) := hk.2 _ (getD_mem hk1)
      have hz2 : I64 (vs[k]?.getD 0) := hv.2 _ (getD_mem hv1)
      have hnx : Hid (cntL ks vs (k + 1) = cnt1 (cnt1 c (ks[k]?.getD 0)) (vs[k]?.getD 0)) := ⟨by rw [← hc.out]; rfl⟩
      have hcb : 0 ≤ c ∧ c ≤ 2147483647 := by rw [← hc.out]; exact cntL_bd _ _ _
      generalize (ks[k]?.getD 0) = x at *
      generalize (vs[k]?.getD 0) = y at *
      have hi := ins_new2' (w := wr.drew) (n := wr.heap.size) rfl hz1 hz2
      have hcc := count_any (n₀ := wr.heap.size + 1) (wr.drew.alloc (.cells #[.int .i64 x, .int .i64 y] 3)) (by simp) hi hcb (d := cnt1 (cnt1 c x) y) ⟨rfl⟩
      obtain ⟨m, hm⟩ : ∃ m, cnt1 (cnt1 c x) y = m := ⟨_, rfl⟩
      rw [hm] at hcc
      replace hnx : Hid (cntL ks vs (k + 1) = m) := ⟨hnx.out.trans hm⟩
      clear hi hz1 hz2 hm hcb
      replace hk := Hid.mk hk
      replace hv := Hid.mk hv
      go_wp2_with fail
      go_region_held3 (fun w' => w'.cell? ⟨kb, ko + k, none⟩ = some (.int .i64 x) ∧ w'.cell? ⟨vb, vo + k, none⟩ = some (.int .i64 y))
        (first
          | go_keep
          | exact hS2)
        (first
          | (go_at_call 15
             refine hcc.mono ?_
             rintro e w2 ⟨rfl, hB2⟩
             have hS2 := (⟨cell_keep (w := wr.drew.alloc (.cells #[.int .i64 x, .int .i64 y] 3)) (by go_simp) hB2, cell_keep (w := wr.drew.alloc (.cells #[.int .i64 x, .int .i64 y] 3)) (by go_simp) hB2⟩ : w2.cell? ⟨kb, ko + k, none⟩ = some (.int .i64 x) ∧ w2.cell? ⟨vb, vo + k, none⟩ = some (.int .i64 y))))
      have hqn := heap_keep (heap_al (w := wr.drew) hq.out (.cells #[.int .i64 x, .int .i64 y] 3)) hB2
      have sz := hB.size
      have hBn : Below w.heap.size w w2 := hB.trans (((Below.refl _ wr).drew.alloc (by exact sz) _).trans (hB2.mono (by simp; show w.heap.size ≤ wr.heap.size + 1; omega)))
      clear hB2 hcc hq hB hS2 hkc hvc
      go_wp2
      go_roundw
      case rel => exact ⟨k + 1, m, by omega, by go_num, rfl, hnx, ⟨hqn⟩, hBn⟩
      case measure => simp [intOf]; omega
    · obtain rfl : k = ks.length := by omega
      obtain rfl : c = d := by rw [← hc.out, hd.out]
      obtain ⟨q0, q1, q2, qf⟩ := own3 hq.out
      go_wp2
      all_goals
        have hT' := hT.out
        unfold top at hT'
        repeat' split at hT'
        all_goals first | omega | skip
      all_goals
        subst hT'
        refine bodyPost_ret (v := uV ks.length c _) (by rw [results_cell1 rfl]; go_simp; rfl) rfl ?_
        refine ⟨rfl, ?_⟩
        exact ((hB.setCell (by simp) _).setCell (by simp) _).setCell (by simp) _
/-- quota.Of. -/
theorem of_any {v u : Value} {ks vs : List Int} (w : World) (hk : Ins w.heap.size w v ks) (hv : Ins w.heap.size w u vs) (lk : ks.length ≤ 3000) (lv : vs.length ≤ 3000) {t : Int} (ht : I64 t) {n : Nat} (hn : Hid (min ks.length vs.length = n)) {d : Int} (hd : Hid (cntL ks vs n = d)) {T : Int} (hT : Hid (top t = T)) :
    Calls Try.prog 8 #[v, u, .int .i64 t] w fun e w' => e = .returned (uV n d T) ∧ Below w.heap.size w w' := by
  by_cases h : vs.length < ks.length
  · obtain rfl : n = vs.length := by have := hn.out; omega
    exact of_lt w hk hv lk lv ht h hd hT
  · obtain rfl : n = ks.length := by have := hn.out; omega
    exact of_ge w hk hv lk lv ht h hd hT
end Go.Proofs.Ytlnikgejcogkeaa
