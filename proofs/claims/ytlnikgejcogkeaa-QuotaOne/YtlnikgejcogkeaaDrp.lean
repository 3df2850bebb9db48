/- quota.Drop, Arm, Cancel; and all changes in the words of one plain error. -/
import Derived.Test.YtlnikgejcogkeaaPut
namespace Go.Proofs.Ytlnikgejcogkeaa
open Go.RowKit Go.IntWalk
set_option linter.unusedVariables false
theorem ins_new2' {w : World} {n : Nat} (hn : w.heap.size = n) {a b : Int} (ha : I64 a) (hb : I64 b) :
    Ins (n + 1) (w.alloc (.cells #[.int .i64 a, .int .i64 b] 3)) (.slice (some ⟨n, 0, none⟩) 2 2) [a, b] := by
  subst hn
  have h := heap_new w (.cells #[.int .i64 a, .int .i64 b] 3)
  refine ⟨.inr ⟨w.heap.size, 0, 2, rfl, by omega, by simp, by decide, fun j hj => ?_⟩, ?_⟩
  · simp only [World.cell?, h]
    rcases j with _ | _ | j
    · simp
    · simp
    · simp at hj; omega
  · simp; exact ⟨ha, hb⟩
theorem three_keep {w w' : World} {n : Nat} {a b c : Value} (hB : Below w.heap.size w w') (h : w.cell? ⟨n, 0, none⟩ = some a ∧ w.cell? ⟨n, 1, none⟩ = some b ∧ w.cell? ⟨n, 2, none⟩ = some c) :
    w'.cell? ⟨n, 0, none⟩ = some a ∧ w'.cell? ⟨n, 1, none⟩ = some b ∧ w'.cell? ⟨n, 2, none⟩ = some c := ⟨cell_keep h.1 hB, cell_keep h.2.1 hB, cell_keep h.2.2 hB⟩
set_option maxRecDepth 100000 in
set_option maxHeartbeats 1000000 in
/-- quota.Drop of a size that is wrong. -/
theorem drop_wrong (k r t : Int) {ky was : Int} (h1 : I64 ky) (h2 : I64 was) (hb : wrg [ky, was] = true) (w : World) :
    Calls Try.prog 11 #[uV k r t, .int .i64 ky, .int .i64 was] w fun e w' => e = .returned (.tuple #[uV 0 0 0, .int .i64 1]) ∧ Below w.heap.size w w' := by
  have hi := ins_new2' (w := (w.alloc (bU k r t)).alloc (bU 0 0 0)) (n := w.heap.size + 1 + 1) (by simp) h1 h2
  have hw := wrong_any _ hi (Hid.mk hb)
  replace hb := Hid.mk hb
  replace hi := Hid.mk hi
  go_enter Try.func11, Try.ntmps11
  go_wp2_with fail
  refine hw.mono ?_
  rintro e w1 ⟨rfl, rfl⟩
  clear hw
  go_wp2
  refine bodyPost_ret (v := .tuple #[uV 0 0 0, .int .i64 1]) (by rw [results_cell_tmp rfl]; go_simp) rfl ?_
  refine ⟨rfl, ?_⟩
  repeat' first | exact Below.refl _ _ | refine Below.setCell ?_ (by simp; try omega) _ | refine Below.alloc ?_ (by simp; try omega) _
set_option maxRecDepth 100000 in
set_option maxHeartbeats 4000000 in
/-- quota.Drop. -/
theorem drop_some (k r t : Int) {ky was : Int} (h1 : I64 ky) (h2 : I64 was) (hb : wrg [ky, was] = false) (w : World) {p q s o : Int} (kz0 : 0 ≤ ky) (kz1 : ky ≤ 4000) (wz0 : 0 ≤ was) (wz1 : was ≤ 4000)
    (hc : Hid (∀ w1, Calls Try.prog 19 #[uV k r t, uV 1 (ky + was) 0, uV 0 0 0] w1 fun e w' => e = .returned (.tuple #[uV p q s, .int .i64 o]) ∧ Below w1.heap.size w1 w')) :
    Calls Try.prog 11 #[uV k r t, .int .i64 ky, .int .i64 was] w fun e w' => e = .returned (.tuple #[uV p q s, .int .i64 o]) ∧ Below w.heap.size w w' := by
  have hi := ins_new2' (w := (w.alloc (bU k r t)).alloc (bU 0 0 0)) (n := w.heap.size + 1 + 1) (by simp) h1 h2
  have hw := wrong_any _ hi (Hid.mk hb)
  have g0 := heap_al (heap_al (heap_new w (bU k r t)) (bU 0 0 0)) (.cells #[.int .i64 ky, .int .i64 was] 3)
  have g1 := heap_al (heap_new' (w.alloc (bU k r t)) (bU 0 0 0) (n := w.heap.size + 1) (by simp)) (.cells #[.int .i64 ky, .int .i64 was] 3)
  have gb : Below w.heap.size w (((w.alloc (bU k r t)).alloc (bU 0 0 0)).alloc (.cells #[.int .i64 ky, .int .i64 was] 3)) := ((((Below.refl _ _).alloc (Nat.le_refl _) _).alloc (by simp) _).alloc (by simp; omega) _)
  replace hb := Hid.mk hb
  replace hi := Hid.mk hi
  replace g0 := Hid.mk g0
  replace g1 := Hid.mk g1
  replace gb := Hid.mk gb
  go_enter Try.func11, Try.ntmps11
  go_wp2_with fail
  refine hw.mono ?_
  rintro e w1 ⟨rfl, rfl⟩
  clear hw
  go_wp2_with fail
  generalize ((w.alloc (bU k r t)).alloc (bU 0 0 0)).alloc (.cells #[.int .i64 ky, .int .i64 was] 3) = w0 at *
  obtain ⟨c0, c1, c2, f0⟩ := own3 g0.out
  obtain ⟨d0, d1, d2, f1⟩ := own3 g1.out
  have he := fun w1 => entry_any ky was kz0 kz1 wz0 wz1 w1
  go_region_held3 (fun w' => w'.cell? ⟨w.heap.size, 0, none⟩ = some (.int .i64 k) ∧ w'.cell? ⟨w.heap.size, 1, none⟩ = some (.int .i64 r) ∧ w'.cell? ⟨w.heap.size, 2, none⟩ = some (.int .i64 t))
    (first
      | go_keep
      | exact hS2
      | exact hS3)
    (first
      | (go_at_call 18
         refine (he _).mono ?_
         rintro e w2 ⟨rfl, hB2⟩
         have q2 := heap_keep (w := w0.drew) (o := bU 0 0 0) (g := w.heap.size + 1) g1.out hB2
         have hS2 := three_keep hB2 (by assumption))
      | (go_at_call 19
         refine (hc.out _).mono ?_
         rintro e w3 ⟨rfl, hB3⟩
         have q3 := heap_keep (w := w2) (o := bU 0 0 0) (g := w.heap.size + 1) q2 hB3
         have hS3 := three_keep hB3 hS2
         obtain ⟨d0, d1, d2, f1⟩ := own3 q3))
  have l1 := heap_lt g1.out
  have s2 : w0.heap.size ≤ w2.heap.size := hB2.size
  have sd : w0.drew.heap.size = w0.heap.size := rfl
  have b3 : Below w.heap.size w w3 := (gb.out.trans ((Below.refl _ w0).drew.trans (hB2.mono (by omega)))).trans (hB3.mono (by omega))
  clear c0 c1 c2 f0 g0 g1 gb hc he hB2 hB3 q2 q3 hS2
  go_wp2
  refine bodyPost_ret (v := .tuple #[uV p q s, .int .i64 o]) (by rw [results_cell_tmp rfl]; go_simp) rfl ?_
  refine ⟨rfl, ?_⟩
  repeat' first | exact b3 | refine Below.setCell ?_ (by simp) _
set_option maxRecDepth 100000 in
set_option maxHeartbeats 4000000 in
/-- quota.Cancel. -/
theorem cancel_some (k r t : Int) (w : World) {p q s o : Int}
    (hc : Hid (∀ w1, Calls Try.prog 19 #[uV k r t, uV 0 0 1, uV 0 0 0] w1 fun e w' => e = .returned (.tuple #[uV p q s, .int .i64 o]) ∧ Below w1.heap.size w1 w')) :
    Calls Try.prog 14 #[uV k r t] w fun e w' => e = .returned (.tuple #[uV p q s, .int .i64 o]) ∧ Below w.heap.size w w' := by
  have g1 := heap_new' (w.alloc (bU k r t)) (bU 0 0 0) (n := w.heap.size + 1) (by simp)
  have gb : Below w.heap.size w ((w.alloc (bU k r t)).alloc (bU 0 0 0)) := ((Below.refl _ _).alloc (Nat.le_refl _) _).alloc (by simp) _
  replace g1 := Hid.mk g1
  replace gb := Hid.mk gb
  go_enter Try.func14, Try.ntmps14
  go_wp2_with fail
  refine (hc.out _).mono ?_
  rintro e w3 ⟨rfl, hB3⟩
  have q3 := heap_keep g1.out hB3
  have b3 := gb.out.trans (hB3.mono (by simp; omega))
  have l1 := heap_lt q3
  obtain ⟨d0, d1, d2, f1⟩ := own3 q3
  clear hB3 q3 g1 gb hc
  go_wp2
  refine bodyPost_ret (v := .tuple #[uV p q s, .int .i64 o]) (by rw [results_cell_tmp rfl]; go_simp) rfl ?_
  refine ⟨rfl, ?_⟩
  repeat' first | exact b3 | refine Below.setCell ?_ (by simp) _
set_option maxRecDepth 100000 in
set_option maxHeartbeats 4000000 in
/-- quota.Arm. -/
theorem arm_some (k r t : Int) (had : Bool) (w : World) {p q s o v : Int} (hv : (had = true ∧ v = 1) ∨ (had = false ∧ v = 0))
    (hc : Hid (∀ w1, Calls Try.prog 19 #[uV k r t, uV 0 0 v, uV 0 0 1] w1 fun e w' => e = .returned (.tuple #[uV p q s, .int .i64 o]) ∧ Below w1.heap.size w1 w')) :
    Calls Try.prog 13 #[uV k r t, .bool had] w fun e w' => e = .returned (.tuple #[uV p q s, .int .i64 o]) ∧ Below w.heap.size w w' := by
  have g1 := heap_al (heap_new' (w.alloc (bU k r t)) (bU 0 0 0) (n := w.heap.size + 1) (by simp)) (bU 0 0 0)
  have g2 := heap_new' ((w.alloc (bU k r t)).alloc (bU 0 0 0)) (bU 0 0 0) (n := w.heap.size + 1 + 1) (by simp)
  have g0 := heap_al (heap_al (heap_new w (bU k r t)) (bU 0 0 0)) (bU 0 0 0)
  have gb : Below w.heap.size w (((w.alloc (bU k r t)).alloc (bU 0 0 0)).alloc (bU 0 0 0)) := ((((Below.refl _ _).alloc (Nat.le_refl _) _).alloc (by simp) _).alloc (by simp; omega) _)
  replace g1 := Hid.mk g1
  replace gb := Hid.mk gb
  replace g0 := Hid.mk g0
  rcases hv with ⟨rfl, rfl⟩ | ⟨rfl, rfl⟩
  · go_enter Try.func13, Try.ntmps13
    go_wp2_with (first | (refine wpList_store3 rfl _ _ rfl rfl _ 0 0 1 rfl rfl g2 ?_; intro w0 g3 hg2; obtain ⟨e0, e1, e2, f3⟩ := own3 g3; obtain ⟨c0, c1, c2, f0⟩ := own3 ((hg2.block _ (heap_lt g0.out) (by simp; omega)).trans g0.out)) | fail)
    replace g1 := Hid.mk ((hg2.block _ (heap_lt g1.out) (by simp)).trans g1.out)
    replace gb := Hid.mk (below_store gb.out hg2 (by omega) (by simp; omega))
    refine (hc.out _).mono ?_
    rintro e w3 ⟨rfl, hB3⟩
    have q3 := heap_keep g1.out hB3
    have l2 := heap_lt g3
    have b3 := gb.out.trans (hB3.mono (by omega))
    have l1 := heap_lt q3
    clear c0 c1 c2 f0 e0 e1 e2 f3
    obtain ⟨d0, d1, d2, f1⟩ := own3 q3
    clear hB3 q3 g1 gb hc g3 hg2 g0 g2
    go_wp2
    refine bodyPost_ret (v := .tuple #[uV p q s, .int .i64 o]) (by rw [results_cell_tmp rfl]; go_simp) rfl ?_
    refine ⟨rfl, ?_⟩
    repeat' first | exact b3 | refine Below.setCell ?_ (by simp) _
  · go_enter Try.func13, Try.ntmps13
    go_wp2_with fail
    refine (hc.out _).mono ?_
    rintro e w3 ⟨rfl, hB3⟩
    have q3 := heap_keep g1.out hB3
    have b3 := gb.out.trans (hB3.mono (by simp; omega))
    have l1 := heap_lt q3
    obtain ⟨d0, d1, d2, f1⟩ := own3 q3
    clear hB3 q3 g1 gb hc g0 g2
    go_wp2
    refine bodyPost_ret (v := .tuple #[uV p q s, .int .i64 o]) (by rw [results_cell_tmp rfl]; go_simp) rfl ?_
    refine ⟨rfl, ?_⟩
    repeat' first | exact b3 | refine Below.setCell ?_ (by simp) _
end Go.Proofs.Ytlnikgejcogkeaa
