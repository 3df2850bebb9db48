/- quota.Put, Drop, Arm, Cancel. -/
import Derived.Test.YtlnikgejcogkeaaWrg
namespace Go.Proofs.Ytlnikgejcogkeaa
open Go.RowKit Go.IntWalk
set_option linter.unusedVariables false
/-- A row of three sizes that has just been laid. -/
theorem ins_new3 (w : World) (a b c : Int) (ha : -9223372036854775808 ≤ a ∧ a < 9223372036854775808) (hb : -9223372036854775808 ≤ b ∧ b < 9223372036854775808) (hc : -9223372036854775808 ≤ c ∧ c < 9223372036854775808) :
    Ins (w.heap.size + 1) (w.alloc (.cells #[.int .i64 a, .int .i64 b, .int .i64 c] 3)) (.slice (some ⟨w.heap.size, 0, none⟩) 3 3) [a, b, c] := by
  have h := heap_new w (.cells #[.int .i64 a, .int .i64 b, .int .i64 c] 3)
  refine ⟨.inr ⟨w.heap.size, 0, 3, rfl, by omega, by simp, by decide, fun j hj => ?_⟩, ?_⟩
  · simp only [World.cell?, h]
    rcases j with _ | _ | _ | j
    · simp
    · simp
    · simp
    · simp at hj; omega
  · simp; omega
/-- A block that lies in w lies in what comes behind it. -/
theorem heap_keep {w w' : World} {o : Obj} {g : Nat} (h : w.heap[g]? = some o) (hB : Below w.heap.size w w') : w'.heap[g]? = some o := (hB.block _ (Array.getElem?_eq_some_iff.1 h).1).trans h
theorem heap_lt {w : World} {o : Obj} {g : Nat} (h : w.heap[g]? = some o) : g < w.heap.size := (Array.getElem?_eq_some_iff.1 h).1
theorem heap_al {w : World} {o : Obj} {g : Nat} (h : w.heap[g]? = some o) (p : Obj) : (w.alloc p).heap[g]? = some o := (Below.heap_alloc w p g (heap_lt h)).trans h
theorem heap_new' (w : World) (o : Obj) {n : Nat} (hn : w.heap.size = n) : (w.alloc o).heap[n]? = some o := by subst hn; exact heap_new w o
theorem ins_new3' {w : World} {n : Nat} (hn : w.heap.size = n) {a b c : Int} (ha : I64 a) (hb : I64 b) (hc : I64 c) :
    Ins (n + 1) (w.alloc (.cells #[.int .i64 a, .int .i64 b, .int .i64 c] 3)) (.slice (some ⟨n, 0, none⟩) 3 3) [a, b, c] := by subst hn; exact ins_new3 w a b c ha hb hc
set_option maxRecDepth 100000 in
set_option maxHeartbeats 1000000 in
/-- quota.Put of a size that is wrong. -/
theorem put_wrong (k r t : Int) (had : Bool) {ky was vl : Int} (h1 : I64 ky) (h2 : I64 was) (h3 : I64 vl) (hb : wrg [ky, was, vl] = true) (w : World) :
    Calls Try.prog 10 #[uV k r t, .bool had, .int .i64 ky, .int .i64 was, .int .i64 vl] w fun e w' => e = .returned (.tuple #[uV 0 0 0, .int .i64 1]) ∧ Below w.heap.size w w' := by
  have hi := ins_new3' (w := (w.alloc (bU k r t)).alloc (bU 0 0 0)) (n := w.heap.size + 1 + 1) (by simp) h1 h2 h3
  have hw := wrong_any _ hi (Hid.mk hb)
  replace hb := Hid.mk hb
  replace hi := Hid.mk hi
  go_enter Try.func10, Try.ntmps10
  go_wp2_with fail
  refine hw.mono ?_
  rintro e w1 ⟨rfl, rfl⟩
  clear hw
  go_wp2
  refine bodyPost_ret (v := .tuple #[uV 0 0 0, .int .i64 1]) (by rw [results_cell_tmp rfl]; go_simp) rfl ?_
  refine ⟨rfl, ?_⟩
  repeat' first | exact Below.refl _ _ | refine Below.setCell ?_ (by simp; try omega) _ | refine Below.alloc ?_ (by simp; try omega) _
theorem cell_keep {w w' : World} {n i : Nat} {v : Value} (h : w.cell? ⟨n, i, none⟩ = some v) (hB : Below w.heap.size w w') : w'.cell? ⟨n, i, none⟩ = some v := (hB.cell (p := ⟨n, i, none⟩) (World.block_lt_of_cell? w _ h)).trans h
theorem six_keep {w w' : World} {n m : Nat} {a b c x y z : Value} (hB : Below w.heap.size w w') (h : w.cell? ⟨n, 0, none⟩ = some a ∧ w.cell? ⟨n, 1, none⟩ = some b ∧ w.cell? ⟨n, 2, none⟩ = some c ∧ w.cell? ⟨m, 0, none⟩ = some x ∧ w.cell? ⟨m, 1, none⟩ = some y ∧ w.cell? ⟨m, 2, none⟩ = some z) :
    w'.cell? ⟨n, 0, none⟩ = some a ∧ w'.cell? ⟨n, 1, none⟩ = some b ∧ w'.cell? ⟨n, 2, none⟩ = some c ∧ w'.cell? ⟨m, 0, none⟩ = some x ∧ w'.cell? ⟨m, 1, none⟩ = some y ∧ w'.cell? ⟨m, 2, none⟩ = some z :=
  ⟨cell_keep h.1 hB, cell_keep h.2.1 hB, cell_keep h.2.2.1 hB, cell_keep h.2.2.2.1 hB, cell_keep h.2.2.2.2.1 hB, cell_keep h.2.2.2.2.2 hB⟩
set_option maxRecDepth 100000 in
set_option maxHeartbeats 4000000 in
/-- quota.Put of a key that had no value. -/
theorem put_new (k r t : Int) {ky was vl : Int} (h1 : I64 ky) (h2 : I64 was) (h3 : I64 vl) (hb : wrg [ky, was, vl] = false) (w : World) {p q s o : Int} (kz0 : 0 ≤ ky) (kz1 : ky ≤ 4000) (wz0 : 0 ≤ was) (wz1 : was ≤ 4000) (vz0 : 0 ≤ vl) (vz1 : vl ≤ 4000)
    (hc : Hid (∀ w1, Calls Try.prog 19 #[uV k r t, uV 0 0 0, uV 1 (ky + vl) 0] w1 fun e w' => e = .returned (.tuple #[uV p q s, .int .i64 o]) ∧ Below w1.heap.size w1 w')) :
    Calls Try.prog 10 #[uV k r t, .bool false, .int .i64 ky, .int .i64 was, .int .i64 vl] w fun e w' => e = .returned (.tuple #[uV p q s, .int .i64 o]) ∧ Below w.heap.size w w' := by
  have hi := ins_new3' (w := (w.alloc (bU k r t)).alloc (bU 0 0 0)) (n := w.heap.size + 1 + 1) (by simp) h1 h2 h3
  have hw := wrong_any _ hi (Hid.mk hb)
  have g0 := heap_al (heap_al (heap_al (heap_new w (bU k r t)) (bU 0 0 0)) (.cells #[.int .i64 ky, .int .i64 was, .int .i64 vl] 3)) (bU 0 0 0)
  have g1 := heap_al (heap_al (heap_new' (w.alloc (bU k r t)) (bU 0 0 0) (n := w.heap.size + 1) (by simp)) (.cells #[.int .i64 ky, .int .i64 was, .int .i64 vl] 3)) (bU 0 0 0)
  have g3 := heap_new' (((w.alloc (bU k r t)).alloc (bU 0 0 0)).alloc (.cells #[.int .i64 ky, .int .i64 was, .int .i64 vl] 3)) (bU 0 0 0) (n := w.heap.size + 1 + 1 + 1) (by simp)
  have gb : Below w.heap.size w ((((w.alloc (bU k r t)).alloc (bU 0 0 0)).alloc (.cells #[.int .i64 ky, .int .i64 was, .int .i64 vl] 3)).alloc (bU 0 0 0)) := (((((Below.refl _ _).alloc (Nat.le_refl _) _).alloc (by simp) _).alloc (by simp; omega) _).alloc (by simp; omega) _)
  replace hb := Hid.mk hb
  replace hi := Hid.mk hi
  replace g0 := Hid.mk g0
  replace g1 := Hid.mk g1
  replace g3 := Hid.mk g3
  replace gb := Hid.mk gb
  go_enter Try.func10, Try.ntmps10
  go_wp2_with fail
  refine hw.mono ?_
  rintro e w1 ⟨rfl, rfl⟩
  clear hw
  go_wp2_with fail
  generalize (((w.alloc (bU k r t)).alloc (bU 0 0 0)).alloc (.cells #[.int .i64 ky, .int .i64 was, .int .i64 vl] 3)).alloc (bU 0 0 0) = w0 at *
  obtain ⟨c0, c1, c2, f0⟩ := own3 g0.out
  obtain ⟨d0, d1, d2, f1⟩ := own3 g1.out
  obtain ⟨e0, e1, e2, f3⟩ := own3 g3.out
  have he := fun w1 => entry_any ky vl kz0 kz1 vz0 vz1 w1
  go_region_held3 (fun w' => w'.cell? ⟨w.heap.size, 0, none⟩ = some (.int .i64 k) ∧ w'.cell? ⟨w.heap.size, 1, none⟩ = some (.int .i64 r) ∧ w'.cell? ⟨w.heap.size, 2, none⟩ = some (.int .i64 t) ∧ w'.cell? ⟨w.heap.size + 1 + 1 + 1, 0, none⟩ = some (.int .i64 0) ∧ w'.cell? ⟨w.heap.size + 1 + 1 + 1, 1, none⟩ = some (.int .i64 0) ∧ w'.cell? ⟨w.heap.size + 1 + 1 + 1, 2, none⟩ = some (.int .i64 0))
    (first
      | go_keep
      | exact hS2
      | exact hS3)
    (first
      | (go_at_call 18
         refine (he _).mono ?_
         rintro e w2 ⟨rfl, hB2⟩
         have q2 := heap_keep (w := w0.drew) (o := bU 0 0 0) (g := w.heap.size + 1) g1.out hB2
         have hS2 := six_keep hB2 (by assumption))
      | (go_at_call 19
         refine (hc.out _).mono ?_
         rintro e w3 ⟨rfl, hB3⟩
         have q3 := heap_keep (w := w2) (o := bU 0 0 0) (g := w.heap.size + 1) q2 hB3
         have hS3 := six_keep hB3 hS2
         obtain ⟨d0, d1, d2, f1⟩ := own3 q3))
  have l1 := heap_lt g3.out
  have s2 : w0.heap.size ≤ w2.heap.size := hB2.size
  have sd : w0.drew.heap.size = w0.heap.size := rfl
  have b3 : Below w.heap.size w w3 := (gb.out.trans ((Below.refl _ w0).drew.trans (hB2.mono (by omega)))).trans (hB3.mono (by omega))
  clear c0 c1 c2 f0 e0 e1 e2 f3 g0 g1 g3 gb hc he hB2 hB3 q2 q3 hS2
  go_wp2
  refine bodyPost_ret (v := .tuple #[uV p q s, .int .i64 o]) (by rw [results_cell_tmp rfl]; go_simp) rfl ?_
  refine ⟨rfl, ?_⟩
  repeat' first | exact b3 | refine Below.setCell ?_ (by simp) _
set_option maxRecDepth 100000 in
set_option maxHeartbeats 4000000 in
/-- quota.Put of a key that had one. -/
theorem put_old (k r t : Int) {ky was vl : Int} (h1 : I64 ky) (h2 : I64 was) (h3 : I64 vl) (hb : wrg [ky, was, vl] = false) (w : World) {p q s o : Int} (kz0 : 0 ≤ ky) (kz1 : ky ≤ 4000) (wz0 : 0 ≤ was) (wz1 : was ≤ 4000) (vz0 : 0 ≤ vl) (vz1 : vl ≤ 4000)
    (hc : Hid (∀ w1, Calls Try.prog 19 #[uV k r t, uV 1 (ky + was) 0, uV 1 (ky + vl) 0] w1 fun e w' => e = .returned (.tuple #[uV p q s, .int .i64 o]) ∧ Below w1.heap.size w1 w')) :
    Calls Try.prog 10 #[uV k r t, .bool true, .int .i64 ky, .int .i64 was, .int .i64 vl] w fun e w' => e = .returned (.tuple #[uV p q s, .int .i64 o]) ∧ Below w.heap.size w w' := by
  have hi := ins_new3' (w := (w.alloc (bU k r t)).alloc (bU 0 0 0)) (n := w.heap.size + 1 + 1) (by simp) h1 h2 h3
  have hw := wrong_any _ hi (Hid.mk hb)
  have g0 := heap_al (heap_al (heap_al (heap_new w (bU k r t)) (bU 0 0 0)) (.cells #[.int .i64 ky, .int .i64 was, .int .i64 vl] 3)) (bU 0 0 0)
  have g1 := heap_al (heap_al (heap_new' (w.alloc (bU k r t)) (bU 0 0 0) (n := w.heap.size + 1) (by simp)) (.cells #[.int .i64 ky, .int .i64 was, .int .i64 vl] 3)) (bU 0 0 0)
  have g3 := heap_new' (((w.alloc (bU k r t)).alloc (bU 0 0 0)).alloc (.cells #[.int .i64 ky, .int .i64 was, .int .i64 vl] 3)) (bU 0 0 0) (n := w.heap.size + 1 + 1 + 1) (by simp)
  have gb : Below w.heap.size w ((((w.alloc (bU k r t)).alloc (bU 0 0 0)).alloc (.cells #[.int .i64 ky, .int .i64 was, .int .i64 vl] 3)).alloc (bU 0 0 0)) := (((((Below.refl _ _).alloc (Nat.le_refl _) _).alloc (by simp) _).alloc (by simp; omega) _).alloc (by simp; omega) _)
  replace hb := Hid.mk hb
  replace hi := Hid.mk hi
  replace g0 := Hid.mk g0
  replace g1 := Hid.mk g1
  replace g3 := Hid.mk g3
  replace gb := Hid.mk gb
  go_enter Try.func10, Try.ntmps10
  go_wp2_with fail
  refine hw.mono ?_
  rintro e w1 ⟨rfl, rfl⟩
  clear hw
  go_wp2_with fail
  generalize (((w.alloc (bU k r t)).alloc (bU 0 0 0)).alloc (.cells #[.int .i64 ky, .int .i64 was, .int .i64 vl] 3)).alloc (bU 0 0 0) = wa at *
  refine (entry_any ky was kz0 kz1 wz0 wz1 _).mono ?_
  rintro e wb ⟨rfl, hBa⟩
  have sa := hBa.size
  have l1 := heap_lt g3.out
  replace g0 := Hid.mk (heap_keep g0.out hBa)
  replace g1 := Hid.mk (heap_keep g1.out hBa)
  have g3' := heap_keep g3.out hBa
  replace gb := Hid.mk (gb.out.trans (hBa.mono (by omega)))
  clear g3
  go_wp2_with (first | (refine wpList_store3 rfl _ _ rfl rfl _ 1 (ky + was) 0 rfl rfl g3' ?_; intro w0 g3 hg2) | fail)
  replace g0 := Hid.mk ((hg2.block _ (heap_lt g0.out) (by simp; omega)).trans g0.out)
  replace g1 := Hid.mk ((hg2.block _ (heap_lt g1.out) (by simp)).trans g1.out)
  replace gb := Hid.mk (below_store gb.out hg2 (by omega) (by omega))
  replace g3 := Hid.mk g3
  clear hg2 g3' hBa sa l1
  obtain ⟨c0, c1, c2, f0⟩ := own3 g0.out
  obtain ⟨d0, d1, d2, f1⟩ := own3 g1.out
  obtain ⟨e0, e1, e2, f3⟩ := own3 g3.out
  have he := fun w1 => entry_any ky vl kz0 kz1 vz0 vz1 w1
  go_region_held3 (fun w' => w'.cell? ⟨w.heap.size, 0, none⟩ = some (.int .i64 k) ∧ w'.cell? ⟨w.heap.size, 1, none⟩ = some (.int .i64 r) ∧ w'.cell? ⟨w.heap.size, 2, none⟩ = some (.int .i64 t) ∧ w'.cell? ⟨w.heap.size + 1 + 1 + 1, 0, none⟩ = some (.int .i64 1) ∧ w'.cell? ⟨w.heap.size + 1 + 1 + 1, 1, none⟩ = some (.int .i64 (ky + was)) ∧ w'.cell? ⟨w.heap.size + 1 + 1 + 1, 2, none⟩ = some (.int .i64 0))
    (first
      | go_keep
      | exact hS2
      | exact hS3)
    (first
      | (go_at_call 18
         refine (he _).mono ?_
         rintro e w2 ⟨rfl, hB2⟩
         have q2 := heap_keep (w := w0.drew) (o := bU 0 0 0) (g := w.heap.size + 1) g1.out hB2
         have hS2 := six_keep hB2 (by assumption))
      | (go_at_call 19
         refine (hc.out _).mono ?_
         rintro e w3 ⟨rfl, hB3⟩
         have q3 := heap_keep (w := w2) (o := bU 0 0 0) (g := w.heap.size + 1) q2 hB3
         have hS3 := six_keep hB3 hS2
         obtain ⟨d0, d1, d2, f1⟩ := own3 q3))
  have l1 := heap_lt g3.out
  have s2 : w0.heap.size ≤ w2.heap.size := hB2.size
  have sd : w0.drew.heap.size = w0.heap.size := rfl
  have b3 : Below w.heap.size w w3 := (gb.out.trans ((Below.refl _ w0).drew.trans (hB2.mono (by omega)))).trans (hB3.mono (by omega))
  clear c0 c1 c2 f0 e0 e1 e2 f3 g0 g1 g3 gb hc he hB2 hB3 q2 q3 hS2
  go_wp2
  refine bodyPost_ret (v := .tuple #[uV p q s, .int .i64 o]) (by rw [results_cell_tmp rfl]; go_simp) rfl ?_
  refine ⟨rfl, ?_⟩
  repeat' first | exact b3 | refine Below.setCell ?_ (by simp) _
end Go.Proofs.Ytlnikgejcogkeaa
