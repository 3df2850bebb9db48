/- The walk of QuotaBack: whatever the use and the sizes, it answers true, and nothing that lay in memory has turned. -/
import Derived.Test.YtlnikgejcogkeaaAns
namespace Go.Proofs.Ytlnikgejcogkeaa
open Go.RowKit Go.IntWalk
set_option linter.unusedVariables false
abbrev sV (k r t : Int) : Value := .agg #[.int .i64 k, .int .i64 r, .int .i64 t]
abbrev bS (k r t : Int) : Obj := .cells #[.int .i64 k, .int .i64 r, .int .i64 t] 32
/-- The law's use and sizes, in their blocks. -/
structure Sb (w wx : World) (k r t x y z : Int) : Prop where
  b0 : wx.heap[w.heap.size]? = some (bU k r t)
  b1 : wx.heap[w.heap.size + 1]? = some (bS x y z)
  be : Below w.heap.size w wx
theorem Sb.keep {w wx wy : World} {k r t x y z : Int} (h : Sb w wx k r t x y z) (hB : Below wx.heap.size wx wy) : Sb w wy k r t x y z :=
  ⟨heap_keep h.b0 hB, heap_keep h.b1 hB, h.be.trans (hB.mono (by have := h.be.size; omega))⟩
theorem Sb.al {w wx : World} {k r t x y z : Int} (h : Sb w wx k r t x y z) (o : Obj) : Sb w (wx.alloc o) k r t x y z := ⟨heap_al h.b0 o, heap_al h.b1 o, h.be.alloc h.be.size o⟩
theorem Sb.start (w : World) (k r t x y z : Int) : Sb w ((w.alloc (bU k r t)).alloc (bS x y z)) k r t x y z :=
  ⟨heap_al (heap_new w _) _, heap_new' (w.alloc (bU k r t)) _ (by simp), ((Below.refl _ _).alloc (Nat.le_refl _) _).alloc (by simp) _⟩
theorem putN_zero {k r t ky vl : Int} (h : putN k r t ky 0 vl = 0) : (Siz ky ∧ Siz vl) ∧ Rgt k r t ∧ Rgt (k + 1) (r + (ky + vl)) t := by
  unfold putN at h
  split at h
  · omega
  · rename_i hw
    obtain ⟨a1, a2, a3⟩ := wrg3.1 (by simpa using hw)
    obtain ⟨c1, c2, c3⟩ := (cg_zero (sml_key a1 a3)).1 h
    rw [show k - 0 + 1 = k + 1 by omega, show r - 0 + (ky + vl) = r + (ky + vl) by omega, show t - 0 + 0 = t by omega] at c3
    exact ⟨⟨a1, a3⟩, c1, c3⟩
theorem putH_zero {k r t ky was vl : Int} (h : putH k r t ky was vl = 0) : (Siz ky ∧ Siz was ∧ Siz vl) ∧ Rgt k r t ∧ Rgt (k - 1) (r - (ky + was)) t ∧ Rgt k (r - was + vl) t := by
  unfold putH at h
  split at h
  · omega
  · rename_i hw
    obtain ⟨a1, a2, a3⟩ := wrg3.1 (by simpa using hw)
    obtain ⟨c1, c2, c3⟩ := (cg_zero (sml_key a1 a3)).1 h
    rw [show k - 1 + 1 = k by omega, show r - (ky + was) + (ky + vl) = r - was + vl by omega, show t - 0 + 0 = t by omega] at c3
    rw [show t - 0 = t by omega] at c2
    exact ⟨⟨a1, a2, a3⟩, c1, c2, c3⟩
theorem armN_zero {k r t : Int} (h : cg k r t 0 0 0 0 0 1 = 0) : Rgt k r t ∧ Rgt k r (t + 1) := by
  obtain ⟨c1, c2, c3⟩ := (cg_zero sml_timer).1 h
  rw [show k - 0 + 0 = k by omega, show r - 0 + 0 = r by omega, show t - 0 + 1 = t + 1 by omega] at c3
  exact ⟨c1, c3⟩
theorem putN_bad {k r t : Int} (h : ¬ Rgt k r t) (ky vl : Int) : putN k r t ky 0 vl = 1 := by
  unfold putN
  split
  · rfl
  · exact cg_bad fun h2 => h h2.1
theorem putH_bad {k r t : Int} (h : ¬ Rgt k r t) (ky was vl : Int) : putH k r t ky was vl = 1 := by
  unfold putH
  split
  · rfl
  · exact cg_bad fun h2 => h h2.1
/-- What is dropped behind it was put: the error is 0. -/
theorem drop_back {k r t ky vl : Int} (h : (Siz ky ∧ Siz vl) ∧ Rgt k r t ∧ Rgt (k + 1) (r + (ky + vl)) t) : drpE (k + 1) (r + (ky + vl)) t ky vl = 0 := by
  unfold drpE
  rw [if_neg (by rw [wrg2.2 ⟨h.1.1, h.1.2⟩]; decide)]
  refine (cg_zero sml_zero).2 ⟨h.2.2, ?_, ?_⟩
  · rw [show k + 1 - 1 = k by omega, show r + (ky + vl) - (ky + vl) = r by omega, show t - 0 = t by omega]; exact h.2.1
  · rw [show k + 1 - 1 + 0 = k by omega, show r + (ky + vl) - (ky + vl) + 0 = r by omega, show t - 0 + 0 = t by omega]; exact h.2.1
theorem put_back {k r t ky was vl : Int} (h : (Siz ky ∧ Siz was ∧ Siz vl) ∧ Rgt k r t ∧ Rgt (k - 1) (r - (ky + was)) t ∧ Rgt k (r - was + vl) t) : putH k (r - was + vl) t ky vl was = 0 := by
  unfold putH
  rw [if_neg (by rw [wrg3.2 ⟨h.1.1, h.1.2.2, h.1.2.1⟩]; decide)]
  refine (cg_zero (sml_key h.1.1 h.1.2.1)).2 ⟨h.2.2.2, ?_, ?_⟩
  · rw [show r - was + vl - (ky + vl) = r - (ky + was) by omega, show t - 0 = t by omega]; exact h.2.2.1
  · rw [show k - 1 + 1 = k by omega, show r - was + vl - (ky + vl) + (ky + was) = r by omega, show t - 0 + 0 = t by omega]; exact h.2.1
theorem cancel_back {k r t : Int} (h : Rgt k r t ∧ Rgt k r (t + 1)) : cg k r (t + 1) 0 0 1 0 0 0 = 0 := by
  refine (cg_zero sml_zero).2 ⟨h.2, ?_, ?_⟩
  · rw [show k - 0 = k by omega, show r - 0 = r by omega, show t + 1 - 1 = t by omega]; exact h.1
  · rw [show k - 0 + 0 = k by omega, show r - 0 + 0 = r by omega, show t + 1 - 1 + 0 = t by omega]; exact h.1
theorem again_back {k r t : Int} (h : Rgt k r t ∧ Rgt k r (t + 1)) : cg k r (t + 1) 0 0 1 0 0 1 = 0 := by
  refine (cg_zero sml_timer).2 ⟨h.2, ?_, ?_⟩
  · rw [show k - 0 = k by omega, show r - 0 = r by omega, show t + 1 - 1 = t by omega]; exact h.1
  · rw [show k - 0 + 0 = k by omega, show r - 0 + 0 = r by omega, show t + 1 - 1 + 1 = t + 1 by omega]; exact h.2
set_option maxRecDepth 100000 in
set_option maxHeartbeats 4000000 in
theorem back_bad (w : World) {k r t ky was vl : Int} (hk : I64 k ∧ I64 r ∧ I64 t) (hs : I64 ky ∧ I64 was ∧ I64 vl) (h : ¬ Rgt k r t) :
    Calls Try.prog 4 #[uV k r t, sV ky was vl] w fun e w' => e = .returned (.bool true) ∧ Below w.heap.size w w' := by

  have hR := rgt_false h
  have h0 := Sb.start w k r t ky was vl
  have i0 : I64 0 := ⟨by omega, by omega⟩
  have e1 := fun w1 => putN_any (k := k) (r := r) (t := t) hs.1 i0 hs.2.2 (o := 1) ⟨putN_bad h ky vl⟩ w1
  have e2 := fun w1 => putH_any (k := k) (r := r) (t := t) hs.1 hs.2.1 hs.2.2 (o := 1) ⟨putH_bad h ky was vl⟩ w1
  have e3 := fun w1 => armN_any (k := k) (r := r) (t := t) (o := 1) ⟨cg_bad fun h2 => h h2.1⟩ w1
  simp only [ans_no (show (1 : Int) ≠ 0 by decide)] at e1 e2 e3
  have hRc := fun w1 => right_any k r t w1
  simp only [hR] at hRc
  clear h hR i0 hs hk
  go_enter Try.func4, Try.ntmps4
  go_wp2_with fail
  refine (e1 _).mono ?_
  rintro e w1 ⟨rfl, hB⟩
  have h1 := (h0).keep hB
  clear hB
  have h1a := h1.al (bU 0 0 0)
  obtain ⟨u0, u1, u2, uf⟩ := own3 h1a.b0
  obtain ⟨s0, s1, s2, sf⟩ := own3 h1a.b1
  go_wp2_with fail
  refine (e2 _).mono ?_
  rintro e w2 ⟨rfl, hB⟩
  have h2 := (h1a).keep hB
  clear hB
  clear u0 u1 u2 uf s0 s1 s2 sf
  have h2a := h2.al (bU 0 0 0)
  obtain ⟨u0, u1, u2, uf⟩ := own3 h2a.b0
  obtain ⟨s0, s1, s2, sf⟩ := own3 h2a.b1
  go_wp2_with fail
  refine (e3 _).mono ?_
  rintro e w3 ⟨rfl, hB⟩
  have h3 := (h2a).keep hB
  clear hB
  clear u0 u1 u2 uf s0 s1 s2 sf
  have h3a := h3.al (bU 0 0 0)
  obtain ⟨u0, u1, u2, uf⟩ := own3 h3a.b0
  obtain ⟨s0, s1, s2, sf⟩ := own3 h3a.b1
  go_wp2_with fail
  refine (alive_any _).mono ?_
  rintro e w4 ⟨rfl, hB⟩
  have h4 := (h3a).keep hB
  clear hB
  clear u0 u1 u2 uf s0 s1 s2 sf
  obtain ⟨u0, u1, u2, uf⟩ := own3 h4.b0
  obtain ⟨s0, s1, s2, sf⟩ := own3 h4.b1
  go_wp2_with fail
  refine (hRc _).mono ?_
  rintro e w5 ⟨rfl, hB⟩
  have h5 := (h4).keep hB
  clear hB
  clear u0 u1 u2 uf s0 s1 s2 sf
  go_wp2
  go_ret
  exact ⟨rfl, h5.be⟩
set_option maxRecDepth 100000 in
set_option maxHeartbeats 4000000 in
theorem back_nnn (w : World) {k r t ky was vl : Int} (hk : I64 k ∧ I64 r ∧ I64 t) (hs : I64 ky ∧ I64 was ∧ I64 vl) (h : Rgt k r t) (z1 : putN k r t ky 0 vl ≠ 0) (z2 : putH k r t ky was vl ≠ 0) (z3 : cg k r t 0 0 0 0 0 1 ≠ 0) :
    Calls Try.prog 4 #[uV k r t, sV ky was vl] w fun e w' => e = .returned (.bool true) ∧ Below w.heap.size w w' := by

  have hR := rgt_true h
  have h0 := Sb.start w k r t ky was vl
  have i0 : I64 0 := ⟨by omega, by omega⟩
  have hRc := fun w1 => right_any k r t w1
  simp only [hR] at hRc
  have e1 := fun w1 => putN_any (k := k) (r := r) (t := t) hs.1 i0 hs.2.2 ⟨rfl⟩ w1
  simp only [ans_no z1] at e1
  generalize putN k r t ky 0 vl = o1 at *
  have z1' : (o1 == 0) = false := by simpa using z1
  clear z1
  have e2 := fun w1 => putH_any (k := k) (r := r) (t := t) hs.1 hs.2.1 hs.2.2 ⟨rfl⟩ w1
  simp only [ans_no z2] at e2
  generalize putH k r t ky was vl = o2 at *
  have z2' : (o2 == 0) = false := by simpa using z2
  clear z2
  have e3 := fun w1 => armN_any (k := k) (r := r) (t := t) ⟨rfl⟩ w1
  simp only [ans_no z3] at e3
  generalize cg k r t 0 0 0 0 0 1 = o3 at *
  have z3' : (o3 == 0) = false := by simpa using z3
  clear z3
  clear h hR i0 hs hk
  go_enter Try.func4, Try.ntmps4
  go_wp2_with fail
  refine (e1 _).mono ?_
  rintro e w1 ⟨rfl, hB⟩
  have h1 := (h0).keep hB
  clear hB
  have h1a := h1.al (bU 0 0 0)
  obtain ⟨u0, u1, u2, uf⟩ := own3 h1a.b0
  obtain ⟨s0, s1, s2, sf⟩ := own3 h1a.b1
  go_wp2_with fail
  refine (e2 _).mono ?_
  rintro e w2 ⟨rfl, hB⟩
  have h2 := (h1a).keep hB
  clear hB
  clear u0 u1 u2 uf s0 s1 s2 sf
  have h2a := h2.al (bU 0 0 0)
  obtain ⟨u0, u1, u2, uf⟩ := own3 h2a.b0
  obtain ⟨s0, s1, s2, sf⟩ := own3 h2a.b1
  go_wp2_with fail
  refine (e3 _).mono ?_
  rintro e w3 ⟨rfl, hB⟩
  have h3 := (h2a).keep hB
  clear hB
  clear u0 u1 u2 uf s0 s1 s2 sf
  have h3a := h3.al (bU 0 0 0)
  obtain ⟨u0, u1, u2, uf⟩ := own3 h3a.b0
  obtain ⟨s0, s1, s2, sf⟩ := own3 h3a.b1
  go_wp2_with fail
  refine (alive_any _).mono ?_
  rintro e w4 ⟨rfl, hB⟩
  have h4 := (h3a).keep hB
  clear hB
  clear u0 u1 u2 uf s0 s1 s2 sf
  obtain ⟨u0, u1, u2, uf⟩ := own3 h4.b0
  obtain ⟨s0, s1, s2, sf⟩ := own3 h4.b1
  go_wp2_with fail
  refine (hRc _).mono ?_
  rintro e w5 ⟨rfl, hB⟩
  have h5 := (h4).keep hB
  clear hB
  clear u0 u1 u2 uf s0 s1 s2 sf
  go_wp2
  go_ret
  exact ⟨rfl, h5.be⟩
end Go.Proofs.Ytlnikgejcogkeaa
