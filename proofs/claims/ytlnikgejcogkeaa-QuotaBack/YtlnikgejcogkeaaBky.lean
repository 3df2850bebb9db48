/- More cases of the walk of QuotaBack: which of its three changes are done without an error. -/
import Derived.Test.YtlnikgejcogkeaaBkw
namespace Go.Proofs.Ytlnikgejcogkeaa
open Go.RowKit Go.IntWalk
set_option linter.unusedVariables false
set_option maxRecDepth 100000 in
set_option maxHeartbeats 4000000 in
theorem back_ynn (w : World) {k r t ky was vl : Int} (hk : I64 k ∧ I64 r ∧ I64 t) (hs : I64 ky ∧ I64 was ∧ I64 vl) (h : Rgt k r t) (z1 : putN k r t ky 0 vl = 0) (z2 : putH k r t ky was vl ≠ 0) (z3 : cg k r t 0 0 0 0 0 1 ≠ 0) :
    Calls Try.prog 4 #[uV k r t, sV ky was vl] w fun e w' => e = .returned (.bool true) ∧ Below w.heap.size w w' := by

  have hR := rgt_true h
  have h0 := Sb.start w k r t ky was vl
  have i0 : I64 0 := ⟨by omega, by omega⟩
  have hRc := fun w1 => right_any k r t w1
  simp only [hR] at hRc
  have e1 := fun w1 => putN_any (k := k) (r := r) (t := t) hs.1 i0 hs.2.2 (o := 0) ⟨z1⟩ w1
  have f1 := fun w1 => drop_any (k := k + 1) (r := r + (ky + vl)) (t := t) hs.1 hs.2.2 (o := 0) ⟨drop_back (putN_zero z1)⟩ w1
  have g1 := fun w1 => right_any (k + 1) (r + (ky + vl)) t w1
  simp only [ans_ok, show k + 1 - 1 = k by omega, show r + (ky + vl) - (ky + vl) = r by omega, rgt_true (putN_zero z1).2.2] at e1 f1 g1
  have e2 := fun w1 => putH_any (k := k) (r := r) (t := t) hs.1 hs.2.1 hs.2.2 ⟨rfl⟩ w1
  simp only [ans_no z2] at e2
  generalize putH k r t ky was vl = o2 at *
  have z2' : (o2 == 0) = false := by simpa using z2
  clear z2
  have e3 := fun w1 => armN_any (k := k) (r := r) (t := t) ⟨rfl⟩ w1
  simp only [ans_no z3] at e3
  generalize cg k r t 0 0 0 0 0 1 = o3 at *
  have z3' : (o3 == 0) = false := by simpa using z3
  clear z3
  clear h hR i0 hs hk
  clear z1
  go_enter Try.func4, Try.ntmps4
  go_wp2_with fail
  refine (e1 _).mono ?_
  rintro e w1 ⟨rfl, hB⟩
  have h1 := (h0).keep hB
  clear hB
  have h1a := h1.al (bU (k + 1) (r + (ky + vl)) t)
  have a := heap_new w1 (bU (k + 1) (r + (ky + vl)) t)
  obtain ⟨u0, u1, u2, uf⟩ := own3 h1a.b0
  obtain ⟨s0, s1, s2, sf⟩ := own3 h1a.b1
  obtain ⟨a0, a1, a2, af⟩ := own3 a
  go_wp2_with fail
  refine (f1 _).mono ?_
  rintro e w2 ⟨rfl, hB⟩
  have h2 := (h1a).keep hB
  replace a := heap_keep a hB
  clear hB
  clear u0 u1 u2 uf s0 s1 s2 sf a0 a1 a2 af
  replace a := heap_al a (bU k r t)
  have h2a := h2.al (bU k r t)
  have b := heap_new w2 (bU k r t)
  obtain ⟨u0, u1, u2, uf⟩ := own3 h2a.b0
  obtain ⟨s0, s1, s2, sf⟩ := own3 h2a.b1
  obtain ⟨a0, a1, a2, af⟩ := own3 a
  obtain ⟨b0, b1, b2, bf⟩ := own3 b
  go_wp2_with fail
  refine (g1 _).mono ?_
  rintro e w3 ⟨rfl, hB⟩
  have h3 := (h2a).keep hB
  replace a := heap_keep a hB
  replace b := heap_keep b hB
  clear hB
  clear u0 u1 u2 uf s0 s1 s2 sf a0 a1 a2 af b0 b1 b2 bf
  obtain ⟨u0, u1, u2, uf⟩ := own3 h3.b0
  obtain ⟨s0, s1, s2, sf⟩ := own3 h3.b1
  obtain ⟨a0, a1, a2, af⟩ := own3 a
  obtain ⟨b0, b1, b2, bf⟩ := own3 b
  go_wp2_with fail
  refine (hRc _).mono ?_
  rintro e w4 ⟨rfl, hB⟩
  have h4 := (h3).keep hB
  replace a := heap_keep a hB
  replace b := heap_keep b hB
  clear hB
  clear u0 u1 u2 uf s0 s1 s2 sf a0 a1 a2 af b0 b1 b2 bf
  clear a b
  obtain ⟨u0, u1, u2, uf⟩ := own3 h4.b0
  obtain ⟨s0, s1, s2, sf⟩ := own3 h4.b1
  go_wp2_with fail
  refine (e2 _).mono ?_
  rintro e w5 ⟨rfl, hB⟩
  have h5 := (h4).keep hB
  clear hB
  clear u0 u1 u2 uf s0 s1 s2 sf
  have h5a := h5.al (bU 0 0 0)
  obtain ⟨u0, u1, u2, uf⟩ := own3 h5a.b0
  obtain ⟨s0, s1, s2, sf⟩ := own3 h5a.b1
  go_wp2_with fail
  refine (e3 _).mono ?_
  rintro e w6 ⟨rfl, hB⟩
  have h6 := (h5a).keep hB
  clear hB
  clear u0 u1 u2 uf s0 s1 s2 sf
  have h6a := h6.al (bU 0 0 0)
  obtain ⟨u0, u1, u2, uf⟩ := own3 h6a.b0
  obtain ⟨s0, s1, s2, sf⟩ := own3 h6a.b1
  go_wp2_with fail
  refine (alive_any _).mono ?_
  rintro e w7 ⟨rfl, hB⟩
  have h7 := (h6a).keep hB
  clear hB
  clear u0 u1 u2 uf s0 s1 s2 sf
  obtain ⟨u0, u1, u2, uf⟩ := own3 h7.b0
  obtain ⟨s0, s1, s2, sf⟩ := own3 h7.b1
  go_wp2_with fail
  refine (hRc _).mono ?_
  rintro e w8 ⟨rfl, hB⟩
  have h8 := (h7).keep hB
  clear hB
  clear u0 u1 u2 uf s0 s1 s2 sf
  go_wp2
  go_ret
  exact ⟨rfl, h8.be⟩
set_option maxRecDepth 100000 in
set_option maxHeartbeats 4000000 in
theorem back_nyn (w : World) {k r t ky was vl : Int} (hk : I64 k ∧ I64 r ∧ I64 t) (hs : I64 ky ∧ I64 was ∧ I64 vl) (h : Rgt k r t) (z1 : putN k r t ky 0 vl ≠ 0) (z2 : putH k r t ky was vl = 0) (z3 : cg k r t 0 0 0 0 0 1 ≠ 0) :
    Calls Try.prog 4 #[uV k r t, sV ky was vl] w fun e w' => e = .returned (.bool true) ∧ Below w.heap.size w w' := by

  have hR := rgt_true h
  have h0 := Sb.start w k r t ky was vl
  have i0 : I64 0 := ⟨by omega, by omega⟩
  have hRc := fun w1 => right_any k r t w1
  simp only [hR] at hRc
  have e1 := fun w1 => putN_any (k := k) (r := r) (t := t) hs.1 i0 hs.2.2 ⟨rfl⟩ w1
  simp only [ans_no z1] at e1
  generalize putN k r t ky 0 vl = o1 at *
  have z1' : (o1 == 0) = false := by simpa using z1
  clear z1
  have e2 := fun w1 => putH_any (k := k) (r := r) (t := t) hs.1 hs.2.1 hs.2.2 (o := 0) ⟨z2⟩ w1
  have f2 := fun w1 => putH_any (k := k) (r := r - was + vl) (t := t) hs.1 hs.2.2 hs.2.1 (o := 0) ⟨put_back (putH_zero z2)⟩ w1
  have g2 := fun w1 => right_any k (r - was + vl) t w1
  simp only [ans_ok, show r - was + vl - vl + was = r by omega, rgt_true (putH_zero z2).2.2.2] at e2 f2 g2
  have e3 := fun w1 => armN_any (k := k) (r := r) (t := t) ⟨rfl⟩ w1
  simp only [ans_no z3] at e3
  generalize cg k r t 0 0 0 0 0 1 = o3 at *
  have z3' : (o3 == 0) = false := by simpa using z3
  clear z3
  clear h hR i0 hs hk
  clear z2
  go_enter Try.func4, Try.ntmps4
  go_wp2_with fail
  refine (e1 _).mono ?_
  rintro e w1 ⟨rfl, hB⟩
  have h1 := (h0).keep hB
  clear hB
  have h1a := h1.al (bU 0 0 0)
  obtain ⟨u0, u1, u2, uf⟩ := own3 h1a.b0
  obtain ⟨s0, s1, s2, sf⟩ := own3 h1a.b1
  go_wp2_with fail
  refine (e2 _).mono ?_
  rintro e w2 ⟨rfl, hB⟩
  have h2 := (h1a).keep hB
  clear hB
  clear u0 u1 u2 uf s0 s1 s2 sf
  have h2a := h2.al (bU k (r - was + vl) t)
  have c := heap_new w2 (bU k (r - was + vl) t)
  obtain ⟨u0, u1, u2, uf⟩ := own3 h2a.b0
  obtain ⟨s0, s1, s2, sf⟩ := own3 h2a.b1
  obtain ⟨c0, c1, c2, cf⟩ := own3 c
  go_wp2_with fail
  refine (f2 _).mono ?_
  rintro e w3 ⟨rfl, hB⟩
  have h3 := (h2a).keep hB
  replace c := heap_keep c hB
  clear hB
  clear u0 u1 u2 uf s0 s1 s2 sf c0 c1 c2 cf
  replace c := heap_al c (bU k r t)
  have h3a := h3.al (bU k r t)
  have d := heap_new w3 (bU k r t)
  obtain ⟨u0, u1, u2, uf⟩ := own3 h3a.b0
  obtain ⟨s0, s1, s2, sf⟩ := own3 h3a.b1
  obtain ⟨c0, c1, c2, cf⟩ := own3 c
  obtain ⟨d0, d1, d2, df⟩ := own3 d
  go_wp2_with fail
  refine (g2 _).mono ?_
  rintro e w4 ⟨rfl, hB⟩
  have h4 := (h3a).keep hB
  replace c := heap_keep c hB
  replace d := heap_keep d hB
  clear hB
  clear u0 u1 u2 uf s0 s1 s2 sf c0 c1 c2 cf d0 d1 d2 df
  clear c d
  obtain ⟨u0, u1, u2, uf⟩ := own3 h4.b0
  obtain ⟨s0, s1, s2, sf⟩ := own3 h4.b1
  go_wp2_with fail
  refine (e3 _).mono ?_
  rintro e w5 ⟨rfl, hB⟩
  have h5 := (h4).keep hB
  clear hB
  clear u0 u1 u2 uf s0 s1 s2 sf
  have h5a := h5.al (bU 0 0 0)
  obtain ⟨u0, u1, u2, uf⟩ := own3 h5a.b0
  obtain ⟨s0, s1, s2, sf⟩ := own3 h5a.b1
  go_wp2_with fail
  refine (alive_any _).mono ?_
  rintro e w6 ⟨rfl, hB⟩
  have h6 := (h5a).keep hB
  clear hB
  clear u0 u1 u2 uf s0 s1 s2 sf
  obtain ⟨u0, u1, u2, uf⟩ := own3 h6.b0
  obtain ⟨s0, s1, s2, sf⟩ := own3 h6.b1
  go_wp2_with fail
  refine (hRc _).mono ?_
  rintro e w7 ⟨rfl, hB⟩
  have h7 := (h6).keep hB
  clear hB
  clear u0 u1 u2 uf s0 s1 s2 sf
  go_wp2
  go_ret
  exact ⟨rfl, h7.be⟩
set_option maxRecDepth 100000 in
set_option maxHeartbeats 4000000 in
theorem back_nny (w : World) {k r t ky was vl : Int} (hk : I64 k ∧ I64 r ∧ I64 t) (hs : I64 ky ∧ I64 was ∧ I64 vl) (h : Rgt k r t) (z1 : putN k r t ky 0 vl ≠ 0) (z2 : putH k r t ky was vl ≠ 0) (z3 : cg k r t 0 0 0 0 0 1 = 0) :
    Calls Try.prog 4 #[uV k r t, sV ky was vl] w fun e w' => e = .returned (.bool true) ∧ Below w.heap.size w w' := by

  have hR := rgt_true h
  have h0 := Sb.start w k r t ky was vl
  have i0 : I64 0 := ⟨by omega, by omega⟩
  have hRc := fun w1 => right_any k r t w1
  simp only [hR] at hRc
  have e1 := fun w1 => putN_any (k := k) (r := r) (t := t) hs.1 i0 hs.2.2 ⟨rfl⟩ w1
  simp only [ans_no z1] at e1
  generalize putN k r t ky 0 vl = o1 at *
  have z1' : (o1 == 0) = false := by simpa using z1
  clear z1
  have e2 := fun w1 => putH_any (k := k) (r := r) (t := t) hs.1 hs.2.1 hs.2.2 ⟨rfl⟩ w1
  simp only [ans_no z2] at e2
  generalize putH k r t ky was vl = o2 at *
  have z2' : (o2 == 0) = false := by simpa using z2
  clear z2
  have e3 := fun w1 => armN_any (k := k) (r := r) (t := t) (o := 0) ⟨z3⟩ w1
  have f3 := fun w1 => cancel_any (k := k) (r := r) (t := t + 1) (o := 0) ⟨cancel_back (armN_zero z3)⟩ w1
  have p3 := fun w1 => armH_any (k := k) (r := r) (t := t + 1) (o := 0) ⟨again_back (armN_zero z3)⟩ w1
  have g3 := fun w1 => right_any k r (t + 1) w1
  simp only [ans_ok, show t + 1 - 1 = t by omega, rgt_true (armN_zero z3).2] at e3 f3 g3 p3
  clear h hR i0 hs hk
  clear z3
  go_enter Try.func4, Try.ntmps4
  go_wp2_with fail
  refine (e1 _).mono ?_
  rintro e w1 ⟨rfl, hB⟩
  have h1 := (h0).keep hB
  clear hB
  have h1a := h1.al (bU 0 0 0)
  obtain ⟨u0, u1, u2, uf⟩ := own3 h1a.b0
  obtain ⟨s0, s1, s2, sf⟩ := own3 h1a.b1
  go_wp2_with fail
  refine (e2 _).mono ?_
  rintro e w2 ⟨rfl, hB⟩
  have h2 := (h1a).keep hB
  clear hB
  clear u0 u1 u2 uf s0 s1 s2 sf
  have h2a := h2.al (bU 0 0 0)
  obtain ⟨u0, u1, u2, uf⟩ := own3 h2a.b0
  obtain ⟨s0, s1, s2, sf⟩ := own3 h2a.b1
  go_wp2_with fail
  refine (e3 _).mono ?_
  rintro e w3 ⟨rfl, hB⟩
  have h3 := (h2a).keep hB
  clear hB
  clear u0 u1 u2 uf s0 s1 s2 sf
  have h3a := h3.al (bU k r (t + 1))
  have q := heap_new w3 (bU k r (t + 1))
  obtain ⟨u0, u1, u2, uf⟩ := own3 h3a.b0
  obtain ⟨s0, s1, s2, sf⟩ := own3 h3a.b1
  obtain ⟨q0, q1, q2, qf⟩ := own3 q
  go_wp2_with fail
  refine (f3 _).mono ?_
  rintro e w4 ⟨rfl, hB⟩
  have h4 := (h3a).keep hB
  replace q := heap_keep q hB
  clear hB
  clear u0 u1 u2 uf s0 s1 s2 sf q0 q1 q2 qf
  replace q := heap_al q (bU k r t)
  have h4a := h4.al (bU k r t)
  have m := heap_new w4 (bU k r t)
  obtain ⟨u0, u1, u2, uf⟩ := own3 h4a.b0
  obtain ⟨s0, s1, s2, sf⟩ := own3 h4a.b1
  obtain ⟨q0, q1, q2, qf⟩ := own3 q
  obtain ⟨m0, m1, m2, mf⟩ := own3 m
  go_wp2_with fail
  refine (p3 _).mono ?_
  rintro e w5 ⟨rfl, hB⟩
  have h5 := (h4a).keep hB
  replace q := heap_keep q hB
  replace m := heap_keep m hB
  clear hB
  clear u0 u1 u2 uf s0 s1 s2 sf q0 q1 q2 qf m0 m1 m2 mf
  replace q := heap_al q (bU k r (t + 1))
  replace m := heap_al m (bU k r (t + 1))
  have h5a := h5.al (bU k r (t + 1))
  have n := heap_new w5 (bU k r (t + 1))
  obtain ⟨u0, u1, u2, uf⟩ := own3 h5a.b0
  obtain ⟨s0, s1, s2, sf⟩ := own3 h5a.b1
  obtain ⟨q0, q1, q2, qf⟩ := own3 q
  obtain ⟨m0, m1, m2, mf⟩ := own3 m
  obtain ⟨n0, n1, n2, nf⟩ := own3 n
  go_wp2_with fail
  refine (g3 _).mono ?_
  rintro e w6 ⟨rfl, hB⟩
  have h6 := (h5a).keep hB
  replace q := heap_keep q hB
  replace m := heap_keep m hB
  replace n := heap_keep n hB
  clear hB
  clear u0 u1 u2 uf s0 s1 s2 sf q0 q1 q2 qf m0 m1 m2 mf n0 n1 n2 nf
  clear q m n
  obtain ⟨u0, u1, u2, uf⟩ := own3 h6.b0
  obtain ⟨s0, s1, s2, sf⟩ := own3 h6.b1
  go_wp2_with fail
  refine (alive_any _).mono ?_
  rintro e w7 ⟨rfl, hB⟩
  have h7 := (h6).keep hB
  clear hB
  clear u0 u1 u2 uf s0 s1 s2 sf
  obtain ⟨u0, u1, u2, uf⟩ := own3 h7.b0
  obtain ⟨s0, s1, s2, sf⟩ := own3 h7.b1
  go_wp2_with fail
  refine (hRc _).mono ?_
  rintro e w8 ⟨rfl, hB⟩
  have h8 := (h7).keep hB
  clear hB
  clear u0 u1 u2 uf s0 s1 s2 sf
  go_wp2
  go_ret
  exact ⟨rfl, h8.be⟩
end Go.Proofs.Ytlnikgejcogkeaa
