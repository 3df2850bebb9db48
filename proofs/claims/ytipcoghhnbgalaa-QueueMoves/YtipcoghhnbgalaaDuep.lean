/- The walk of QueueDue. -/
import Derived.Test.YtipcoghhnbgalaaMor
import Derived.Laws.StructEq
namespace Go.Proofs.Ytipcoghhnbgalaa
open Go.RowKit Go.IntWalk Go.Maps
set_option linter.unusedVariables false
set_option maxRecDepth 100000 in
theorem neq36 (n : ByteArray) (a : Int) (w : World) : (binOp .neq 36 (.agg #[.string n, .int .u64 a]) (.agg #[.string n, .int .u64 a])).run Try.prog w = .ok (.bool false) w := by
  go_simp
theorem tk_two {now nl : Int} (h : now ≤ nl) (L : List E) : tkN nl L = tkN now L ++ tkN nl (drN now L) ∧ drN nl (drN now L) = drN nl L := by
  induction L with
  | nil => exact ⟨rfl, rfl⟩
  | cons x L ih =>
    by_cases hx : x.at_ ≤ now
    · have hx2 : x.at_ ≤ nl := by omega
      simp only [tkN, drN] at ih ⊢
      simp [hx, hx2, ih.1, ih.2]
    · simp [tkN, drN, hx]
theorem tk_le (now : Int) (L : List E) : ∀ x ∈ tkN now L, x.at_ ≤ now := by
  induction L with
  | nil => intro x hx; simp [tkN] at hx
  | cons f L ih =>
    intro x hx
    by_cases hf : f.at_ ≤ now
    · have e : tkN now (f :: L) = f :: tkN now L := by simp [tkN, hf]
      rw [e] at hx
      rcases List.mem_cons.1 hx with rfl | hx
      · exact hf
      · exact ih x hx
    · have e : tkN now (f :: L) = [] := by simp [tkN, hf]
      rw [e] at hx
      simp at hx
theorem Srt.at_le {f : E} {L : List E} (h : Srt (f :: L)) : ∀ x ∈ L, f.at_ ≤ x.at_ := fun x hx => by
  rcases h.head.1 x hx with h1 | h1
  · omega
  · omega
theorem dr_gt {now : Int} {L : List E} (h : Srt L) : ∀ x ∈ drN now L, now < x.at_ := by
  induction L with
  | nil => intro x hx; simp [drN] at hx
  | cons f L ih =>
    intro x hx
    by_cases hf : f.at_ ≤ now
    · have e : drN now (f :: L) = drN now L := by simp [drN, hf]
      rw [e] at hx
      exact ih h.head.2.1 x hx
    · have e : drN now (f :: L) = f :: L := by simp [drN, hf]
      rw [e] at hx
      rcases List.mem_cons.1 hx with rfl | hx
      · omega
      · have := h.at_le x hx; omega
set_option maxRecDepth 100000 in
set_option maxHeartbeats 4000000 in
theorem due_walk (a : Option Addr) (len cap : Nat) (xs : List Ac) (now later : Int) (W : World) (ha : Acs W.heap.size W (.slice a len cap) xs) : Calls Try.prog 5 #[.slice a len cap, .int .u64 now, .int .u64 later] W fun e W' => e = .returned (.bool true) ∧ Below W.heap.size W W' := by
  obtain ⟨a', cap', e', hxl⟩ := ha.shape
  simp only [Value.slice.injEq] at e'
  obtain ⟨rfl, rfl, rfl⟩ := e'
  have hbo := bld_ok ha 150
  go_enter Try.func5, Try.ntmps5
  go_wp2_with fail
  refine (built_s (St.start W) ha hxl).mono ?_
  rintro r w1 ⟨qb, rfl, h1⟩
  go_wp2_with fail
  refine (built_s h1 ha hxl).mono ?_
  rintro r w2 ⟨pb, rfl, h2⟩
  obtain ⟨L, hL⟩ : ∃ L, L = bld (xs.take 150) := ⟨_, rfl⟩
  rw [← hL] at h2 hbo
  have hsL : Srt L := by rw [hL]; exact bld_srt _
  have hlen := h2.q.2.1
  clear hL h1
  have h2' := h2.swap
  clear h2
  by_cases hmx : now < later
  · have hle : now ≤ later := by omega
    obtain ⟨A, hA⟩ : ∃ A, Hid (tkN now L = A) := ⟨_, ⟨rfl⟩⟩
    obtain ⟨D, hD⟩ : ∃ D, Hid (drN now L = D) := ⟨_, ⟨rfl⟩⟩
    obtain ⟨B, hB⟩ : ∃ B, Hid (tkN later D = B) := ⟨_, ⟨rfl⟩⟩
    obtain ⟨R, hR⟩ : ∃ R, Hid (drN later L = R) := ⟨_, ⟨rfl⟩⟩
    obtain ⟨C, hC⟩ : ∃ C, Hid (tkN later L = C) := ⟨_, ⟨rfl⟩⟩
    have hCe : Hid (C = A ++ B) := ⟨by rw [← hC.out, ← hA.out, ← hB.out, ← hD.out]; exact (tk_two hle L).1⟩
    have hR2 : Hid (drN later D = R) := ⟨by rw [← hR.out, ← hD.out]; exact (tk_two hle L).2⟩
    have hAl : Hid (∀ x ∈ A, x.at_ ≤ now) := ⟨by rw [← hA.out]; exact tk_le now L⟩
    have hBl : Hid (∀ x ∈ B, now < x.at_) := ⟨by
      rw [← hB.out, ← hD.out]
      intro x hx
      exact dr_gt hsL x ((List.takeWhile_sublist _).subset hx)⟩
    have hCl : Hid (∀ x ∈ C, x.at_ ≤ later) := ⟨by rw [← hC.out]; exact tk_le later L⟩
    have hRg : Hid (∀ f R', R = f :: R' → later < f.at_) := ⟨fun f R' e => dr_gt hsL f (by rw [hR.out, e]; simp)⟩
    have hCn : Hid (C.length = A.length + B.length) := ⟨by rw [hCe.out, List.length_append]⟩
    have hlC : C.length ≤ 100000 := by
      have h5 : (tkN later L).length ≤ L.length := (List.takeWhile_sublist _).length_le
      rw [hC.out] at h5
      omega
    have hne : (((A.length : Int) + B.length) != (C.length : Int)) = false := by rw [hCn.out]; simp
    have hAb : A.length ≤ 100000 := by have := hCn.out; omega
    have hBb : B.length ≤ 100000 := by have := hCn.out; omega
    replace hsL : Hid _ := ⟨hsL⟩
    replace hbo : Hid _ := ⟨hbo⟩
    go_wp2_with fail
    refine (due_e h2' now hA hD).mono ?_
    rintro r w3 ⟨a3, c3, rfl, h3⟩
    go_wp2_with fail
    refine (due_e h3 later hB hR2).mono ?_
    rintro r w4 ⟨a4, c4, rfl, h4⟩
    have h4' := h4.rot4
    go_wp2_with fail
    refine (due_e h4' later hC hR).mono ?_
    rintro r w5 ⟨a5, c5, rfl, h5⟩
    clear h2' h3 h4 h4'
    go_wp2_with fail
    refine (len_m h5 (qb := qb) (L := R) (by simp)).mono ?_
    rintro r w6 ⟨rfl, rfl⟩
    go_wp2_with fail
    refine (len_m h5 (qb := pb) (L := R) (by simp)).mono ?_
    rintro r w7 ⟨rfl, rfl⟩
    go_wp2_with fail
    replace h5 : Hid _ := ⟨h5⟩
    go_loopw [12] (fun i wr => ∃ k : Nat, k ≤ C.length ∧ i = .int .i64 k ∧ Hid (St W wr [.q pb R, .r 36 (.slice a5 C.length c5) C, .q qb R, .r 36 (.slice a4 B.length c4) B, .r 36 (.slice a3 A.length c3) A]))
      (fun i _ => C.length - (intOf i).toNat)
    case atStart => exact ⟨0, by omega, rfl, h5⟩
    case round =>
      clear h5
      obtain ⟨k, hk, rfl, hS⟩ := hrel
      by_cases hlt : k < C.length
      · have hd : decide ((k : Int) < C.length) = true := by simp; omega
        obtain ⟨x, hx⟩ := some_at hlt
        have hxC := List.mem_of_getElem? hx
        obtain ⟨g5, rfl, _, _, k1, k2, _⟩ := (hS.out.mr (t := 36) (v := .slice a5 C.length c5) (es := C) (by simp)).at hx
        have hxl : decide (x.at_ > later) = false := by have := hCl.out x hxC; simp; omega
        have hxl' : ¬ later < x.at_ := by have := hCl.out x hxC; omega
        have h8 : Hid _ := Hid.mk (hS.out.grown (World.grownBy_alloc wr (.cells #[.string x.n, .int .u64 x.at_] 36) none))
        haveI := lat_nonempty (wr.alloc (.cells #[.string x.n, .int .u64 x.at_] 36))
        have x0 := lat_cell (w := wr.alloc (.cells #[.string x.n, .int .u64 x.at_] 36)) (b := wr.heap.size) (o := 0) (v := .string x.n) (by simp)
        have x1 := lat_cell (w := wr.alloc (.cells #[.string x.n, .int .u64 x.at_] 36)) (b := wr.heap.size) (o := 1) (v := .int .u64 x.at_) (by simp)
        have nq := fun p : Lat (wr.alloc (.cells #[.string x.n, .int .u64 x.at_] 36)) => neq36 x.n x.at_ p.W
        by_cases hka : k < A.length
        · have hxa : A[k]? = some x := by
            have := hx
            rw [hCe.out, List.getElem?_append_left hka] at this
            exact this
          obtain ⟨g3, rfl, _, _, k3, k4, _⟩ := (h8.out.mr (t := 36) (v := .slice a3 A.length c3) (es := A) (by simp)).at hxa
          have y0 := lat_cell k3
          have y1 := lat_cell k4
          have hd1 : decide ((k : Int) < A.length) = true := by simp; omega
          have hd1' : (k : Int) < A.length := by omega
          have hd2 : decide ((k : Int) ≥ A.length) = false := by simp; omega
          have hd2' : ¬ A.length ≤ k := by omega
          have hdn : decide (A.length ≤ k) = false := by simp; omega
          have hd3 : decide (x.at_ > now) = false := by have := hAl.out x (List.mem_of_getElem? hxa); simp; omega
          replace hx : Hid _ := ⟨hx⟩
          replace hxa : Hid _ := ⟨hxa⟩
          clear hxC
          go_wp2_with fail
          refine wp_region_lat (by kernel_rfl) (by kernel_rfl) ?_
          repeat (go_big_quiet_step (fail))
          refine wpQuiet_nil ?_
          intro _ hw'
          obtain ⟨p, hw''⟩ := hw'
          subst hw''
          have h9 : Hid _ := Hid.mk (h8.out.grown p.h)
          go_wp2_with fail
          go_roundw
          case rel => exact ⟨k + 1, by omega, by go_num, h9⟩
          case measure => simp [intOf]; omega
        · obtain ⟨j, hj⟩ : ∃ j, k = A.length + j := ⟨k - A.length, by omega⟩
          have hxb : B[j]? = some x := by
            have := hx
            rw [hCe.out, List.getElem?_append_right (by omega)] at this
            rw [hj] at this
            simpa using this
          have hjl : j < B.length := (List.getElem?_eq_some_iff.1 hxb).1
          obtain ⟨g4, rfl, _, _, k3, k4, _⟩ := (h8.out.mr (t := 36) (v := .slice a4 B.length c4) (es := B) (by simp)).at hxb
          have y0 := lat_cell k3
          have y1 := lat_cell k4
          have hd1 : decide ((k : Int) < A.length) = false := by simp; omega
          have hd1' : ¬ (k : Int) < A.length := by omega
          have hd1n : decide (k < A.length) = false := by simp; omega
          have hd2 : decide ((k : Int) ≥ A.length) = true := by simp; omega
          have hd2' : (k : Int) ≥ A.length := by omega
          have hdn : decide (A.length ≤ k) = true := by simp; omega
          have hsub : (k : Int) - A.length = j := by omega
          have hd3 : decide (x.at_ ≤ now) = false := by have := hBl.out x (List.mem_of_getElem? hxb); simp; omega
          replace hx : Hid _ := ⟨hx⟩
          replace hxb : Hid _ := ⟨hxb⟩
          replace hj : Hid _ := ⟨hj⟩
          clear hxC
          go_wp2_with fail
          refine wp_region_lat (by kernel_rfl) (by kernel_rfl) ?_
          repeat (go_big_quiet_step (fail))
          refine wpQuiet_nil ?_
          intro _ hw'
          obtain ⟨p, hw''⟩ := hw'
          subst hw''
          have h9 : Hid _ := Hid.mk (h8.out.grown p.h)
          go_wp2_with fail
          go_roundw
          case rel => exact ⟨k + 1, by omega, by go_num, h9⟩
          case measure => simp [intOf]; omega
      · have hd : decide ((k : Int) < C.length) = false := by simp; omega
        obtain ⟨f, b, hfr⟩ : ∃ f b, Hid (fr R = (f, b)) := ⟨_, _, ⟨rfl⟩⟩
        have hfb : (b = false) ∨ (b = true ∧ later < f.at_) := by
          cases hRR : R with
          | nil => have := hfr.out; rw [hRR] at this; simp [fr] at this; exact .inl this.2
          | cons g R' => have := hfr.out; rw [hRR] at this; simp [fr] at this; exact .inr ⟨this.2, by rw [← this.1]; exact hRg.out g R' hRR⟩
        go_wp2_with fail
        refine (front_e hS.out (qb := pb) (L := R) (by simp) hfr).mono ?_
        rintro r w8 ⟨rfl, hg8⟩
        have h8 := (hS.out.grown hg8).box (.cells #[.string f.n, .int .u64 f.at_] 36)
        go_wp2_with fail
        refine (alive_s h8).mono ?_
        rintro r w9 ⟨rfl, h9⟩
        obtain ⟨c0, c1, _⟩ := own_b h9.b
        rcases hfb with rfl | ⟨rfl, hgt⟩
        · go_wp2
          go_ret
          exact ⟨rfl, h9.2⟩
        · have hd5 : decide (f.at_ > later) = true := by simp; omega
          go_wp2
          go_ret
          exact ⟨rfl, h9.2⟩
  · have hle : now ≤ now := by omega
    obtain ⟨A, hA⟩ : ∃ A, Hid (tkN now L = A) := ⟨_, ⟨rfl⟩⟩
    obtain ⟨D, hD⟩ : ∃ D, Hid (drN now L = D) := ⟨_, ⟨rfl⟩⟩
    obtain ⟨B, hB⟩ : ∃ B, Hid (tkN now D = B) := ⟨_, ⟨rfl⟩⟩
    obtain ⟨R, hR⟩ : ∃ R, Hid (drN now L = R) := ⟨_, ⟨rfl⟩⟩
    obtain ⟨C, hC⟩ : ∃ C, Hid (tkN now L = C) := ⟨_, ⟨rfl⟩⟩
    have hCe : Hid (C = A ++ B) := ⟨by rw [← hC.out, ← hA.out, ← hB.out, ← hD.out]; exact (tk_two hle L).1⟩
    have hR2 : Hid (drN now D = R) := ⟨by rw [← hR.out, ← hD.out]; exact (tk_two hle L).2⟩
    have hAl : Hid (∀ x ∈ A, x.at_ ≤ now) := ⟨by rw [← hA.out]; exact tk_le now L⟩
    have hBl : Hid (∀ x ∈ B, now < x.at_) := ⟨by
      rw [← hB.out, ← hD.out]
      intro x hx
      exact dr_gt hsL x ((List.takeWhile_sublist _).subset hx)⟩
    have hCl : Hid (∀ x ∈ C, x.at_ ≤ now) := ⟨by rw [← hC.out]; exact tk_le now L⟩
    have hRg : Hid (∀ f R', R = f :: R' → now < f.at_) := ⟨fun f R' e => dr_gt hsL f (by rw [hR.out, e]; simp)⟩
    have hCn : Hid (C.length = A.length + B.length) := ⟨by rw [hCe.out, List.length_append]⟩
    have hlC : C.length ≤ 100000 := by
      have h5 : (tkN now L).length ≤ L.length := (List.takeWhile_sublist _).length_le
      rw [hC.out] at h5
      omega
    have hne : (((A.length : Int) + B.length) != (C.length : Int)) = false := by rw [hCn.out]; simp
    have hAb : A.length ≤ 100000 := by have := hCn.out; omega
    have hBb : B.length ≤ 100000 := by have := hCn.out; omega
    replace hsL : Hid _ := ⟨hsL⟩
    replace hbo : Hid _ := ⟨hbo⟩
    go_wp2_with fail
    refine (due_e h2' now hA hD).mono ?_
    rintro r w3 ⟨a3, c3, rfl, h3⟩
    go_wp2_with fail
    refine (due_e h3 now hB hR2).mono ?_
    rintro r w4 ⟨a4, c4, rfl, h4⟩
    have h4' := h4.rot4
    go_wp2_with fail
    refine (due_e h4' now hC hR).mono ?_
    rintro r w5 ⟨a5, c5, rfl, h5⟩
    clear h2' h3 h4 h4'
    go_wp2_with fail
    refine (len_m h5 (qb := qb) (L := R) (by simp)).mono ?_
    rintro r w6 ⟨rfl, rfl⟩
    go_wp2_with fail
    refine (len_m h5 (qb := pb) (L := R) (by simp)).mono ?_
    rintro r w7 ⟨rfl, rfl⟩
    go_wp2_with fail
    replace h5 : Hid _ := ⟨h5⟩
    go_loopw [12] (fun i wr => ∃ k : Nat, k ≤ C.length ∧ i = .int .i64 k ∧ Hid (St W wr [.q pb R, .r 36 (.slice a5 C.length c5) C, .q qb R, .r 36 (.slice a4 B.length c4) B, .r 36 (.slice a3 A.length c3) A]))
      (fun i _ => C.length - (intOf i).toNat)
    case atStart => exact ⟨0, by omega, rfl, h5⟩
    case round =>
      clear h5
      obtain ⟨k, hk, rfl, hS⟩ := hrel
      by_cases hlt : k < C.length
      · have hd : decide ((k : Int) < C.length) = true := by simp; omega
        obtain ⟨x, hx⟩ := some_at hlt
        have hxC := List.mem_of_getElem? hx
        obtain ⟨g5, rfl, _, _, k1, k2, _⟩ := (hS.out.mr (t := 36) (v := .slice a5 C.length c5) (es := C) (by simp)).at hx
        have hxl : decide (x.at_ > now) = false := by have := hCl.out x hxC; simp; omega
        have hxl' : ¬ now < x.at_ := by have := hCl.out x hxC; omega
        have h8 : Hid _ := Hid.mk (hS.out.grown (World.grownBy_alloc wr (.cells #[.string x.n, .int .u64 x.at_] 36) none))
        haveI := lat_nonempty (wr.alloc (.cells #[.string x.n, .int .u64 x.at_] 36))
        have x0 := lat_cell (w := wr.alloc (.cells #[.string x.n, .int .u64 x.at_] 36)) (b := wr.heap.size) (o := 0) (v := .string x.n) (by simp)
        have x1 := lat_cell (w := wr.alloc (.cells #[.string x.n, .int .u64 x.at_] 36)) (b := wr.heap.size) (o := 1) (v := .int .u64 x.at_) (by simp)
        have nq := fun p : Lat (wr.alloc (.cells #[.string x.n, .int .u64 x.at_] 36)) => neq36 x.n x.at_ p.W
        by_cases hka : k < A.length
        · have hxa : A[k]? = some x := by
            have := hx
            rw [hCe.out, List.getElem?_append_left hka] at this
            exact this
          obtain ⟨g3, rfl, _, _, k3, k4, _⟩ := (h8.out.mr (t := 36) (v := .slice a3 A.length c3) (es := A) (by simp)).at hxa
          have y0 := lat_cell k3
          have y1 := lat_cell k4
          have hd1 : decide ((k : Int) < A.length) = true := by simp; omega
          have hd1' : (k : Int) < A.length := by omega
          have hd2 : decide ((k : Int) ≥ A.length) = false := by simp; omega
          have hd2' : ¬ A.length ≤ k := by omega
          have hdn : decide (A.length ≤ k) = false := by simp; omega
          have hd3 : decide (x.at_ > now) = false := by have := hAl.out x (List.mem_of_getElem? hxa); simp; omega
          replace hx : Hid _ := ⟨hx⟩
          replace hxa : Hid _ := ⟨hxa⟩
          clear hxC
          go_wp2_with fail
          refine wp_region_lat (by kernel_rfl) (by kernel_rfl) ?_
          repeat (go_big_quiet_step (fail))
          refine wpQuiet_nil ?_
          intro _ hw'
          obtain ⟨p, hw''⟩ := hw'
          subst hw''
          have h9 : Hid _ := Hid.mk (h8.out.grown p.h)
          go_wp2_with fail
          go_roundw
          case rel => exact ⟨k + 1, by omega, by go_num, h9⟩
          case measure => simp [intOf]; omega
        · obtain ⟨j, hj⟩ : ∃ j, k = A.length + j := ⟨k - A.length, by omega⟩
          have hxb : B[j]? = some x := by
            have := hx
            rw [hCe.out, List.getElem?_append_right (by omega)] at this
            rw [hj] at this
            simpa using this
          have q1 := hBl.out x (List.mem_of_getElem? hxb)
          have q2 := hCl.out x hxC
          omega
      · have hd : decide ((k : Int) < C.length) = false := by simp; omega
        obtain ⟨f, b, hfr⟩ : ∃ f b, Hid (fr R = (f, b)) := ⟨_, _, ⟨rfl⟩⟩
        have hfb : (b = false) ∨ (b = true ∧ now < f.at_) := by
          cases hRR : R with
          | nil => have := hfr.out; rw [hRR] at this; simp [fr] at this; exact .inl this.2
          | cons g R' => have := hfr.out; rw [hRR] at this; simp [fr] at this; exact .inr ⟨this.2, by rw [← this.1]; exact hRg.out g R' hRR⟩
        go_wp2_with fail
        refine (front_e hS.out (qb := pb) (L := R) (by simp) hfr).mono ?_
        rintro r w8 ⟨rfl, hg8⟩
        have h8 := (hS.out.grown hg8).box (.cells #[.string f.n, .int .u64 f.at_] 36)
        go_wp2_with fail
        refine (alive_s h8).mono ?_
        rintro r w9 ⟨rfl, h9⟩
        obtain ⟨c0, c1, _⟩ := own_b h9.b
        rcases hfb with rfl | ⟨rfl, hgt⟩
        · go_wp2
          go_ret
          exact ⟨rfl, h9.2⟩
        · have hd5 : decide (f.at_ > now) = true := by simp; omega
          go_wp2
          go_ret
          exact ⟨rfl, h9.2⟩
end Go.Proofs.Ytipcoghhnbgalaa
