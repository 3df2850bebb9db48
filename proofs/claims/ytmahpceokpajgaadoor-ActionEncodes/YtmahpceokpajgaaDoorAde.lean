/- action.Decode. -/
import Derived.Test.YtmahpceokpajgaaDoorSto
namespace Go.Proofs.YtmahpceokpajgaaDoor
open Go.RowKit Go.IntWalk Go.Maps Go.Shelf
set_option linter.unusedVariables false
theorem flds_at {n₀ : Nat} {W : World} {a : Option Addr} {len cap : Nat} {fs : List C.Fd} (h : C.Flds n₀ W (.slice a len cap) fs) {j : Nat} {f : C.Fd} (hj : fs[j]? = some f) :
    ∃ b off, a = some ⟨b, off, none⟩ ∧ b < n₀ ∧ f.ok n₀ W ∧ W.cell? ⟨b, off + j * 2, none⟩ = some (.int .i64 f.tag) ∧ W.cell? ⟨b, off + j * 2 + 1, none⟩ = some (.slice f.a f.len f.cap) := by
  obtain ⟨⟨_, rfl⟩ | ⟨b, off, c, e, hb, hl, hm, hc⟩, hz⟩ := h
  · simp at hj
  · simp only [Value.slice.injEq] at e
    exact ⟨b, off, e.1, hb, hz f (List.mem_of_getElem? hj), (hc j f hj).1, (hc j f hj).2⟩
theorem flds_shape {n₀ : Nat} {W : World} {v : Value} {fs : List C.Fd} (h : C.Flds n₀ W v fs) : ∃ a cap, v = .slice a fs.length cap := by
  obtain ⟨⟨rfl | ⟨ad, cap, rfl⟩, rfl⟩ | ⟨b, off, cap, rfl, _⟩, _⟩ := id h
  · exact ⟨_, _, rfl⟩
  · exact ⟨_, _, rfl⟩
  · exact ⟨_, _, rfl⟩
theorem bz_of {zs : List Int} (h : ∀ z ∈ zs, 0 ≤ z ∧ z < 256) : ∃ D, bz D = zs := by
  induction zs with
  | nil => exact ⟨[], rfl⟩
  | cons z zs ih =>
    obtain ⟨D, rfl⟩ := ih fun y hy => h y (by simp [hy])
    obtain ⟨h1, h2⟩ := h z (by simp)
    refine ⟨UInt8.ofNat z.toNat :: D, ?_⟩
    simp only [bz, List.map_cons, List.cons.injEq, and_true]
    rw [UInt8.toNat_ofNat_of_lt' (by show z.toNat < 256; omega)]
    omega
/-- A step as a field, in no memory. -/
def fdo (x : Sp) : C.Fd := ⟨x.kd, none, (dat x).length, 0, bz (dat x)⟩
theorem fdo_said (xs : List Sp) : (xs.map fdo).map C.said = xs.map fof := by simp [fdo, C.said, fof, Function.comp_def]
theorem encX_fdo (xs : List Sp) : C.encL (xs.map fdo) = encX xs := encL_of (fdo_said xs)
/-- A step is the one of its data. -/
def Stb (x : Sp) : Prop := stp x.kd (dat x) = some x
theorem fof_inj {x y : Sp} (hx : Stb x) (hy : Stb y) (h : fof x = fof y) : x = y := by
  simp only [fof, Prod.mk.injEq] at h
  have h2 := bz_inj h.2
  unfold Stb at hx hy
  rw [h.1, h2, hy] at hx
  exact (Option.some.inj hx).symm
theorem fofs_inj : ∀ {xs ys : List Sp}, (∀ x ∈ xs, Stb x) → (∀ y ∈ ys, Stb y) → xs.map fof = ys.map fof → xs = ys
  | [], [], _, _, _ => rfl
  | [], _ :: _, _, _, h => by simp at h
  | _ :: _, [], _, _, h => by simp at h
  | x :: xs, y :: ys, hx, hy, h => by
    simp only [List.map_cons, List.cons.injEq] at h
    rw [fof_inj (hx x (by simp)) (hy y (by simp)) h.1, fofs_inj (fun z hz => hx z (by simp [hz])) (fun z hz => hy z (by simp [hz])) h.2]
theorem wr0 {xs : List Sp} (h : wrE xs = 0) : xs.length ≤ 4 ∧ xs.all rgt = true := by
  unfold wrE at h
  split at h
  · split at h
    · exact ⟨by assumption, by assumption⟩
    · cases h
  · cases h
theorem stb_of {xs : List Sp} (h : wrE xs = 0) (hok : ∀ x ∈ xs, x.ok) : ∀ x ∈ xs, Stb x := fun x hx => stp_right (List.all_eq_true.1 (wr0 h).2 x hx) (hok x hx).2.2.2
/-- Whose bytes these are is told by the fields. -/
theorem enc_fields {fs : List C.Fd} {ys : List Sp} (h : C.encL fs = encX ys) : fs.map C.said = ys.map fof := by
  rw [← encX_fdo] at h
  rw [C.encL_inj h, fdo_said]
def Sp.cells (x : Sp) : List Value := [.int .i64 x.kd, .string (bt x.ky), .string (bt x.vl), .int .i64 x.n]
def cellsS (xs : List Sp) : List Value := xs.flatMap Sp.cells
theorem cellsS_len (xs : List Sp) : (cellsS xs).length = xs.length * 4 := by
  induction xs with
  | nil => rfl
  | cons a r ih => simp only [cellsS, List.flatMap_cons, List.length_append, List.length_cons] at ih ⊢; rw [ih]; simp [Sp.cells]; omega
theorem cellsS_at {xs : List Sp} {j : Nat} {x : Sp} (h : xs[j]? = some x) (i : Nat) (hi : i < 4) : (cellsS xs)[j * 4 + i]? = x.cells[i]? := by
  induction xs generalizing j with
  | nil => simp at h
  | cons a r ih =>
    cases j with
    | zero =>
      simp at h
      subst h
      have : (cellsS (a :: r)) = a.cells ++ cellsS r := rfl
      rw [this, List.getElem?_append_left (by simp [Sp.cells]; omega)]
      simp
    | succ j =>
      have : (cellsS (a :: r)) = a.cells ++ cellsS r := rfl
      rw [this, List.getElem?_append_right (by simp [Sp.cells]; omega)]
      have e : (j + 1) * 4 + i - a.cells.length = j * 4 + i := by simp [Sp.cells]; omega
      rw [e]
      exact ih (by simpa using h)
theorem sps_of_own {W : World} {base : Nat} {v : Value} {xs : List Sp} (h : W.ownsRow base 36 4 v xs.length (cellsS xs)) (hok : ∀ x ∈ xs, x.ok) : Sps W.heap.size W v xs := by
  rcases id h.2 with ⟨rfl, h0⟩ | ⟨g, cap, cur, rfl, hb, hg, hn, hm, hs, ht⟩
  · exact .inl ⟨.inl rfl, List.eq_nil_of_length_eq_zero h0⟩
  · refine .inr ⟨g, 0, cap, rfl, (Array.getElem?_eq_some_iff.1 hg).1, hn, hm, fun j x hj => ⟨hok x (List.mem_of_getElem? hj), ?_⟩⟩
    have key : ∀ i (u : Value), x.cells[i]? = some u → i < 4 → W.cell? ⟨g, 0 + j * 4 + i, none⟩ = some u := fun i u hu hi => by
      have := h.cells (g := g) rfl (j * 4 + i) u (by rw [cellsS_at hj i hi]; exact hu)
      rw [addr_add] at this
      rw [show 0 + j * 4 + i = 0 + (j * 4 + i) by omega]
      exact this
    exact ⟨key 0 _ rfl (by omega), key 1 _ rfl (by omega), key 2 _ rfl (by omega), key 3 _ rfl (by omega)⟩
theorem info36d : (Tryd.prog.info? 36).map (fun i => (i.zero, i.size, i.bytes)) = some (some (.agg #[.int .i64 0, .string { data := #[] }, .string { data := #[] }, .int .i64 0]), 4, 48) := by kernel_rfl
theorem wpList_app_stp {ops : Array Oper} {rest : List Oper} {o : Oper} {a : Act} {w : World} {Q : Exit → Act → World → Prop} (hg : o.guard = none) (sl x : Operand) (hop : o.op = Op.call { callee := Callee.builtin Builtin.append, args := #[sl, x], argTypes := #[22, 22] })
    {v : Value} {xs : List Sp} {y : Sp} {s : Nat} {ad : Nat} (hs : a.eval sl = v) (hx : a.eval x = .slice (some ⟨ad, 0, none⟩) 1 1) (hown : w.ownsRow s 36 4 v xs.length (cellsS xs)) (hc : ∀ j u, y.cells[j]? = some u → w.cell? ⟨ad, j, none⟩ = some u) (hl : xs.length ≤ 4096) (hb : s ≤ w.heap.size)
    (hK : ∀ v' w', w'.ownsRow s 36 4 v' (xs ++ [y]).length (cellsS (xs ++ [y])) → w.grownBy w' v.ownBlock → wpList Tryd.prog ops Q rest (a.put o.dst v') w') : wpList Tryd.prog ops Q (o :: rest) a w := by
  obtain ⟨i0, hi, hz0, hz1, hz2⟩ := info_parts info36d
  refine wpList_append_own w hg sl x 22 hop s 36 i0 _ 4 48 Tryd.underlying22 hi hz0 hz1 hz2 rfl (by decide) v xs.length _ hs hown ⟨ad, 0, none⟩ 1 1 y.cells hx (by simp [Sp.cells]) (fun j u hj => by rw [addr_add, Nat.zero_add]; exact hc j u hj) (fun u hu => by
    simp only [Sp.cells, List.mem_cons, List.not_mem_nil, or_false] at hu
    rcases hu with rfl | rfl | rfl | rfl <;> rfl) (by unfold maxLen; omega) (by omega) hb fun v' w' h1 h2 _ => ?_
  have e : cellsS xs ++ y.cells = cellsS (xs ++ [y]) := by simp [cellsS]
  rw [e] at h1
  exact hK v' w' (by rw [List.length_append]; exact h1) h2
/-- What is known of the steps so far. -/
structure Sqo (B : Nat) (w wr : World) (v : Value) (xs : List Sp) (fs : List C.Fd) : Prop where
  row : wr.ownsRow B 36 4 v xs.length (cellsS xs)
  ok : ∀ x ∈ xs, x.ok ∧ Stb x
  said : fs.map C.said = xs.map fof
  g : w.grownBy wr none
theorem Sqo.keep {B : Nat} {w wr wr' : World} {v : Value} {xs : List Sp} {fs : List C.Fd} (h : Sqo B w wr v xs fs) (hg : wr.grownBy wr' none) : Sqo B w wr' v xs fs :=
  ⟨h.row.kept hg (Classical.em _), h.ok, h.said, grown_none h.g hg⟩
theorem stp_stb {t : Int} {d : K} {x : Sp} (h : stp t d = some x) : Stb x := by
  obtain ⟨e1, e2⟩ := stp_dat h
  unfold Stb
  rw [e1, e2]
  exact h
/-- What Decode answers. -/
def DecA (zs : List Int) (w' : World) (e : Ending) : Prop :=
  (∃ u xs, e = .returned (.tuple #[u, .int .i64 0]) ∧ Sps w'.heap.size w' u xs ∧ wrE xs = 0 ∧ zs = encX xs) ∨ (e = .returned (.tuple #[.slice none 0 0, .int .i64 12]) ∧ ∀ xs : List Sp, (∀ x ∈ xs, x.ok) → wrE xs = 0 → zs ≠ encX xs)
set_option maxRecDepth 100000 in
set_option maxHeartbeats 4000000 in
theorem decA_any (w : World) (h : Dr w) {v : Value} {zs : List Int} (hb : C.Bts w.heap.size w v zs) : Calls Tryd.prog 11 #[v] w fun e w' => DecA zs w' e ∧ w.grownBy w' none := by
  have hdc := C.decSaid v zs w hb
  replace h : Hid _ := ⟨h⟩
  obtain ⟨i0, hi, hz0, hz1, hz2⟩ := info_parts info36d
  go_enter Tryd.func11, Tryd.ntmps11
  go_wp2_with fail
  refine hdc.mono ?_
  rintro e w1 ⟨⟨u, fs, rfl, hfl, hze, hok⟩ | ⟨rfl, hno⟩, hb1⟩
  · have hg1 := grown_of hb1
    obtain ⟨a, cap, rfl⟩ := flds_shape hfl
    have hfl200 : fs.length ≤ 200 ∧ ∀ f ∈ fs, f.zs.length ≤ 2000 := by
      simp only [C.okL, Bool.and_eq_true, decide_eq_true_eq, List.all_eq_true] at hok
      exact ⟨hok.1, fun f hf => by have := C.rightB_true (hok.2 f hf); omega⟩
    replace hze : Hid _ := ⟨hze⟩
    replace hok : Hid _ := ⟨hok⟩
    obtain ⟨hf1, hf2⟩ := hfl200
    replace hf2 : Hid _ := ⟨hf2⟩
    clear hdc hb
    go_wp2_with (at_make; go_must (refine wpList_make_own _ rfl _ _ 22 rfl w1.heap.size 36 i0 (.agg #[.int .i64 0, .string { data := #[] }, .string { data := #[] }, .int .i64 0]) 4 Tryd.underlying22 hi hz0 hz1 .i64 .i64 (fs.length : Int) fs.length rfl rfl rfl (by rw [hz2]; omega) (by unfold maxLen; omega) (Nat.le_refl _) ?_); intro w2 hr2 hg2; refine Hid.out ?_)
    refine ⟨?_⟩
    have hF0 : Hid (Sqo w1.heap.size w w2 (.slice (some ⟨w1.heap.size, 0, none⟩) 0 fs.length) [] (fs.take 0)) := ⟨⟨hr2, by simp, rfl, grown_none hg1 hg2⟩⟩
    have hrd : ∀ wr, w.grownBy wr none → w1.grownBy wr none → C.Flds w1.heap.size wr (.slice a fs.length cap) fs := fun wr _ hg => hfl.below (below_of' hg)
    have hstep : Hid (w1.grownBy w2 none) := ⟨hg2⟩
    replace hrd : Hid _ := ⟨hrd⟩
    replace hg1 : Hid _ := ⟨hg1⟩
    clear hr2 hg2 hfl hb1
    go_wp2_with fail
    go_loopw [6, 23] (fun v iv wr => ∃ (i : Nat) (xs : List Sp), iv = .int .i64 i ∧ i ≤ fs.length ∧ Hid (Sqo w1.heap.size w wr v xs (fs.take i)) ∧ Hid (w1.grownBy wr none))
      (fun _ iv _ => fs.length - (intOf iv).toNat)
    case atStart => exact ⟨0, [], rfl, by omega, hF0, hstep⟩
    case round =>
      clear hF0 hstep
      obtain ⟨i, xs, rfl, hi', hF, hg1r⟩ := hrel
      by_cases hlt : i < fs.length
      · have hdi : decide ((i : Int) < fs.length) = true := by simp; omega
        obtain ⟨f, hfi⟩ : ∃ f, fs[i]? = some f := ⟨_, List.getElem?_eq_getElem hlt⟩
        obtain ⟨b, off, rfl, hbl, hfok, c0, c1⟩ := flds_at (hrd.out wr hF.out.g hg1r.out) hfi
        have hfl2 := hf2.out f (List.mem_of_getElem? hfi)
        obtain ⟨ft, fa, fl, fc, fz⟩ := f
        have hfln : fl = fz.length := hfok.len
        obtain ⟨D, hDz⟩ := bz_of hfok.1.2
        simp only at c0 c1 hDz hfln hfl2
        have hDl : D.length = fl := by rw [hfln, ← hDz, bz_len]
        have hga := World.grownBy_alloc wr (.cells #[.int .i64 ft, .slice fa fl fc] 55) none
        have d0 := cell_new wr #[.int .i64 ft, .slice fa fl fc] 55 (i := 0) rfl
        have d1 := cell_new wr #[.int .i64 ft, .slice fa fl fc] 55 (i := 1) rfl
        have hF1 := hF.out.keep hga
        have hxl : xs.length = i := by have := congrArg List.length hF.out.said; simp at this; omega
        have hbt : C.Bts (wr.alloc (.cells #[.int .i64 ft, .slice fa fl fc] 55)).heap.size (wr.alloc (.cells #[.int .i64 ft, .slice fa fl fc] 55)) (.slice fa D.length fc) (bz D) := by
          have h1 : C.Bts w1.heap.size wr (.slice fa fl fc) fz := hfok.1
          rw [hDl, hDz]
          have hle : w1.heap.size ≤ wr.heap.size := hg1r.out.size
          exact (h1.below ((below_of' hga).mono hle)).mono (Nat.le_trans hle hga.size)
        obtain ⟨o, ho⟩ : ∃ o, Hid (stp ft D = o) := ⟨_, ⟨rfl⟩⟩
        have hst := stepOf_any _ (h.out.keep hF1.g) ft hfok.2 fa fc D (by omega) hbt ho
        rw [hDl] at hst
        replace hF1 : Hid _ := ⟨hF1⟩
        replace hga : Hid _ := ⟨hga⟩
        replace hg1r : Hid _ := hg1r
        have hft := hfok.2
        replace hDz : Hid _ := ⟨hDz⟩
        replace hfi : Hid _ := ⟨hfi⟩
        replace hDl : Hid _ := ⟨hDl⟩
        replace hfln : Hid _ := ⟨hfln⟩
        clear hF hfok hbt
        cases o with
        | none =>
          simp only [spV, Sp.val] at hst
          replace hst : Hid _ := ⟨hst⟩
          have hfin : Hid (∀ ys : List Sp, (∀ x ∈ ys, x.ok) → wrE ys = 0 → zs ≠ encX ys) := ⟨fun ys hy h0 e => by
            have e1 := enc_fields (hze.out.symm.trans e)
            have e2 := congrArg (fun l => l[i]?) e1
            simp only [List.getElem?_map, hfi.out, Option.map_some] at e2
            cases hyi : ys[i]? with
            | none => rw [hyi] at e2; cases e2
            | some y =>
              rw [hyi] at e2
              simp only [Option.map_some, Option.some.injEq, C.said, fof, Prod.mk.injEq] at e2
              have hyb := stb_of h0 hy y (List.mem_of_getElem? hyi)
              have : D = dat y := bz_inj (hDz.out.trans e2.2)
              have h2 := ho.out
              rw [e2.1, this] at h2
              unfold Stb at hyb
              rw [hyb] at h2
              cases h2⟩
          clear ho hft
          go_wp2_with fail
          refine hst.out.mono ?_
          rintro e w6 ⟨rfl, hg6⟩
          have hg := grown_none hF1.out.g hg6
          clear hst hg6
          go_wp2_with fail
          go_ret2
          exact ⟨.inr ⟨rfl, hfin.out⟩, grown_add hg (World.grownBy_alloc _ _ none)⟩
        | some x =>
          simp only [spV, Sp.val] at hst
          replace hst : Hid _ := ⟨hst⟩
          have hxok := stp_ok hft (by unfold maxLen; have := hDl.out; have := hfln.out; omega) ho.out
          have hxsb := stp_stb ho.out
          have hxdat := stp_dat ho.out
          replace hxok : Hid _ := ⟨hxok⟩
          replace hxsb : Hid _ := ⟨hxsb⟩
          replace hxdat : Hid _ := ⟨hxdat⟩
          clear hft
          go_wp2_with fail
          refine hst.out.mono ?_
          rintro e w6 ⟨rfl, hg6⟩
          have hga7 := World.grownBy_alloc w6 (.cells #[.int .i64 x.kd, .string (bt x.ky), .string (bt x.vl), .int .i64 x.n] 36) none
          have hg8 := grown_none hga7 (World.grownBy_alloc _ (.cells #[.int .i64 x.kd, .string (bt x.ky), .string (bt x.vl), .int .i64 x.n] 36) none)
          have hF8 := (hF1.out.keep hg6).keep hg8
          have hg1r8 : Hid (w1.grownBy ((w6.alloc (.cells #[.int .i64 x.kd, .string (bt x.ky), .string (bt x.vl), .int .i64 x.n] 36)).alloc (.cells #[.int .i64 x.kd, .string (bt x.ky), .string (bt x.vl), .int .i64 x.n] 36)) none) := ⟨grown_none (grown_none hg1r.out hga.out) (grown_none hg6 hg8)⟩
          have m0 := cell_new w6 #[.int .i64 x.kd, .string (bt x.ky), .string (bt x.vl), .int .i64 x.n] 36 (i := 0) rfl
          have m1 := cell_new w6 #[.int .i64 x.kd, .string (bt x.ky), .string (bt x.vl), .int .i64 x.n] 36 (i := 1) rfl
          have m2 := cell_new w6 #[.int .i64 x.kd, .string (bt x.ky), .string (bt x.vl), .int .i64 x.n] 36 (i := 2) rfl
          have m3 := cell_new w6 #[.int .i64 x.kd, .string (bt x.ky), .string (bt x.vl), .int .i64 x.n] 36 (i := 3) rfl
          have hcl : Hid (∀ j u, x.cells[j]? = some u → ((w6.alloc (.cells #[.int .i64 x.kd, .string (bt x.ky), .string (bt x.vl), .int .i64 x.n] 36)).alloc (.cells #[.int .i64 x.kd, .string (bt x.ky), .string (bt x.vl), .int .i64 x.n] 36)).cell? ⟨w6.heap.size + 1, j, none⟩ = some u) := ⟨fun j u hj => by
            have e := cell_new (w6.alloc (.cells #[.int .i64 x.kd, .string (bt x.ky), .string (bt x.vl), .int .i64 x.n] 36)) #[.int .i64 x.kd, .string (bt x.ky), .string (bt x.vl), .int .i64 x.n] 36 (i := j) (v := u) (by rw [← hj]; simp [Sp.cells])
            rw [show (w6.alloc (.cells #[.int .i64 x.kd, .string (bt x.ky), .string (bt x.vl), .int .i64 x.n] 36)).heap.size = w6.heap.size + 1 by simp] at e
            exact e⟩
          replace hF8 : Hid _ := ⟨hF8⟩
          have hwz : w1.heap.size ≤ ((w6.alloc (.cells #[.int .i64 x.kd, .string (bt x.ky), .string (bt x.vl), .int .i64 x.n] 36)).alloc (.cells #[.int .i64 x.kd, .string (bt x.ky), .string (bt x.vl), .int .i64 x.n] 36)).heap.size := hg1r8.out.size
          clear hst hg6 hga7 hg8 hF1 hg1r hga
          go_wp2_with (at_builtin; go_must (refine wpList_app_stp rfl _ _ rfl (v := u6) rfl rfl hF8.out.row hcl.out (by omega) hwz ?_); intro v7 w7 hr7 hg7; refine Hid.out ?_)
          refine ⟨?_⟩
          have hown : ∀ k, u6.ownBlock = some k → w.heap.size ≤ k ∧ w1.heap.size ≤ k := fun k hk => by
            have hw1s := hg1.out.size
            rcases id hF8.out.row.2 with ⟨e, _⟩ | ⟨g, cp, cur, e, hge, hg6, _⟩
            · rw [e] at hk; cases hk
            · rw [e] at hk
              simp only [Value.ownBlock, Option.some.injEq] at hk
              subst hk
              omega
          have hF9 : Hid (Sqo w1.heap.size w w7 v7 (xs ++ [x]) (fs.take (i + 1))) := ⟨hr7, fun y hy => by
            rcases List.mem_append.1 hy with hy | hy
            · exact hF8.out.ok y hy
            · simp only [List.mem_singleton] at hy
              subst hy
              exact ⟨hxok.out, hxsb.out⟩, by
            rw [List.take_add_one, hfi.out, List.map_append, List.map_append, hF8.out.said]
            simp only [Option.toList_some, List.map_cons, List.map_nil, C.said, fof]
            rw [hxdat.out.1, hxdat.out.2, hDz.out], hF8.out.g.andThen hg7 fun j hj => .inl (hown j hj).1⟩
          have hg1r9 : Hid (w1.grownBy w7 none) := ⟨hg1r8.out.andThen hg7 fun j hj => .inl (hown j hj).2⟩
          clear hr7 hg7 hown hF8 hcl hg1r8
          go_wp2_with fail
          exact ⟨⟨i + 1, _, by go_num, by omega, hF9, hg1r9⟩, by simp [intOf] <;> omega⟩
      · have hdi : decide ((i : Int) < fs.length) = false := by simp; omega
        have hF1 : Sqo w1.heap.size w wr u6 xs fs := by
          have := hF.out
          rw [List.take_of_length_le (by omega)] at this
          exact this
        have hsp := sps_of_own hF1.row fun x hx => (hF1.ok x hx).1
        obtain ⟨r, hr⟩ : ∃ r, Hid (wrE xs = r) := ⟨_, ⟨rfl⟩⟩
        have hwr := wrong_any wr hsp hr
        replace hwr : Hid _ := ⟨hwr⟩
        replace hsp : Hid _ := ⟨hsp⟩
        replace hF1 : Hid _ := ⟨hF1⟩
        clear hF
        by_cases hr0 : r = 0
        · subst hr0
          go_wp2_with fail
          refine hwr.out.mono ?_
          rintro e w6 ⟨rfl, hg6⟩
          have hfin := hsp.out.keep hg6 (Nat.le_refl _)
          have hfin := hfin.up hg6.size
          clear hwr hsp
          go_wp2_with fail
          go_ret2
          exact ⟨.inl ⟨_, xs, rfl, hfin, hr.out, hze.out.trans (encL_of hF1.out.said)⟩, grown_none hF1.out.g hg6⟩
        · have hrb : (r != 0) = true := by simpa using hr0
          have hfin : Hid (∀ ys : List Sp, (∀ x ∈ ys, x.ok) → wrE ys = 0 → zs ≠ encX ys) := ⟨fun ys hy h0 e => by
            have e1 := enc_fields (hze.out.symm.trans e)
            have e2 := fofs_inj (fun x hx => (hF1.out.ok x hx).2) (stb_of h0 hy) (hF1.out.said.symm.trans e1)
            rw [e2] at hr
            exact hr0 (hr.out.symm.trans h0)⟩
          go_wp2_with fail
          refine hwr.out.mono ?_
          rintro e w6 ⟨rfl, hg6⟩
          have hg := grown_none hF1.out.g hg6
          clear hwr hsp
          go_wp2_with fail
          go_ret2
          exact ⟨.inr ⟨rfl, hfin.out⟩, hg⟩
  · have hg1 := grown_of hb1
    have hfin : Hid (∀ xs : List Sp, (∀ x ∈ xs, x.ok) → wrE xs = 0 → zs ≠ encX xs) := ⟨fun xs hx h0 e => hno (xs.map fdo) (okL_of (fdo_said xs) (wr0 h0).1 (wr0 h0).2 hx) (by rw [encX_fdo]; exact e)⟩
    clear hdc hno hb
    go_wp2_with fail
    go_ret2
    exact ⟨.inr ⟨rfl, hfin.out⟩, hg1⟩
end Go.Proofs.YtmahpceokpajgaaDoor
