/- The document's steps of bytes: belfryref09.Decode. -/
import Derived.Test.YtmahpceokpajgaaDoorRen
import Derived.Test.YtmahpceokpajgaaDoorRsu
import Derived.Test.YtmahpceokpajgaaDoorSto
namespace Go.Proofs.YtmahpceokpajgaaDoor
open Go.RowKit Go.IntWalk Go.Maps Go.Shelf
set_option linter.unusedVariables false
set_option linter.unusedSimpArgs false
theorem bt_cut (k : K) (a b : Nat) : (bt k).extract a b = bt ((k.take b).drop a) := by
  unfold bt
  rw [ByteArray.extract_mk]
  congr 1
  apply Array.toList_inj.1
  simp only [List.extract_toArray, List.extract_eq_take_drop]
  rw [List.drop_take]
/-- A step that the document's Decode makes of a field's tag and data. -/
def StR (t : Int) (D : K) (x : Sp) : Prop := x.kd = t ∧ ∃ c rest, D = c :: (x.ky ++ rest) ∧ x.ky.length = c.toNat ∧ (t = 3 → x.vl = [] ∧ ∀ m, numOf rest = some m → x.n = m) ∧ (t ≠ 3 → x.vl = rest ∧ x.n = 0)
theorem rgt_more {y : Sp} (h : rgt y = true) : (y.kd = 3 → y.vl = []) ∧ (y.kd ≠ 3 → y.n = 0) := by
  simp only [rgt, Bool.and_eq_true, Bool.or_eq_true, beq_iff_eq, List.isEmpty_iff, decide_eq_true_eq, Bool.not_eq_true'] at h
  obtain ⟨_, h⟩ := h
  constructor
  · intro h3
    rcases h with (⟨h1, _⟩ | ⟨_, h2⟩) | ⟨_, h2, _⟩
    · omega
    · exact h2
    · exact h2
  · intro h3
    rcases h with (⟨_, h2⟩ | ⟨h1, _⟩) | ⟨_, _, h2⟩
    · exact h2
    · exact absurd h1 h3
    · exact h2
theorem dat_size {y : Sp} (h : rgt y = true) : ∃ c rest, dat y = c :: (y.ky ++ rest) ∧ c.toNat = y.ky.length ∧ rest = (if y.kd = 3 then Lib.itoa y.n else y.vl) := by
  have hk := (rgt_kd h).2.2.1
  refine ⟨UInt8.ofNat y.ky.length, _, by unfold dat; rfl, ?_, rfl⟩
  exact UInt8.toNat_ofNat_of_lt' (by show y.ky.length < 256; omega)
theorem str_of {x y : Sp} (hy : rgt y = true) (hyo : y.ok) (h : StR y.kd (dat y) x) : x = y := by
  obtain ⟨h1, c, rest, h2, h3, h4, h5⟩ := h
  obtain ⟨c', rest', e1, e2, e3⟩ := dat_size hy
  rw [e1] at h2
  obtain ⟨rfl, h6⟩ := List.cons.inj h2
  obtain ⟨h7, h8⟩ := List.append_inj h6 (by omega)
  obtain ⟨hm1, hm2⟩ := rgt_more hy
  obtain ⟨kd, ky, vl, n⟩ := x
  obtain ⟨kd', ky', vl', n'⟩ := y
  simp only at h1 h7 h4 h5 e3 hm1 hm2 h3 hyo
  subst h1 h7
  by_cases h0 : kd = 3
  · obtain ⟨a1, a2⟩ := h4 h0
    rw [if_pos h0] at e3
    have h9 := a2 n' (by rw [← h8, e3]; exact numOf_itoa hyo.2.2.2)
    rw [a1, h9, hm1 h0]
  · obtain ⟨a1, a2⟩ := h5 h0
    rw [if_neg h0] at e3
    rw [a1, a2, hm2 h0, ← h8, e3]
/-- What the loop has made so far. -/
def Out (fs : List C.Fd) (xs : List Sp) : Prop := (∀ (j : Nat) (f : C.Fd) (x : Sp), fs[j]? = some f → xs[j]? = some x → ∃ D, bz D = f.zs ∧ StR f.tag D x) ∧ ∀ x ∈ xs, x.ok
theorem Out.all {fs : List C.Fd} {xs ys : List Sp} (h : Out fs xs) (hl : xs.length = fs.length) (he : fs.map C.said = ys.map fof) (hy : ∀ y ∈ ys, y.ok) (hr : wrE ys = 0) : xs = ys := by
  have hl2 : ys.length = fs.length := by have := congrArg List.length he; simpa using this.symm
  refine List.ext_getElem? fun j => ?_
  by_cases hj : j < fs.length
  · have e1 : fs[j]? = some fs[j] := List.getElem?_eq_getElem hj
    have e2 : xs[j]? = some xs[j] := List.getElem?_eq_getElem (by omega)
    have e3 : ys[j]? = some ys[j] := List.getElem?_eq_getElem (by omega)
    obtain ⟨D, hD, hS⟩ := h.1 j _ _ e1 e2
    have e4 := congrArg (fun l => l[j]?) he
    simp only [List.getElem?_map, e1, e3, Option.map_some, Option.some.injEq, C.said, fof, Prod.mk.injEq] at e4
    have hyr := List.all_eq_true.1 (wr0 hr).2 ys[j] (List.getElem_mem _)
    have h9 : xs[j] = ys[j] := str_of hyr (hy _ (List.getElem_mem _)) (by rw [← e4.1, ← bz_inj (hD.trans e4.2)]; exact hS)
    rw [e2, e3, h9]
  · rw [List.getElem?_eq_none (by omega), List.getElem?_eq_none (by omega)]
theorem Out.snoc {fs : List C.Fd} {xs : List Sp} (h : Out fs xs) {f : C.Fd} (hf : fs[xs.length]? = some f) {x : Sp} {D : K} (hD : bz D = f.zs) (hS : StR f.tag D x) (hx : x.ok) : Out fs (xs ++ [x]) := by
  refine ⟨fun j f' x' h1 h2 => ?_, fun y hy => ?_⟩
  · rcases Nat.lt_trichotomy j xs.length with hj | hj | hj
    · rw [List.getElem?_append_left hj] at h2
      exact h.1 j f' x' h1 h2
    · subst hj
      rw [List.getElem?_append_right (Nat.le_refl _), Nat.sub_self] at h2
      simp at h2
      rw [hf] at h1
      cases h1
      subst h2
      exact ⟨D, hD, hS⟩
    · rw [List.getElem?_append_right (by omega), List.getElem?_eq_none (by simp; omega)] at h2
      cases h2
  · rcases List.mem_append.1 hy with hy | hy
    · exact h.2 y hy
    · rw [List.mem_singleton.1 hy]; exact hx
/-- belfryref01.Decode. -/
theorem refdec_any (w : World) {v : Value} {zs : List Int} (hb : C.Bts w.heap.size w v zs) (hl5 : zs.length ≤ 5000) :
    Calls Tryd.prog 29 #[v] w fun e W' => ((∃ u xs, e = .returned (.tuple #[u, .int .i64 0]) ∧ C.Flds W'.heap.size W' u xs ∧ zs = C.encL xs ∧ C.okL xs = true) ∨ (e = .returned (.tuple #[.slice none 0 0, .int .i64 12]) ∧ ∀ xs, C.okL xs = true → zs ≠ C.encL xs)) ∧ Below w.heap.size w W' := by
  have hb' := hb
  rcases hb with ⟨⟨rfl | ⟨ad, cap, rfl⟩, rfl⟩ | ⟨b, off, cap, rfl, hbb, hl, hm, hc⟩, hz⟩
  · exact C.refdec_core none 0 0 (by omega) w [] rfl hb' fun j hj => by omega
  · exact C.refdec_core (some ad) 0 cap (by omega) w [] rfl hb' fun j hj => by omega
  · refine C.refdec_core _ _ cap hl5 w zs rfl hb' fun j hj => ⟨b, off, rfl, hbb, hc j hj, ?_⟩
    have e1 : zs[j]? = some zs[j] := List.getElem?_eq_getElem hj
    rw [e1]
    exact hz _ (List.getElem_mem hj)
theorem two_at (w : World) (cs : Array Value) : ∀ j u, cs.toList[j]? = some u → ((w.alloc (.cells cs 36)).alloc (.cells cs 36)).drew.cell? ⟨w.heap.size + 1, j, none⟩ = some u := fun j u hj => by
  have h := cell_new (w.alloc (.cells cs 36)) cs 36 (i := j) (v := u) (by simpa using hj)
  rw [show (w.alloc (.cells cs 36)).heap.size = w.heap.size + 1 by simp] at h
  exact h
theorem encX_byte {xs : List Sp} (h : wrE xs = 0) (hok : ∀ x ∈ xs, x.ok) : ∀ z ∈ encX xs, 0 ≤ z ∧ z < 256 := by
  intro z hz
  obtain ⟨x, hx, hz⟩ := List.mem_flatMap.1 hz
  have hk := rgt_kd (List.all_eq_true.1 (wr0 h).2 x hx)
  have hd := dat_len hk.2.2.1 hk.2.2.2.1 (hok x hx).2.2.2
  simp only [encP, fof, List.mem_cons, bz_len] at hz
  rcases hz with rfl | rfl | rfl | hz
  · omega
  · omega
  · omega
  · exact bz_in _ z hz
theorem no_short {fs : List C.Fd} {zs : List Int} (hz : zs = C.encL fs) {i : Nat} {f : C.Fd} (hf : fs[i]? = some f) {D : K} (hD : bz D = f.zs) (hb : D = [] ∨ ∃ c r, D = c :: r ∧ r.length < c.toNat) : ∀ ys : List Sp, (∀ x ∈ ys, x.ok) → wrE ys = 0 → zs ≠ encX ys := fun ys hy h0 e => by
  have e1 := enc_fields (hz.symm.trans e)
  have e2 := congrArg (fun l => l[i]?) e1
  simp only [List.getElem?_map, hf, Option.map_some] at e2
  cases hyi : ys[i]? with
  | none => rw [hyi] at e2; cases e2
  | some y =>
    rw [hyi] at e2
    simp only [Option.map_some, Option.some.injEq, C.said, fof, Prod.mk.injEq] at e2
    have hyr := List.all_eq_true.1 (wr0 h0).2 y (List.mem_of_getElem? hyi)
    have h9 : D = dat y := bz_inj (hD.trans e2.2)
    obtain ⟨c', rest, e3, e4, _⟩ := dat_size hyr
    rw [e3] at h9
    rcases hb with rfl | ⟨c, r, h10, h11⟩
    · cases h9
    · rw [h10] at h9
      obtain ⟨rfl, rfl⟩ := List.cons.inj h9
      simp at h11
      omega
set_option maxRecDepth 100000 in
set_option maxHeartbeats 4000000 in
theorem rdecA_any (w : World) {v : Value} {zs : List Int} (hb : C.Bts w.heap.size w v zs) (hl5 : zs.length ≤ 5000) : Calls Tryd.prog 12 #[v] w fun e w' => DecA zs w' e ∧ w.grownBy w' none := by
  obtain ⟨a0, c0, rfl⟩ : ∃ a0 c0, v = .slice a0 zs.length c0 := by
    rcases id hb.1 with ⟨rfl | ⟨ad, cap, rfl⟩, h0⟩ | ⟨b, off, cap, rfl, _⟩
    · exact ⟨none, 0, by rw [h0]; rfl⟩
    · exact ⟨_, _, by rw [h0]; rfl⟩
    · exact ⟨_, _, rfl⟩
  have hdc := refdec_any w hb hl5
  go_enter Tryd.func12, Tryd.ntmps12
  go_wp2_with fail
  refine hdc.mono ?_
  rintro e w1 ⟨⟨u, fs, rfl, hfl, hze, hok⟩ | ⟨rfl, hno⟩, hb1⟩
  · have hg1 := grown_of hb1
    obtain ⟨a, cap, rfl⟩ := flds_shape hfl
    have hfl200 : fs.length ≤ 200 ∧ ∀ f ∈ fs, f.zs.length ≤ 2000 := by
      simp only [C.okL, Bool.and_eq_true, decide_eq_true_eq, List.all_eq_true] at hok
      exact ⟨hok.1, fun f hf => by have := C.rightB_true (hok.2 f hf); omega⟩
    obtain ⟨hf1, hf2⟩ := hfl200
    replace hf2 : Hid _ := ⟨hf2⟩
    replace hok : Hid _ := ⟨hok⟩
    have hb2 := (hb.below hb1).mono hb1.size
    by_cases h4 : 4 < fs.length
    · have hfin : Hid (∀ ys : List Sp, (∀ x ∈ ys, x.ok) → wrE ys = 0 → zs ≠ encX ys) := ⟨fun ys hy h0 e => by
        have e1 := congrArg List.length (enc_fields (hze.symm.trans e))
        have := (wr0 h0).1
        simp at e1
        omega⟩
      replace hze : Hid _ := ⟨hze⟩
      go_wp2
      go_ret2
      exact ⟨.inr ⟨rfl, hfin.out⟩, hg1⟩
    · replace hze : Hid _ := ⟨hze⟩
      replace hb := Hid.mk hb
      replace hb2 := Hid.mk hb2
      replace hfl := Hid.mk hfl
      replace hg1 := Hid.mk hg1
      clear hdc hb1
      go_wp2
      go_loopw [6, 7] (fun v iv wr => ∃ (i : Nat) (xs : List Sp), iv = .int .i64 i ∧ i ≤ fs.length ∧ Hid (xs.length = i) ∧ Hid (wr.ownsRow w1.heap.size 36 4 v xs.length (cellsS xs)) ∧ Hid (Out fs xs) ∧ Hid (w1.grownBy wr none)) (fun _ iv _ => fs.length - (intOf iv).toNat)
      case atStart => exact ⟨0, [], rfl, by omega, ⟨rfl⟩, ⟨World.ownsRow_nil _ _ _ _⟩, ⟨⟨by simp, by simp⟩⟩, ⟨grown_refl _⟩⟩
      case round =>
        obtain ⟨i, xs, rfl, hi, hxl, hrow, hout, hgr⟩ := hrel
        by_cases hlt : i < fs.length
        · have hdi : decide ((i : Int) < fs.length) = true := by simp; omega
          obtain ⟨f, hfi⟩ : ∃ f, fs[i]? = some f := ⟨_, List.getElem?_eq_getElem hlt⟩
          obtain ⟨b, off, rfl, hbl, hfok, q0, q1⟩ := flds_at (hfl.out.below (below_of' hgr.out)) hfi
          have hfl2 := hf2.out f (List.mem_of_getElem? hfi)
          obtain ⟨ft, fa, fl, fc, fz⟩ := f
          obtain ⟨D, hDz⟩ := bz_of hfok.1.2
          simp only at q0 q1 hDz hfl2
          have hcv : ∀ w' : World, w1.grownBy w' none → (convert 23 9 (.slice fa fl fc)).run Tryd.prog wr = .ok (.string (bt D)) wr := fun w' _ => by
            have := C.run_conv hfok.1
            simp only [C.Fd.sl] at this
            rw [this, ← hDz, str_bz]
          have hcv := hcv _ hgr.out
          have hDl : D.length ≤ 2000 := by rw [← bz_len, hDz]; exact hfl2
          have hft := hfok.2
          simp only at hft
          replace hfi := Hid.mk hfi
          replace hDz := Hid.mk hDz
          clear hfok
          cases D with
          | nil =>
            have hfin := Hid.mk (no_short hze.out hfi.out hDz.out (.inl rfl))
            have hnz : (bt []).size = 0 := rfl
            go_wp2
            go_ret2
            exact ⟨.inr ⟨rfl, hfin.out⟩, grown_none hg1.out hgr.out⟩
          | cons c r =>
            have hsz : (bt (c :: r)).size = r.length + 1 := by rw [bt_size]; rfl
            have hg0 := get_bt (k := c :: r) (i := 0) (c := c) rfl
            have hcl := c.toNat_lt
            by_cases hsh : r.length < c.toNat
            · have hfin := Hid.mk (no_short hze.out hfi.out hDz.out (.inr ⟨c, r, rfl, hsh⟩))
              go_wp2
              go_ret2
              exact ⟨.inr ⟨rfl, hfin.out⟩, grown_none hg1.out hgr.out⟩
            · obtain ⟨ky, hky⟩ : ∃ ky, r.take c.toNat = ky := ⟨_, rfl⟩
              obtain ⟨rest, hrs⟩ : ∃ rest, r.drop c.toNat = rest := ⟨_, rfl⟩
              have hr2 : r = ky ++ rest := by rw [← hky, ← hrs, List.take_append_drop]
              have hkl : ky.length = c.toNat := by rw [← hky, List.length_take]; omega
              have hs1 : (bt (c :: r)).extract 1 (1 + c.toNat) = bt ky := by rw [bt_cut, ← hky, Nat.add_comm]; rfl
              have hs2 : (bt (c :: r)).extract (1 + c.toNat) (r.length + 1) = bt rest := by
                have := bt_drop (c :: r) (1 + c.toNat)
                rw [hsz] at this
                rw [this, ← hrs, Nat.add_comm]; rfl
              replace hky := Hid.mk hky
              replace hrs := Hid.mk hrs
              replace hr2 := Hid.mk hr2
              replace hkl := Hid.mk hkl
              have hw1 : IntKind.i64.wrap (c.toNat : Int) = c.toNat := by rw [IntKind.wrap_i64]; omega
              have hw2 : IntKind.i64.wrap (1 + (c.toNat : Int)) = 1 + c.toNat := by rw [IntKind.wrap_i64]; omega
              have hw3 : (1 + (c.toNat : Int)).toNat = 1 + c.toNat := by omega
              have hw4 : (1 : Int) + c.toNat ≤ r.length + 1 := by omega
              have hw5 : (0 : Int) ≤ c.toNat := by omega
              have hw6 : (0 : Int) ≤ 1 + c.toNat := by omega
              have hw7 : (1 : Int) ≤ 1 + c.toNat := by omega
              have q0' : wr.drew.cell? ⟨b, off + i * 2, none⟩ = some (.int .i64 ft) := q0
              go_wp2_with fail
              refine wp_region_held_drew (S := fun w' => w'.cell? ⟨b, off + i * 2, none⟩ = some (.int .i64 ft)) (by kernel_rfl) (by (try dsimp only); exact q0) (fun hHeld => ?_)
              refine wpAnyH_take (i := 0) (v := ?_) rfl (by kernel_rfl) (by kernel_rfl) (by kernel_rfl) (fun _ _ _ h => h) (Or.inl ⟨by rfl, ?_⟩) (by assumption) ?_
              rotate_left
              · (intro w hSw; (try dsimp only at hSw); go_simp; try with_reducible rfl)
              try simp only [List.getElem_toArray, List.getElem_cons_zero, List.getElem_cons_succ, Act.put, List.setIfInBounds_toArray, List.set_cons_zero, List.set_cons_succ]
              refine wpAnyH_take (i := 1) (v := ?_) rfl (by kernel_rfl) (by kernel_rfl) (by kernel_rfl) (fun _ _ _ h => h) (Or.inl ⟨by rfl, ?_⟩) (by assumption) ?_
              rotate_left
              · (intro w hSw; (try dsimp only at hSw); go_simp; try with_reducible rfl)
              try simp only [List.getElem_toArray, List.getElem_cons_zero, List.getElem_cons_succ, Act.put, List.setIfInBounds_toArray, List.set_cons_zero, List.set_cons_succ]
              refine wpAnyH_take (i := 2) (v := ?_) rfl (by kernel_rfl) (by kernel_rfl) (by kernel_rfl) (fun _ _ _ h => h) (Or.inl ⟨by rfl, ?_⟩) (by assumption) ?_
              rotate_left
              · (intro w hSw; (try dsimp only at hSw); go_simp; try with_reducible rfl)
              try simp only [List.getElem_toArray, List.getElem_cons_zero, List.getElem_cons_succ, Act.put, List.setIfInBounds_toArray, List.set_cons_zero, List.set_cons_succ]
              refine wpAnyH_take (i := 3) (v := ?_) rfl (by kernel_rfl) (by kernel_rfl) (by kernel_rfl) (fun _ _ _ h => h) (Or.inl ⟨by rfl, ?_⟩) (by assumption) ?_
              rotate_left
              · (intro w hSw; (try dsimp only at hSw); go_simp; try with_reducible rfl)
              try simp only [List.getElem_toArray, List.getElem_cons_zero, List.getElem_cons_succ, Act.put, List.setIfInBounds_toArray, List.set_cons_zero, List.set_cons_succ]
              refine wpAnyH_take (i := 4) (v := ?_) rfl (by kernel_rfl) (by kernel_rfl) (by kernel_rfl) (fun _ _ _ h => h) (Or.inl ⟨by rfl, ?_⟩) (by assumption) ?_
              rotate_left
              · (intro w hSw; (try dsimp only at hSw); go_simp; try with_reducible rfl)
              try simp only [List.getElem_toArray, List.getElem_cons_zero, List.getElem_cons_succ, Act.put, List.setIfInBounds_toArray, List.set_cons_zero, List.set_cons_succ]
              refine wpAnyH_take (i := 5) (v := ?_) rfl (by kernel_rfl) (by kernel_rfl) (by kernel_rfl) (fun _ _ _ h => h) (Or.inl ⟨by rfl, ?_⟩) (by assumption) ?_
              rotate_left
              · (intro w hSw; (try dsimp only at hSw); go_simp; try with_reducible rfl)
              try simp only [List.getElem_toArray, List.getElem_cons_zero, List.getElem_cons_succ, Act.put, List.setIfInBounds_toArray, List.set_cons_zero, List.set_cons_succ]
              refine wpAnyH_take (i := 6) (v := ?_) rfl (by kernel_rfl) (by kernel_rfl) (by kernel_rfl) (fun _ _ _ h => h) (Or.inl ⟨by rfl, ?_⟩) (by assumption) ?_
              rotate_left
              · (intro w hSw; (try dsimp only at hSw); go_simp; try with_reducible rfl)
              try simp only [List.getElem_toArray, List.getElem_cons_zero, List.getElem_cons_succ, Act.put, List.setIfInBounds_toArray, List.set_cons_zero, List.set_cons_succ]
              refine wpAnyH_take (i := 7) (v := ?_) rfl (by kernel_rfl) (by kernel_rfl) (by kernel_rfl) (fun _ _ _ h => h) (Or.inl ⟨by rfl, ?_⟩) (by assumption) ?_
              rotate_left
              · (intro w hSw; (try dsimp only at hSw); go_simp; try with_reducible rfl)
              try simp only [List.getElem_toArray, List.getElem_cons_zero, List.getElem_cons_succ, Act.put, List.setIfInBounds_toArray, List.set_cons_zero, List.set_cons_succ]
              refine wpAnyH_take (i := 8) (v := ?_) rfl (by kernel_rfl) (by kernel_rfl) (by kernel_rfl) (fun _ _ _ h => h) (Or.inl ⟨by rfl, ?_⟩) (by assumption) ?_
              rotate_left
              · (intro w hSw; (try dsimp only at hSw); go_simp; try with_reducible rfl)
              try simp only [List.getElem_toArray, List.getElem_cons_zero, List.getElem_cons_succ, Act.put, List.setIfInBounds_toArray, List.set_cons_zero, List.set_cons_succ]
              refine wpAnyH_take (i := 9) (v := ?_) rfl (by kernel_rfl) (by kernel_rfl) (by kernel_rfl) (fun _ _ _ h => h) (Or.inl ⟨by rfl, ?_⟩) (by assumption) ?_
              rotate_left
              · (intro w hSw; (try dsimp only at hSw); go_simp; try with_reducible rfl)
              try simp only [List.getElem_toArray, List.getElem_cons_zero, List.getElem_cons_succ, Act.put, List.setIfInBounds_toArray, List.set_cons_zero, List.set_cons_succ]
              refine wpAnyH_take (i := 10) (v := ?_) rfl (by kernel_rfl) (by kernel_rfl) (by kernel_rfl) (fun _ _ _ h => h) (Or.inl ⟨by rfl, ?_⟩) (by assumption) ?_
              rotate_left
              · (intro w hSw; (try dsimp only at hSw); go_simp; try with_reducible rfl)
              try simp only [List.getElem_toArray, List.getElem_cons_zero, List.getElem_cons_succ, Act.put, List.setIfInBounds_toArray, List.set_cons_zero, List.set_cons_succ]
              refine wpAnyH_take (i := 11) (v := ?_) rfl (by kernel_rfl) (by kernel_rfl) (by kernel_rfl) (fun _ _ _ h => h) (Or.inl ⟨by rfl, ?_⟩) (by assumption) ?_
              rotate_left
              · (intro w hSw; (try dsimp only at hSw); go_simp; try with_reducible rfl)
              try simp only [List.getElem_toArray, List.getElem_cons_zero, List.getElem_cons_succ, Act.put, List.setIfInBounds_toArray, List.set_cons_zero, List.set_cons_succ]
              refine wpAnyH_ready (rs := [12]) (by kernel_rfl) (by simp) ?_
              refine AllReadyH.cons rfl (fun K hK => ?_) AllReadyH.nil
              go_simp
              refine hK.out _ _ ?_ (fun hHeld => ?_)
              · ((try dsimp only); go_keep)
              clear hK K
              try simp only [List.getElem_toArray, List.getElem_cons_zero, List.getElem_cons_succ, Act.put, List.setIfInBounds_toArray, List.set_cons_zero, List.set_cons_succ]
              refine wpAnyH_ready (rs := [13]) (by kernel_rfl) (by simp) ?_
              refine AllReadyH.cons rfl (fun K hK => ?_) AllReadyH.nil
              go_simp
              refine hK.out _ _ ?_ (fun hHeld => ?_)
              · ((try dsimp only); go_keep)
              clear hK K
              try simp only [List.getElem_toArray, List.getElem_cons_zero, List.getElem_cons_succ, Act.put, List.setIfInBounds_toArray, List.set_cons_zero, List.set_cons_succ]
              refine wpAnyH_done (by kernel_rfl) ?_ _
              clear hHeld
              have hrl : rest.length ≤ 2000 := by rw [← hrs.out, List.length_drop]; simp at hDl; omega
              have hx4 : xs.length ≤ 4096 := by have := hxl.out; omega
              by_cases h3 : ft = 3
              · have h3b : (ft == 3) = true := by simpa using h3
                replace h3 := Hid.mk h3
                have hnum := rnum_any (wr.alloc (.cells #[.int .i64 ft, .string (bt ky), .string ⟨#[]⟩, .int .i64 0] 36)).drew rest (by rw [← hrs.out, List.length_drop]; simp at hDl; omega)
                go_wp2_with fail
                refine hnum.mono ?_
                rintro e w5 ⟨⟨n, bb, rfl, hnI, hnm, hnn⟩, rfl⟩
                clear hnum
                have hgW := grown_none (grown_none (World.grownBy_alloc wr (.cells #[.int .i64 ft, .string (bt ky), .string (bt []), .int .i64 n] 36) none) (World.grownBy_alloc _ (.cells #[.int .i64 ft, .string (bt ky), .string (bt []), .int .i64 n] 36) none)) (grown_drew _)
                go_wp2_with (first | (at_builtin; go_must (refine wpList_app_stp rfl _ _ rfl (y := ⟨ft, ky, [], n⟩) (v := u6) (ad := wr.heap.size + 1) rfl rfl (hrow.out.kept hgW (Classical.em _)) (two_at wr #[.int .i64 ft, .string (bt ky), .string (bt []), .int .i64 n]) hx4 (Nat.le_trans hgr.out.size hgW.size) ?_); intro v7 w7 hr7 hg7; refine Hid.out ?_) | fail)
                refine ⟨?_⟩
                have hyok : Sp.ok ⟨ft, ky, [], n⟩ := ⟨hft, (show ky.length ≤ maxLen from by have := hkl.out; unfold maxLen; omega), (show ([] : K).length ≤ maxLen from Nat.zero_le _), hnI⟩
                have hS : StR ft (c :: r) ⟨ft, ky, [], n⟩ := ⟨rfl, c, rest, by rw [hr2.out], hkl.out, fun _ => ⟨rfl, fun m hm => (hnm m hm).1⟩, fun h => absurd h3.out h⟩
                have hout2 := Hid.mk (hout.out.snoc (by rw [hxl.out]; exact hfi.out) hDz.out hS hyok)
                have hg7' : Hid (w1.grownBy w7 none) := ⟨(grown_none hgr.out hgW).andThen hg7 fun j hj => .inl (hrow.out.lt j hj).1⟩
                have hl2 : Hid ((xs ++ [(⟨ft, ky, [], n⟩ : Sp)]).length = i + 1) := ⟨by rw [List.length_append, hxl.out]; rfl⟩
                replace hr7 := Hid.mk hr7
                clear hg7 hyok hS
                go_wp2_with fail
                go_roundw
                case rel => exact ⟨i + 1, _, by go_num, by omega, hl2, hr7, hout2, hg7'⟩
                case measure => simp [intOf]; omega
              · have h3b : (ft == 3) = false := by simpa using h3
                replace h3 := Hid.mk h3
                have hgW := grown_none (grown_none (World.grownBy_alloc wr (.cells #[.int .i64 ft, .string (bt ky), .string (bt rest), .int .i64 0] 36) none) (World.grownBy_alloc _ (.cells #[.int .i64 ft, .string (bt ky), .string (bt rest), .int .i64 0] 36) none)) (grown_drew _)
                go_wp2_with (first | (at_builtin; go_must (refine wpList_app_stp rfl _ _ rfl (y := ⟨ft, ky, rest, 0⟩) (v := u6) (ad := wr.heap.size + 1) rfl rfl (hrow.out.kept hgW (Classical.em _)) (two_at wr #[.int .i64 ft, .string (bt ky), .string (bt rest), .int .i64 0]) hx4 (Nat.le_trans hgr.out.size hgW.size) ?_); intro v7 w7 hr7 hg7; refine Hid.out ?_) | fail)
                refine ⟨?_⟩
                have hyok : Sp.ok ⟨ft, ky, rest, 0⟩ := ⟨hft, (show ky.length ≤ maxLen from by have := hkl.out; unfold maxLen; omega), (show rest.length ≤ maxLen from by unfold maxLen; omega), (show In64 0 from ⟨by decide, by decide⟩)⟩
                have hS : StR ft (c :: r) ⟨ft, ky, rest, 0⟩ := ⟨rfl, c, rest, by rw [hr2.out], hkl.out, fun h => absurd h h3.out, fun _ => ⟨rfl, rfl⟩⟩
                have hout2 := Hid.mk (hout.out.snoc (by rw [hxl.out]; exact hfi.out) hDz.out hS hyok)
                have hg7' : Hid (w1.grownBy w7 none) := ⟨(grown_none hgr.out hgW).andThen hg7 fun j hj => .inl (hrow.out.lt j hj).1⟩
                have hl2 : Hid ((xs ++ [(⟨ft, ky, rest, 0⟩ : Sp)]).length = i + 1) := ⟨by rw [List.length_append, hxl.out]; rfl⟩
                replace hr7 := Hid.mk hr7
                clear hg7 hyok hS
                go_wp2_with fail
                go_roundw
                case rel => exact ⟨i + 1, _, by go_num, by omega, hl2, hr7, hout2, hg7'⟩
                case measure => simp [intOf]; omega
        · have hxf : xs.length = fs.length := by rw [hxl.out]; omega
          have hps := sps_of_own hrow.out hout.out.2
          obtain ⟨rr, hrr⟩ : ∃ rr, Hid (wrE xs = rr) := ⟨_, ⟨rfl⟩⟩
          have henc := rencA_any wr hps hrr
          have hdf : decide ((i : Int) < fs.length) = false := by simp; omega
          replace hxf := Hid.mk hxf
          replace hps := Hid.mk hps
          go_wp2_with fail
          refine henc.mono ?_
          rintro e w5 ⟨uu, rfl, hru, hg5⟩
          have hgw := grown_none hg1.out (grown_none hgr.out hg5)
          by_cases hr0 : rr = 0
          · subst hr0
            rw [if_pos rfl] at hru
            have hez : ∀ z ∈ encX xs, 0 ≤ z ∧ z < 256 := encX_byte hrr.out hout.out.2
            have hcu := C.run_conv (C.Bts.of_own hru hez)
            have hcb := C.run_conv (hb2.out.below (below_of' (grown_none hgr.out hg5)))
            have heq := C.str_eq hez hb.out.2
            by_cases hz : encX xs = zs
            · have hd : ((strOfNums (encX xs)).toList == (strOfNums zs).toList) = true := by rw [heq]; simpa using hz
              replace hz := Hid.mk hz
              replace heq := Hid.mk heq
              have hps5 := Hid.mk ((hps.out.keep hg5 (Nat.le_refl _)).up hg5.size)
              clear henc hru
              go_wp2
              go_ret2
              exact ⟨.inl ⟨_, xs, rfl, hps5.out, hrr.out, hz.out.symm⟩, hgw⟩
            · have hd : ((strOfNums (encX xs)).toList == (strOfNums zs).toList) = false := by rw [heq]; simpa using hz
              have hfin : Hid (∀ ys : List Sp, (∀ x ∈ ys, x.ok) → wrE ys = 0 → zs ≠ encX ys) := ⟨fun ys hy h0 e => by
                have := hout.out.all hxf.out (enc_fields (hze.out.symm.trans e)) hy h0
                rw [this] at hz
                exact hz e.symm⟩
              replace hz := Hid.mk hz
              replace heq := Hid.mk heq
              clear henc hru
              go_wp2
              go_ret2
              exact ⟨.inr ⟨rfl, hfin.out⟩, hgw⟩
          · have hrb : (rr != 0) = true := by simpa using hr0
            have hfin : Hid (∀ ys : List Sp, (∀ x ∈ ys, x.ok) → wrE ys = 0 → zs ≠ encX ys) := ⟨fun ys hy h0 e => by
              have := hout.out.all hxf.out (enc_fields (hze.out.symm.trans e)) hy h0
              rw [← this, hrr.out] at h0
              exact hr0 h0⟩
            replace hr0 := Hid.mk hr0
            clear henc hru
            go_wp2
            go_ret2
            exact ⟨.inr ⟨rfl, hfin.out⟩, hgw⟩
  · replace hb := Hid.mk hb
    have hfin : Hid (∀ ys : List Sp, (∀ x ∈ ys, x.ok) → wrE ys = 0 → zs ≠ encX ys) := ⟨fun ys hy h0 e => by
      refine hno (ys.map fdo) (okL_of (fdo_said ys) (wr0 h0).1 (wr0 h0).2 hy) ?_
      rw [encX_fdo]
      exact e⟩
    clear hno
    go_wp2
    go_ret2
    exact ⟨.inr ⟨rfl, hfin.out⟩, grown_of hb1⟩
end Go.Proofs.YtmahpceokpajgaaDoor
