/- stepOf. -/
import Derived.Test.YtmahpceokpajgaaDoorAen
namespace Go.Proofs.YtmahpceokpajgaaDoor
open Go.RowKit Go.IntWalk Go.Maps Go.Shelf
set_option linter.unusedVariables false
/-- The step that a field's data is of. -/
def stp (t : Int) : K → Option Sp
  | [] => none
  | c :: d => if c.toNat ≤ d.length then (if t = 3 then (numOf (d.drop c.toNat)).map fun n => ⟨3, d.take c.toNat, [], n⟩ else some ⟨t, d.take c.toNat, d.drop c.toNat, 0⟩) else none
theorem stp_dat {t : Int} {d : K} {x : Sp} (h : stp t d = some x) : dat x = d ∧ x.kd = t := by
  cases d with
  | nil => cases h
  | cons c d =>
    simp only [stp] at h
    split at h
    · rename_i hc
      split at h
      · rename_i ht
        cases hn : numOf (d.drop c.toNat) with
        | none => rw [hn] at h; cases h
        | some n =>
          rw [hn] at h
          simp only [Option.map_some, Option.some.injEq] at h
          subst h
          have e := (numOf_some hn).1
          refine ⟨?_, ht.symm⟩
          simp only [dat, if_pos]
          rw [← e, List.length_take, Nat.min_eq_left hc, UInt8.ofNat_toNat, List.cons_append, List.take_append_drop]
      · rename_i ht
        simp only [Option.some.injEq] at h
        subst h
        refine ⟨?_, rfl⟩
        simp only [dat, if_neg ht]
        rw [List.length_take, Nat.min_eq_left hc, UInt8.ofNat_toNat, List.cons_append, List.take_append_drop]
    · cases h
theorem stp_right {x : Sp} (h : rgt x = true) (hn : In64 x.n) : stp x.kd (dat x) = some x := by
  have hk := rgt_kd h
  obtain ⟨kd, ky, vl, n⟩ := x
  simp only at hk hn
  have hc : (UInt8.ofNat ky.length).toNat = ky.length := UInt8.toNat_ofNat_of_lt' (by show ky.length < 256; omega)
  simp only [dat, List.cons_append, stp]
  rw [hc, if_pos (by simp), List.take_left, List.drop_left]
  by_cases h3 : kd = 3
  · rw [if_pos h3, if_pos h3, numOf_itoa hn]
    have hv : vl = [] := by
      subst h3
      simp [rgt] at h
      simpa using h.2
    rw [hv, h3]
    rfl
  · rw [if_neg h3, if_neg h3]
    have h0 : n = 0 := by
      simp [rgt] at h
      omega
    rw [h0]
theorem stp_ok {t : Int} {d : K} {x : Sp} (ht : In64 t) (hd : d.length ≤ maxLen) (h : stp t d = some x) : x.ok := by
  cases d with
  | nil => cases h
  | cons c d =>
    simp only [List.length_cons] at hd
    simp only [stp] at h
    split at h
    · split at h
      · cases hn : numOf (d.drop c.toNat) with
        | none => rw [hn] at h; cases h
        | some n =>
          rw [hn] at h
          simp only [Option.map_some, Option.some.injEq] at h
          subst h
          exact ⟨(show In64 3 by decide), by simp; omega, by simp, (numOf_some hn).2⟩
      · simp only [Option.some.injEq] at h
        subst h
        exact ⟨ht, by simp; omega, by simp; omega, (show In64 0 by decide)⟩
    · cases h
def spV (o : Option Sp) : Value := match o with
  | some x => .tuple #[x.val, .bool true]
  | none => .tuple #[(⟨0, [], [], 0⟩ : Sp).val, .bool false]
theorem cell_lt {w : World} {a : Addr} {v : Value} (h : w.cell? a = some v) : a.block < w.heap.size := by
  rcases Nat.lt_or_ge a.block w.heap.size with h' | h'
  · exact h'
  · simp [World.cell?, Array.getElem?_eq_none h'] at h
theorem str_bz (k : K) : strOfNums (bz k) = bt k := by
  unfold strOfNums bt bz
  congr 1
  rw [List.map_map]
  have : ((fun n : Int => UInt8.ofNat n.toNat) ∘ fun b : UInt8 => (b.toNat : Int)) = id := by
    funext b
    simp
  rw [this, List.map_id]
set_option maxRecDepth 100000 in
set_option maxHeartbeats 2000000 in
theorem stepOf_any (w : World) (h : Dr w) (t : Int) (ht : In64 t) (a : Option Addr) (cap : Nat) (d : K) (hd : d.length ≤ 1000000) (hb : C.Bts w.heap.size w (.slice a d.length cap) (bz d)) {o : Option Sp} (ho : Hid (stp t d = o)) :
    Calls Tryd.prog 28 #[.agg #[.int .i64 t, .slice a d.length cap]] w fun e w' => e = .returned (spV o) ∧ w.grownBy w' none := by
  obtain ⟨z, hz⟩ : ∃ z, d.length = z := ⟨_, rfl⟩
  rw [hz] at hd hb ⊢
  obtain ⟨w2, hw2⟩ : ∃ w2, w2 = (w.alloc (.cells #[.int .i64 t, .slice a z cap] 55)).alloc (.cells #[.int .i64 0, .string { data := #[] }, .string { data := #[] }, .int .i64 0] 36) := ⟨_, rfl⟩
  have hg2 : w.grownBy w2 none := by rw [hw2]; exact grown_none (World.grownBy_alloc _ _ none) (World.grownBy_alloc _ _ none)
  have hb1 : w2.heap[w.heap.size]? = some (.cells #[.int .i64 t, .slice a z cap] 55 (0, 0)) := by
    rw [hw2, (World.grownBy_alloc _ _ none).block w.heap.size (by simp) (by simp)]
    exact World.alloc_heap_new _ _
  have hb2 : w2.heap[w.heap.size + 1]? = some (.cells #[.int .i64 0, .string { data := #[] }, .string { data := #[] }, .int .i64 0] 36 (0, 0)) := by
    have := World.alloc_heap_new (w.alloc (.cells #[.int .i64 t, .slice a z cap] 55)) (.cells #[.int .i64 0, .string { data := #[] }, .string { data := #[] }, .int .i64 0] 36)
    rw [show (w.alloc (.cells #[.int .i64 t, .slice a z cap] 55)).heap.size = w.heap.size + 1 by simp] at this
    rw [hw2]
    exact this
  have zer : ∀ W : World, W.heap[w.heap.size + 1]? = some (.cells #[.int .i64 0, .string { data := #[] }, .string { data := #[] }, .int .i64 0] 36 (0, 0)) → (W.cell? ⟨w.heap.size + 1, 0, none⟩ = some (.int .i64 0) ∧ W.cell? ⟨w.heap.size + 1, 1, none⟩ = some (.string { data := #[] }) ∧ W.cell? ⟨w.heap.size + 1, 2, none⟩ = some (.string { data := #[] }) ∧ W.cell? ⟨w.heap.size + 1, 3, none⟩ = some (.int .i64 0)) ∧ ∀ i, W.frozen? ⟨w.heap.size + 1, i, none⟩ = false := fun W hW => by
    refine ⟨⟨?_, ?_, ?_, ?_⟩, fun i => ?_⟩ <;> simp [World.cell?, World.frozen?, hW]
  cases d with
  | nil =>
    have hz0 : z = 0 := by rw [← hz]; rfl
    subst hz0
    have hoe : Hid (o = none) := ⟨by rw [← ho.out]; rfl⟩
    obtain ⟨⟨y0, y1, y2, y3⟩, yf⟩ := zer w2 hb2
    replace hg2 : Hid _ := ⟨hg2⟩
    replace zer : Hid _ := ⟨zer⟩
    clear hb1 hb2
    go_enter Tryd.func28, Tryd.ntmps28
    go_wp2_with fail
    rw [← hw2]
    refine bodyPost_ret (v := .tuple #[.agg #[.int .i64 0, .string { data := #[] }, .string { data := #[] }, .int .i64 0], .bool false]) (by rw [results_cell_tmp rfl]; go_simp) rfl ?_
    exact ⟨by rw [hoe.out]; rfl, hg2.out⟩
  | cons c d =>
    simp only [List.length_cons] at hz
    obtain ⟨b, off, rfl, hbl, hcell⟩ : ∃ b off, a = some ⟨b, off, none⟩ ∧ b < w.heap.size ∧ w.cell? ⟨b, off, none⟩ = some (.int .u8 c.toNat) := by
      obtain ⟨⟨e | ⟨ad, c', e⟩, e2⟩ | ⟨b, off, c', e, hbl, _, _, hc⟩, _⟩ := hb
      · simp [bz] at e2
      · simp [bz] at e2
      · simp only [Value.slice.injEq] at e
        refine ⟨b, off, e.1, hbl, ?_⟩
        have := hc 0 (by simp [bz])
        rw [Nat.add_zero] at this
        rw [this]
        rfl
    obtain ⟨sa, -, hsl, hB⟩ := C.slice_cut hb 1 z (by omega) (Nat.le_refl _)
    have hdz : ((bz (c :: d)).take z).drop 1 = bz d := by
      rw [List.take_of_length_le (by simp [bz]; omega)]
      rfl
    obtain ⟨y, hy⟩ : ∃ y, d.length = y := ⟨_, rfl⟩
    have hz1 : z - 1 = y := by omega
    rw [hdz, hz1] at hB
    have hsl' : ∀ W : World, (Instr.slice 23 (.slice (some ⟨b, off, none⟩) z cap) (some (.int .i64 1)) none none).run Tryd.prog W = .ok (.slice sa y (cap - 1)) W := fun W => by
      have := hsl W rfl
      rw [hz1] at this
      exact this
    have hconv : ∀ W : World, w2.grownBy W none → (convert 23 9 (.slice sa y (cap - 1))).run Tryd.prog W = .ok (.string (bt d)) W := fun W hW => by
      rw [← str_bz]
      exact C.run_conv (hB.below (below_of' (grown_none hg2 hW)))
    have hsz := bt_size d
    rw [hy] at hsz
    have htk := bt_take d
    have hdp := bt_drop d
    rw [hsz] at hdp
    have s0 : w2.cell? ⟨w.heap.size, 0, none⟩ = some (.int .i64 t) := by simp [World.cell?, hb1]
    have s1 : w2.cell? ⟨w.heap.size, 1, none⟩ = some (.slice (some ⟨b, off, none⟩) z cap) := by simp [World.cell?, hb1]
    have s2 := grown_cell hg2 hcell
    haveI := lat_nonempty w2
    have k0 := lat_cell s0
    have k1 := lat_cell s1
    have k2 := lat_cell s2
    have kc := fun p : Lat w2 => hconv p.W p.h
    replace hb2 : Hid _ := ⟨hb2⟩
    replace hg2 : Hid _ := ⟨hg2⟩
    replace h : Hid _ := ⟨h⟩
    replace zer : Hid _ := ⟨zer⟩
    have hck : c.toNat < 256 := c.toNat_lt
    have hzp : (0 : Int) < z := by omega
    have hze : ((z : Int) == 0) = false := by simp; omega
    replace hz : Hid _ := ⟨hz⟩
    replace hy : Hid _ := ⟨hy⟩
    clear hb hcell hsl hB hb1 hconv s1 s2 hdz hz1
    go_enter Tryd.func28, Tryd.ntmps28
    go_wp2_with fail
    rw [← hw2]
    clear hw2
    refine wp_region_lat (by kernel_rfl) (by kernel_rfl) ?_
    repeat (go_big_quiet_step (fail))
    refine wpQuiet_nil ?_
    intro _ hw'
    obtain ⟨q, hw''⟩ := hw'
    subst hw''
    have hg3 := q.h
    have s3 := k0 q
    generalize q.W = w3 at *
    clear k0 k1 k2 kc q
    have hw3 : w.grownBy w3 none := grown_none hg2.out hg3
    have hl2 := (Array.getElem?_eq_some_iff.1 hb2.out).1
    have hb3 := (hg3.block _ hl2 (by simp)).trans hb2.out
    obtain ⟨⟨y0, y1, y2, y3⟩, yf⟩ := zer.out w3 hb3
    have hl3 := (Array.getElem?_eq_some_iff.1 hb3).1
    replace hb3 : Hid _ := ⟨hb3⟩
    replace hw3 : Hid _ := ⟨hw3⟩
    clear hg3 hb2 hl2
    by_cases hcy : c.toNat ≤ y
    · have hd1 : decide ((c.toNat : Int) > y) = false := by simp; omega
      have hd2 : (c.toNat : Int) ≤ y := by omega
      have hd3 : decide (y < c.toNat) = false := by simp; omega
      have hga := World.grownBy_alloc w3 (.cells #[.int .i64 0, .string { data := #[] }, .string { data := #[] }, .int .i64 0] 36) none
      have t0 := grown_cell hga s3
      have n0 := cell_new w3 #[.int .i64 0, .string { data := #[] }, .string { data := #[] }, .int .i64 0] 36 (i := 0) rfl
      have n1 := cell_new w3 #[.int .i64 0, .string { data := #[] }, .string { data := #[] }, .int .i64 0] 36 (i := 1) rfl
      have n2 := cell_new w3 #[.int .i64 0, .string { data := #[] }, .string { data := #[] }, .int .i64 0] 36 (i := 2) rfl
      have n3 := cell_new w3 #[.int .i64 0, .string { data := #[] }, .string { data := #[] }, .int .i64 0] 36 (i := 3) rfl
      have nf : ∀ i, (w3.alloc (.cells #[.int .i64 0, .string { data := #[] }, .string { data := #[] }, .int .i64 0] 36)).frozen? ⟨w3.heap.size, i, none⟩ = false := fun i => by
        have := World.alloc_heap_new w3 (.cells #[.int .i64 0, .string { data := #[] }, .string { data := #[] }, .int .i64 0] 36)
        unfold World.frozen?
        rw [this]
        rfl
      replace hga : Hid _ := ⟨hga⟩
      go_wp2_with fail
      go_region
      clear t0 n0 n1 n2 n3 nf hga
      obtain ⟨w4, hw4⟩ : ∃ w4, w4 = (w3.alloc (.cells #[.int .i64 t, .string (bt (d.take c.toNat)), .string { data := #[] }, .int .i64 0] 36)).drew := ⟨_, rfl⟩
      have hg4 : w3.grownBy w4 none := by rw [hw4]; exact grown_none (World.grownBy_alloc _ _ none) (grown_drew _)
      have hb4 : w4.heap[w3.heap.size]? = some (.cells #[.int .i64 t, .string (bt (d.take c.toNat)), .string { data := #[] }, .int .i64 0] 36 (0, 0)) := by
        rw [hw4]
        exact World.alloc_heap_new _ _
      rw [← hw4]
      clear hw4
      have hr4 := (hg4.block _ hl3 (by simp)).trans hb3.out
      obtain ⟨⟨y0, y1, y2, y3⟩, yf⟩ := zer.out w4 hr4
      have m0 : w4.cell? ⟨w3.heap.size, 0, none⟩ = some (.int .i64 t) := by simp [World.cell?, hb4]
      have m1 : w4.cell? ⟨w3.heap.size, 1, none⟩ = some (.string (bt (d.take c.toNat))) := by simp [World.cell?, hb4]
      have m2 : w4.cell? ⟨w3.heap.size, 2, none⟩ = some (.string { data := #[] }) := by simp [World.cell?, hb4]
      have m3 : w4.cell? ⟨w3.heap.size, 3, none⟩ = some (.int .i64 0) := by simp [World.cell?, hb4]
      have mf : ∀ i, w4.frozen? ⟨w3.heap.size, i, none⟩ = false := fun i => by simp [World.frozen?, hb4]
      have hne1 : w3.heap.size ≠ w.heap.size + 1 := by omega
      have hne2 : w.heap.size + 1 ≠ w3.heap.size := by omega
      have hlw : w.heap.size ≤ w3.heap.size := hw3.out.size
      have hw4g : Hid (w.grownBy w4 none) := ⟨grown_none hw3.out hg4⟩
      have hfin : ∀ (W : World) (v0 v1 v2 v3 : Value), w.grownBy W none → w.grownBy ((((W.setCell ⟨w.heap.size + 1, 0, none⟩ v0).setCell ⟨w.heap.size + 1, 1, none⟩ v1).setCell ⟨w.heap.size + 1, 2, none⟩ v2).setCell ⟨w.heap.size + 1, 3, none⟩ v3) none := fun W v0 v1 v2 v3 hW =>
        hW.andThen ((((grown_setCell W ⟨w.heap.size + 1, 0, none⟩ v0).trans (grown_setCell _ ⟨w.heap.size + 1, 1, none⟩ v1)).trans (grown_setCell _ ⟨w.heap.size + 1, 2, none⟩ v2)).trans (grown_setCell _ ⟨w.heap.size + 1, 3, none⟩ v3)) fun j hj => .inl (by cases hj; exact Nat.le_succ _)
      replace hfin : Hid _ := ⟨hfin⟩
      clear hr4 hb4 hg4 s3
      by_cases h3 : t = 3
      · subst h3
        have hkl : (d.drop c.toNat).length ≤ 1000000 := by rw [List.length_drop]; have := hy.out; have := hz.out; omega
        obtain ⟨o2, ho2⟩ : ∃ o2, Hid (numOf (d.drop c.toNat) = o2) := ⟨_, ⟨rfl⟩⟩
        have hnum := number_any (h.out.keep hw4g.out) (d.drop c.toNat) hkl ho2
        have hoe : Hid (o = o2.map fun n => ⟨3, d.take c.toNat, [], n⟩) := ⟨by rw [← ho.out]; simp only [stp]; rw [if_pos (by rw [hy.out]; exact hcy), if_pos trivial, ho2.out]⟩
        have kr : ∀ W : World, w4.grownBy W none → (W.cell? ⟨w3.heap.size, 0, none⟩ = some (.int .i64 3) ∧ W.cell? ⟨w3.heap.size, 1, none⟩ = some (.string (bt (d.take c.toNat))) ∧ W.cell? ⟨w3.heap.size, 2, none⟩ = some (.string { data := #[] }) ∧ W.cell? ⟨w3.heap.size, 3, none⟩ = some (.int .i64 0)) ∧ (∀ i, W.frozen? ⟨w3.heap.size, i, none⟩ = false) ∧ (W.cell? ⟨w.heap.size + 1, 0, none⟩ = some (.int .i64 0) ∧ W.cell? ⟨w.heap.size + 1, 1, none⟩ = some (.string { data := #[] }) ∧ W.cell? ⟨w.heap.size + 1, 2, none⟩ = some (.string { data := #[] }) ∧ W.cell? ⟨w.heap.size + 1, 3, none⟩ = some (.int .i64 0)) ∧ ∀ i, W.frozen? ⟨w.heap.size + 1, i, none⟩ = false := fun W hW =>
          ⟨⟨grown_cell hW m0, grown_cell hW m1, grown_cell hW m2, grown_cell hW m3⟩, fun i => (grown_frozen hW (a := ⟨w3.heap.size, i, none⟩) (cell_lt (a := ⟨w3.heap.size, 0, none⟩) m0)).trans (mf i), ⟨grown_cell hW y0, grown_cell hW y1, grown_cell hW y2, grown_cell hW y3⟩, fun i => (grown_frozen hW (a := ⟨w.heap.size + 1, i, none⟩) (cell_lt (a := ⟨w.heap.size + 1, 0, none⟩) y0)).trans (yf i)⟩
        replace kr : Hid _ := ⟨kr⟩
        clear m1 m2 m3 y0 y1 y2 y3 mf yf
        cases o2 with
        | none =>
          simp only [numV] at hnum
          replace hnum : Hid _ := ⟨hnum⟩
          go_wp2_with fail
          refine hnum.out.mono ?_
          rintro e w5 ⟨rfl, hg5⟩
          obtain ⟨⟨m0, m1, m2, m3⟩, mf, ⟨y0, y1, y2, y3⟩, yf⟩ := kr.out w5 hg5
          have hw5 : Hid (w.grownBy w5 none) := ⟨grown_none hw4g.out hg5⟩
          clear hnum kr hg5
          go_wp2_with fail
          refine bodyPost_ret (v := .tuple #[.agg #[.int .i64 0, .string { data := #[] }, .string { data := #[] }, .int .i64 0], .bool false]) (by rw [results_cell_tmp rfl]; go_simp) rfl ?_
          exact ⟨by rw [hoe.out]; rfl, hfin.out _ _ _ _ _ hw5.out⟩
        | some n =>
          simp only [numV] at hnum
          replace hnum : Hid _ := ⟨hnum⟩
          go_wp2_with fail
          refine hnum.out.mono ?_
          rintro e w5 ⟨rfl, hg5⟩
          obtain ⟨⟨m0, m1, m2, m3⟩, mf, ⟨y0, y1, y2, y3⟩, yf⟩ := kr.out w5 hg5
          have hw5 : Hid (w.grownBy w5 none) := ⟨grown_none hw4g.out hg5⟩
          clear hnum kr hg5
          go_wp2_with fail
          refine bodyPost_ret (v := .tuple #[.agg #[.int .i64 3, .string (bt (d.take c.toNat)), .string { data := #[] }, .int .i64 n], .bool true]) (by rw [results_cell_tmp rfl]; go_simp) rfl ?_
          exact ⟨by rw [hoe.out]; rfl, hfin.out _ _ _ _ _ (hw5.out.andThen (grown_setCell w5 ⟨w3.heap.size, 3, none⟩ _) fun j hj => .inl (by cases hj; exact hlw))⟩
      · have ht1 : (t != 3) = true := by simpa using h3
        have ht2 : (t == 3) = false := by simpa using h3
        have hoe : Hid (o = some ⟨t, d.take c.toNat, d.drop c.toNat, 0⟩) := ⟨by rw [← ho.out]; simp only [stp]; rw [if_pos (by rw [hy.out]; exact hcy), if_neg h3]⟩
        go_wp2_with fail
        refine bodyPost_ret (v := .tuple #[.agg #[.int .i64 t, .string (bt (d.take c.toNat)), .string (bt (d.drop c.toNat)), .int .i64 0], .bool true]) (by rw [results_cell_tmp rfl]; go_simp) rfl ?_
        refine ⟨by rw [hoe.out]; rfl, hfin.out _ _ _ _ _ (hw4g.out.andThen (grown_setCell w4 ⟨w3.heap.size, 2, none⟩ _) fun j hj => .inl (by cases hj; exact hlw))⟩
    · have hd1 : (y : Int) < c.toNat := by omega
      have hoe : Hid (o = none) := ⟨by rw [← ho.out]; simp only [stp]; rw [if_neg (by rw [hy.out]; exact hcy)]⟩
      go_wp2_with fail
      refine bodyPost_ret (v := .tuple #[.agg #[.int .i64 0, .string { data := #[] }, .string { data := #[] }, .int .i64 0], .bool false]) (by rw [results_cell_tmp rfl]; go_simp) rfl ?_
      refine ⟨by rw [hoe.out]; rfl, hw3.out.andThen ((((grown_setCell w3 ⟨w.heap.size + 1, 0, none⟩ _).trans (grown_setCell _ ⟨w.heap.size + 1, 1, none⟩ _)).trans (grown_setCell _ ⟨w.heap.size + 1, 2, none⟩ _)).trans (grown_setCell _ ⟨w.heap.size + 1, 3, none⟩ _)) fun j hj => .inl (by cases hj; exact Nat.le_succ _)⟩
end Go.Proofs.YtmahpceokpajgaaDoor
