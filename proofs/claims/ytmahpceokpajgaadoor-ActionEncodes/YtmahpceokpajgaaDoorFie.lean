/- wrong, fieldOf. -/
import Derived.Test.YtmahpceokpajgaaDoorStp
import Derived.Lib.AppendStr
namespace Go.Proofs.YtmahpceokpajgaaDoor
open Go.RowKit Go.IntWalk Go.Maps Go.Shelf
set_option linter.unusedVariables false
/-- What keeps steps from being an action. -/
def wrE (xs : List Sp) : Int := if xs.length ≤ 4 then (if xs.all rgt then 0 else 91) else 93
set_option maxRecDepth 100000 in
set_option maxHeartbeats 1000000 in
theorem wrong_any (w : World) {v : Value} {xs : List Sp} (h : Sps w.heap.size w v xs) {r : Int} (hr : Hid (wrE xs = r)) : Calls Tryd.prog 23 #[v] w fun e w' => e = .returned (.int .i64 r) ∧ w.grownBy w' none := by
  obtain ⟨a, cap, rfl, hxl⟩ := h.shape
  unfold maxLen at hxl
  go_enter Tryd.func23, Tryd.ntmps23
  by_cases hl : xs.length ≤ 4
  · have hd : decide ((xs.length : Int) > 4) = false := by simp; omega
    have hd2 : (xs.length : Int) ≤ 4 := by omega
    go_wp2_with fail
    go_loopw [10] (fun iv wr => ∃ i : Nat, iv = .int .i64 i ∧ i ≤ xs.length ∧ Hid ((xs.take i).all rgt = true) ∧ Hid (w.grownBy wr none))
      (fun iv _ => xs.length - (intOf iv).toNat)
    case atStart => exact ⟨0, rfl, by omega, ⟨by simp⟩, ⟨grown_refl w⟩⟩
    case round =>
      obtain ⟨i, rfl, hi, hall, hg⟩ := hrel
      by_cases hlt : i < xs.length
      · have hdi : decide ((i : Int) < xs.length) = true := by simp; omega
        obtain ⟨x, hx⟩ : ∃ x, xs[i]? = some x := ⟨_, List.getElem?_eq_getElem hlt⟩
        obtain ⟨b, off, rfl, hb, hok, c0, c1, c2, c3⟩ := (h.keep hg.out (Nat.le_refl _)).at hx
        have hga := World.grownBy_alloc wr (.cells #[.int .i64 x.kd, .string (bt x.ky), .string (bt x.vl), .int .i64 x.n] 36) none
        have d0 := cell_new wr #[.int .i64 x.kd, .string (bt x.ky), .string (bt x.vl), .int .i64 x.n] 36 (i := 0) rfl
        have d1 := cell_new wr #[.int .i64 x.kd, .string (bt x.ky), .string (bt x.vl), .int .i64 x.n] 36 (i := 1) rfl
        have d2 := cell_new wr #[.int .i64 x.kd, .string (bt x.ky), .string (bt x.vl), .int .i64 x.n] 36 (i := 2) rfl
        have d3 := cell_new wr #[.int .i64 x.kd, .string (bt x.ky), .string (bt x.vl), .int .i64 x.n] 36 (i := 3) rfl
        have hR := fun w (r : Bool) => right_any w x hok (r := r)
        replace hR : Hid _ := ⟨hR⟩
        replace hga : Hid _ := ⟨hga⟩
        cases hq : rgt x with
        | true =>
          have hall2 : Hid ((xs.take (i + 1)).all rgt = true) := ⟨by rw [List.take_add_one, hx]; simp [hall.out, hq]⟩
          clear hall hx
          go_wp2_with fail
          refine (hR.out _ true ⟨hq⟩).mono ?_
          rintro e w5 ⟨rfl, hg5⟩
          have hg6 : Hid _ := ⟨grown_none (grown_none hg.out hga.out) hg5⟩
          clear hg5 hga hR hg hq
          go_wp2_with fail
          exact ⟨⟨i + 1, by go_num, by omega, hall2, hg6⟩, by simp [intOf] <;> omega⟩
        | false =>
          have hfin : Hid (r = 91) := ⟨by
            rw [← hr.out]
            unfold wrE
            rw [if_pos hl, if_neg]
            intro h
            rw [List.all_eq_true.1 h x (List.mem_of_getElem? hx)] at hq
            cases hq⟩
          clear hall hx
          go_wp2_with fail
          refine (hR.out _ false ⟨hq⟩).mono ?_
          rintro e w5 ⟨rfl, hg5⟩
          have hg6 : Hid _ := ⟨grown_none (grown_none hg.out hga.out) hg5⟩
          clear hg5 hga hR hg hq
          go_wp2_with fail
          go_ret
          exact ⟨by rw [hfin.out]; rfl, hg6.out⟩
      · have hdi : decide ((i : Int) < xs.length) = false := by simp; omega
        have hfin : Hid (r = 0) := ⟨by
          rw [← hr.out]
          unfold wrE
          have := hall.out
          rw [List.take_of_length_le (by omega)] at this
          rw [if_pos hl, if_pos this]⟩
        go_wp2_with fail
        go_ret
        exact ⟨by rw [hfin.out]; rfl, hg.out⟩
  · have hd : (4 : Int) < xs.length := by omega
    have hfin : Hid (r = 93) := ⟨by rw [← hr.out]; unfold wrE; rw [if_neg hl]⟩
    go_wp2_with fail
    go_ret
    exact ⟨by rw [hfin.out]; rfl, grown_refl w⟩
/-- A step's data. -/
def dat (x : Sp) : K := UInt8.ofNat x.ky.length :: x.ky ++ (if x.kd = 3 then Lib.itoa x.n else x.vl)
theorem info5d : (Tryd.prog.info? 5).map (fun i => (i.zero, i.size, i.bytes)) = some (some (.int .u8 0), 1, 1) := by kernel_rfl
/-- 'append(b, s...)', b bytes of one's own. -/
theorem run_app_str (w : World) (base : Nat) (v : Value) (l k : K) (hown : w.ownsRow base 5 1 v l.length (Lib.byteCells l)) (hl : l.length + k.length ≤ 1000000) (hb : base ≤ w.heap.size) :
    ∃ v' w', (Builtin.append_ #[23, 9] 23 #[v, .string (bt k)]).run Tryd.prog w = .ok v' w' ∧ w'.ownsRow base 5 1 v' (l ++ k).length (Lib.byteCells (l ++ k)) ∧ w.grownBy w' v.ownBlock := by
  obtain ⟨i0, hi, hz0, hz1, hz2⟩ := info_parts info5d
  obtain ⟨v', w', h1, h2, h3, _⟩ := Lib.run_append_own_string (P := Tryd.prog) (w := w) base 23 9 23 5 i0 Tryd.underlying23 Tryd.underlying9 hi hz0 hz1 hz2 v l.length _ hown (bt k) (by rw [bt_size]; unfold maxLen; omega) (by rw [bt_size]; omega) hb
  refine ⟨v', w', h1, ?_, h3⟩
  rw [bt_size] at h2
  have e1 : Lib.byteCells l ++ Lib.strCells (bt k) = Lib.byteCells (l ++ k) := by simp [Lib.byteCells, Lib.strCells, bt]
  rw [e1] at h2
  rw [List.length_append]
  exact h2
/-- .. as a step of a walk. -/
theorem wpList_app_str {ops : Array Oper} {rest : List Oper} {o : Oper} {a : Act} {w : World} {Q : Exit → Act → World → Prop} (hg : o.guard = none) (sl x : Operand) (hop : o.op = Op.call { callee := Callee.builtin Builtin.append, args := #[sl, x], argTypes := #[23, 9] }) (hty : o.type = 23)
    {v : Value} {l k : K} {base : Nat} (hs : a.eval sl = v) (hx : a.eval x = .string (bt k)) (hown : w.ownsRow base 5 1 v l.length (Lib.byteCells l)) (hl : l.length + k.length ≤ 1000000) (hb : base ≤ w.heap.size)
    (hK : ∀ v' w', w'.ownsRow base 5 1 v' (l ++ k).length (Lib.byteCells (l ++ k)) → w.grownBy w' v.ownBlock → wpList Tryd.prog ops Q rest (a.put o.dst v') w') : wpList Tryd.prog ops Q (o :: rest) a w := by
  obtain ⟨v', w', hrun, h1, h2⟩ := run_app_str w base v l k hown hl hb
  refine wpList_plain hg fun K hK2 => ?_
  unfold Oper.wp
  simp [execOp, hop, hty, resolve, invoke, builtin, hs, hx, hrun, Result.andThen]
  exact hK2 _ _ (hK v' w' h1 h2)
set_option maxRecDepth 100000 in
set_option maxHeartbeats 1000000 in
theorem fieldOf_any (w : World) (h : Dr w) (x : Sp) (hx : x.ok) (hk : x.ky.length ≤ 16) (hv : x.vl.length ≤ 60) : Calls Tryd.prog 24 #[x.val] w fun e w' => ∃ a cap, e = .returned (.agg #[.int .i64 x.kd, .slice a (dat x).length cap]) ∧ w'.ownsRow w.heap.size 5 1 (.slice a (dat x).length cap) (dat x).length (Lib.byteCells (dat x)) ∧ w.grownBy w' none := by
  obtain ⟨kd, ky, vl, n⟩ := x
  have hn := hx.2.2.2
  simp only [Sp.val]
  simp only at hk hv hn
  obtain ⟨c, hc⟩ : ∃ c, Hid (UInt8.ofNat ky.length = c) := ⟨_, ⟨rfl⟩⟩
  have hcz : ((bt ky).size : Int) % 256 = c.toNat := by
    rw [← hc.out, bt_size, UInt8.toNat_ofNat_of_lt' (by show ky.length < 256; omega)]
    omega
  have hdat : Hid (dat ⟨kd, ky, vl, n⟩ = c :: ky ++ (if kd = 3 then Lib.itoa n else vl)) := ⟨by unfold dat; rw [hc.out]⟩
  clear hx
  obtain ⟨w2, hw2⟩ : ∃ w2, w2 = (w.alloc (.cells #[.int .i64 kd, .string (bt ky), .string (bt vl), .int .i64 n] 36)).alloc (.cells #[.int .i64 0, .slice none 0 0] 55) := ⟨_, rfl⟩
  have hg2 : w.grownBy w2 none := by rw [hw2]; exact grown_none (World.grownBy_alloc _ _ none) (World.grownBy_alloc _ _ none)
  have hrow : (w2.alloc (.cells #[.int .u8 c.toNat] 5)).ownsRow w.heap.size 5 1 (.slice (some ⟨w2.heap.size, 0, none⟩) 1 1) [c].length (Lib.byteCells [c]) :=
    ⟨rfl, .inr ⟨w2.heap.size, 1, #[.int .u8 c.toNat], rfl, hg2.size, World.alloc_heap_new _ _, by simp, by unfold maxLen; omega, rfl, rfl⟩⟩
  have hz2 : w2.heap.size = w.heap.size + 1 + 1 := by rw [hw2]; simp
  replace hdat : Hid _ := hdat
  go_enter Tryd.func24, Tryd.ntmps24
  go_wp2_with (at_builtin; go_must (refine wpList_app_str rfl _ _ rfl rfl (v := .slice (some ⟨w.heap.size + 1 + 1, 0, none⟩) 1 1) (l := [c]) (k := ky) (base := w.heap.size) rfl rfl (by rw [hz2, hw2] at hrow; exact hrow) (by simp; omega) (by simp; omega) ?_); intro v3 w3 hr3 hg3; refine Hid.out ?_)
  refine ⟨?_⟩
  have hga := World.grownBy_alloc w2 (.cells #[.int .u8 c.toNat] 5) none
  rw [← hw2] at hg3
  have hg4 : w.grownBy w3 none := (grown_none hg2 hga).andThen hg3 fun j hj => .inl (by simp only [Value.ownBlock, Option.some.injEq] at hj; omega)
  have hb1 : w2.heap[w.heap.size]? = some (.cells #[.int .i64 kd, .string (bt ky), .string (bt vl), .int .i64 n] 36 (0, 0)) := by
    rw [hw2, (World.grownBy_alloc _ _ none).block w.heap.size (by simp) (by simp)]
    exact World.alloc_heap_new _ _
  have hb2 : w2.heap[w.heap.size + 1]? = some (.cells #[.int .i64 0, .slice none 0 0] 55 (0, 0)) := by
    have := World.alloc_heap_new (w.alloc (.cells #[.int .i64 kd, .string (bt ky), .string (bt vl), .int .i64 n] 36)) (.cells #[.int .i64 0, .slice none 0 0] 55)
    rw [show (w.alloc (.cells #[.int .i64 kd, .string (bt ky), .string (bt vl), .int .i64 n] 36)).heap.size = w.heap.size + 1 by simp] at this
    rw [hw2]
    exact this
  have hb13 : w3.heap[w.heap.size]? = some (.cells #[.int .i64 kd, .string (bt ky), .string (bt vl), .int .i64 n] 36 (0, 0)) := ((hg3.block _ (by have := hga.size; omega) (by simp [Value.ownBlock] <;> omega)).trans (hga.block _ (by omega) (by simp))).trans hb1
  have hb23 : w3.heap[w.heap.size + 1]? = some (.cells #[.int .i64 0, .slice none 0 0] 55 (0, 0)) := ((hg3.block _ (by have := hga.size; omega) (by simp [Value.ownBlock] <;> omega)).trans (hga.block _ (by omega) (by simp))).trans hb2
  obtain ⟨a3, c3, rfl⟩ : ∃ a3 c3, v3 = .slice a3 ([c] ++ ky).length c3 := by
    rcases id hr3.2 with ⟨rfl, h0⟩ | ⟨g, cp, cur, e, _⟩
    · simp at h0
    · exact ⟨_, _, e⟩
  clear hb1 hb2 hg3 hga hrow hz2 hw2 hg2
  have s0 : w3.cell? ⟨w.heap.size, 0, none⟩ = some (.int .i64 kd) := by simp [World.cell?, hb13]
  have s1 : w3.cell? ⟨w.heap.size, 1, none⟩ = some (.string (bt ky)) := by simp [World.cell?, hb13]
  have s2 : w3.cell? ⟨w.heap.size, 2, none⟩ = some (.string (bt vl)) := by simp [World.cell?, hb13]
  have s3 : w3.cell? ⟨w.heap.size, 3, none⟩ = some (.int .i64 n) := by simp [World.cell?, hb13]
  have hsz : w.heap.size ≤ w3.heap.size := hg4.size
  have hfin : ∀ (w4 : World) (v4 : Value) (l : K), w.grownBy w4 none → w4.ownsRow w.heap.size 5 1 v4 l.length (Lib.byteCells l) → w4.heap[w.heap.size]? = some (.cells #[.int .i64 kd, .string (bt ky), .string (bt vl), .int .i64 n] 36 (0, 0)) → w4.heap[w.heap.size + 1]? = some (.cells #[.int .i64 0, .slice none 0 0] 55 (0, 0)) →
      w.grownBy ((w4.setCell ⟨w.heap.size + 1, 0, none⟩ (.int .i64 kd)).setCell ⟨w.heap.size + 1, 1, none⟩ v4) none ∧ ((w4.setCell ⟨w.heap.size + 1, 0, none⟩ (.int .i64 kd)).setCell ⟨w.heap.size + 1, 1, none⟩ v4).ownsRow w.heap.size 5 1 v4 l.length (Lib.byteCells l) ∧ ((w4.setCell ⟨w.heap.size + 1, 0, none⟩ (.int .i64 kd)).setCell ⟨w.heap.size + 1, 1, none⟩ v4).heap[w.heap.size + 1]? = some (.cells #[.int .i64 kd, v4] 55 (0, 0)) := fun w4 v4 l q1 q2 q3 q4 => by
    have hg := (grown_setCell w4 ⟨w.heap.size + 1, 0, none⟩ (.int .i64 kd)).trans (grown_setCell _ ⟨w.heap.size + 1, 1, none⟩ v4)
    refine ⟨q1.andThen hg fun j hj => .inl (by cases hj; exact Nat.le_succ _), q2.kept hg ?_, heap_set (heap_set q4 0 (.int .i64 kd)) 1 v4⟩
    by_cases e : v4.ownBlock = some (w.heap.size + 1)
    · exfalso
      rcases id q2.2 with ⟨rfl, _⟩ | ⟨g, cp, cur, rfl, _, hg5, _⟩
      · cases e
      · simp only [Value.ownBlock, Option.some.injEq] at e
        rw [e, q4] at hg5
        simp at hg5
    · exact .inr e
  replace hfin : Hid _ := ⟨hfin⟩
  by_cases hk3 : kd = 3
  · have hkb : (kd == 3) = true := by simpa using hk3
    have hdat2 : Hid (dat ⟨kd, ky, vl, n⟩ = [c] ++ ky ++ Lib.itoa n) := ⟨by rw [hdat.out, if_pos hk3]; rfl⟩
    have hap := Any.strconv_AppendInt_10 Tryd.lays176 w.heap.size ([c] ++ ky).length n hn.1 hn.2 _ _ w3 hr3 hsz (by simp; omega) ((Lib.tabBelow_of_tabIs h.tb).on (below_of' hg4))
    replace hb13 : Hid _ := ⟨hb13⟩
    replace hb23 : Hid _ := ⟨hb23⟩
    replace hr3 : Hid _ := ⟨hr3⟩
    replace hap : Hid _ := ⟨hap⟩
    replace h : Hid _ := ⟨h⟩
    clear hk3 s1 s2
    go_wp2_with (go_at_call 38; refine hap.out.mono ?_; rintro e w4 ⟨v4, rfl, hr4, hb4, hok4⟩; refine Hid.out ?_)
    refine ⟨?_⟩
    have hg5 : w.grownBy w4 none := grown_of ((below_of' hg4).trans hb4)
    have e4 : w4.heap[w.heap.size]? = some (.cells #[.int .i64 kd, .string (bt ky), .string (bt vl), .int .i64 n] 36 (0, 0)) := hok4 _ _ hb13.out (by simp) (fun cs fz e => by cases e)
    have e5 : w4.heap[w.heap.size + 1]? = some (.cells #[.int .i64 0, .slice none 0 0] 55 (0, 0)) := hok4 _ _ hb23.out (by simp) (fun cs fz e => by cases e)
    have hr5 : w4.ownsRow w.heap.size 5 1 v4 ([c] ++ ky ++ Lib.itoa n).length (Lib.byteCells ([c] ++ ky ++ Lib.itoa n)) := by
      have e : Lib.byteCells ([c] ++ ky) ++ Lib.byteCells (Lib.itoa n) = Lib.byteCells ([c] ++ ky ++ Lib.itoa n) := by simp [Lib.byteCells]
      rw [← e, List.length_append]
      exact hr4
    obtain ⟨D, hD⟩ : ∃ D, [c] ++ ky ++ Lib.itoa n = D := ⟨_, rfl⟩
    rw [hD] at hr5 hdat2
    have hDl : 0 < D.length := by rw [← hD]; simp
    clear hD
    obtain ⟨z, hz⟩ : ∃ z, D.length = z := ⟨_, rfl⟩
    rw [hz] at hr5 hDl
    have hF := hfin.out w4 v4 D hg5 (by rw [hz]; exact hr5) e4 e5
    rw [hz] at hF
    obtain ⟨a4, c4, rfl⟩ : ∃ a4 c4, v4 = .slice a4 z c4 := by
      rcases id hr5.2 with ⟨rfl, h0⟩ | ⟨g, cp, cur, e, _⟩
      · omega
      · exact ⟨_, _, e⟩
    have t0 : w4.cell? ⟨w.heap.size, 0, none⟩ = some (.int .i64 kd) := by simp [World.cell?, e4]
    have y0 : w4.cell? ⟨w.heap.size + 1, 0, none⟩ = some (.int .i64 0) := by simp [World.cell?, e5]
    have y1 : w4.cell? ⟨w.heap.size + 1, 1, none⟩ = some (.slice none 0 0) := by simp [World.cell?, e5]
    have yf : ∀ i, w4.frozen? ⟨w.heap.size + 1, i, none⟩ = false := fun i => by simp [World.frozen?, e5]
    replace hF : Hid _ := ⟨hF⟩
    replace hz : Hid _ := ⟨hz⟩
    clear hr5 hg5 e4 e5
    go_wp2_with fail
    have z0 : ((w4.setCell ⟨w.heap.size + 1, 0, none⟩ (.int .i64 kd)).setCell ⟨w.heap.size + 1, 1, none⟩ (.slice a4 z c4)).cell? ⟨w.heap.size + 1, 0, none⟩ = some (.int .i64 kd) := by simp [World.cell?, hF.out.2.2]
    have z1 : ((w4.setCell ⟨w.heap.size + 1, 0, none⟩ (.int .i64 kd)).setCell ⟨w.heap.size + 1, 1, none⟩ (.slice a4 z c4)).cell? ⟨w.heap.size + 1, 1, none⟩ = some (.slice a4 z c4) := by simp [World.cell?, hF.out.2.2]
    refine bodyPost_ret (v := .agg #[.int .i64 kd, .slice a4 z c4]) (by rw [results_cell1 rfl]; go_simp) rfl ?_
    rw [hdat2.out, hz.out]
    exact ⟨_, _, rfl, hF.out.2.1, hF.out.1⟩
  · have hkb : (kd == 3) = false := by simpa using hk3
    have hdat2 : Hid (dat ⟨kd, ky, vl, n⟩ = [c] ++ ky ++ vl) := ⟨by rw [hdat.out, if_neg hk3]; rfl⟩
    replace hb13 : Hid _ := ⟨hb13⟩
    replace hb23 : Hid _ := ⟨hb23⟩
    clear hk3 s3
    go_wp2_with (at_builtin; go_must (refine wpList_app_str rfl _ _ rfl rfl (v := .slice a3 ([c] ++ ky).length c3) (l := [c] ++ ky) (k := vl) (base := w.heap.size) rfl rfl hr3 (by simp; omega) hsz ?_); intro v4 w4 hr5 hg4'; refine Hid.out ?_)
    refine ⟨?_⟩
    have hown : ∀ j, (Value.slice a3 ([c] ++ ky).length c3).ownBlock = some j → w.heap.size + 1 < j := fun j hj => by
      rcases id hr3.2 with ⟨e, _⟩ | ⟨g, cp, cur, e, hge, hg6, _⟩
      · rw [e] at hj; cases hj
      · rw [e] at hj
        simp only [Value.ownBlock, Option.some.injEq] at hj
        subst hj
        by_cases e1 : g = w.heap.size
        · rw [e1, hb13.out] at hg6; simp at hg6
        · by_cases e2 : g = w.heap.size + 1
          · rw [e2, hb23.out] at hg6; simp at hg6
          · omega
    have hl3 := (Array.getElem?_eq_some_iff.1 hb23.out).1
    have e4 : w4.heap[w.heap.size]? = some (.cells #[.int .i64 kd, .string (bt ky), .string (bt vl), .int .i64 n] 36 (0, 0)) := (hg4'.block _ (by omega) (fun e => by have := hown _ e.symm; omega)).trans hb13.out
    have e5 : w4.heap[w.heap.size + 1]? = some (.cells #[.int .i64 0, .slice none 0 0] 55 (0, 0)) := (hg4'.block _ (by omega) (fun e => by have := hown _ e.symm; omega)).trans hb23.out
    have hg5 : w.grownBy w4 none := hg4.andThen hg4' fun j hj => .inl (by have := hown j hj; omega)
    obtain ⟨D, hD⟩ : ∃ D, [c] ++ ky ++ vl = D := ⟨_, rfl⟩
    rw [hD] at hr5 hdat2
    have hDl : 0 < D.length := by rw [← hD]; simp
    clear hD
    obtain ⟨z, hz⟩ : ∃ z, D.length = z := ⟨_, rfl⟩
    rw [hz] at hr5 hDl
    have hF := hfin.out w4 v4 D hg5 (by rw [hz]; exact hr5) e4 e5
    rw [hz] at hF
    obtain ⟨a4, c4, rfl⟩ : ∃ a4 c4, v4 = .slice a4 z c4 := by
      rcases id hr5.2 with ⟨rfl, h0⟩ | ⟨g, cp, cur, e, _⟩
      · omega
      · exact ⟨_, _, e⟩
    have t0 : w4.cell? ⟨w.heap.size, 0, none⟩ = some (.int .i64 kd) := by simp [World.cell?, e4]
    have y0 : w4.cell? ⟨w.heap.size + 1, 0, none⟩ = some (.int .i64 0) := by simp [World.cell?, e5]
    have y1 : w4.cell? ⟨w.heap.size + 1, 1, none⟩ = some (.slice none 0 0) := by simp [World.cell?, e5]
    have yf : ∀ i, w4.frozen? ⟨w.heap.size + 1, i, none⟩ = false := fun i => by simp [World.frozen?, e5]
    replace hF : Hid _ := ⟨hF⟩
    replace hz : Hid _ := ⟨hz⟩
    clear hr5 hg5 e4 e5
    go_wp2_with fail
    have z0 : ((w4.setCell ⟨w.heap.size + 1, 0, none⟩ (.int .i64 kd)).setCell ⟨w.heap.size + 1, 1, none⟩ (.slice a4 z c4)).cell? ⟨w.heap.size + 1, 0, none⟩ = some (.int .i64 kd) := by simp [World.cell?, hF.out.2.2]
    have z1 : ((w4.setCell ⟨w.heap.size + 1, 0, none⟩ (.int .i64 kd)).setCell ⟨w.heap.size + 1, 1, none⟩ (.slice a4 z c4)).cell? ⟨w.heap.size + 1, 1, none⟩ = some (.slice a4 z c4) := by simp [World.cell?, hF.out.2.2]
    refine bodyPost_ret (v := .agg #[.int .i64 kd, .slice a4 z c4]) (by rw [results_cell1 rfl]; go_simp) rfl ?_
    rw [hdat2.out, hz.out]
    exact ⟨_, _, rfl, hF.out.2.1, hF.out.1⟩
end Go.Proofs.YtmahpceokpajgaaDoor
