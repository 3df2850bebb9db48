/- action.Encode. -/
import Derived.Test.YtmahpceokpajgaaDoorFie
import Derived.Test.YtmahpceokpajgaaDoorCDeca
namespace Go.Proofs.YtmahpceokpajgaaDoor
open Go.RowKit Go.IntWalk Go.Maps Go.Shelf
set_option linter.unusedVariables false
/-- Bytes as numbers. -/
def bz (k : K) : List Int := k.map fun b => (b.toNat : Int)
theorem bz_len (k : K) : (bz k).length = k.length := by simp [bz]
theorem bz_in (k : K) : ∀ z ∈ bz k, 0 ≤ z ∧ z < 256 := fun z hz => by
  obtain ⟨b, _, rfl⟩ := List.mem_map.1 hz
  have := b.toNat_lt
  omega
theorem bz_cells (k : K) : (bz k).map (Value.int .u8) = Lib.byteCells k := by simp [bz, Lib.byteCells]
theorem bz_inj {a b : K} (h : bz a = bz b) : a = b := by
  have : ∀ a b : K, bz a = bz b → a = b := fun a => by
    induction a with
    | nil => intro b h; cases b with
      | nil => rfl
      | cons x y => simp [bz] at h
    | cons c a ih => intro b h; cases b with
      | nil => simp [bz] at h
      | cons x y =>
        simp only [bz, List.map_cons, List.cons.injEq] at h
        rw [ih y h.2, UInt8.toNat_inj.1 (by omega : c.toNat = x.toNat)]
  exact this a b h
/-- An action's fields, and its bytes. -/
def fof (x : Sp) : Int × List Int := (x.kd, bz (dat x))
def encP (p : Int × List Int) : List Int := p.1 :: (p.2.length : Int) / 256 :: (p.2.length : Int) % 256 :: p.2
def encX (xs : List Sp) : List Int := xs.flatMap fun x => encP (fof x)
theorem encL_of {fs : List C.Fd} {xs : List Sp} (h : fs.map C.said = xs.map fof) : C.encL fs = encX xs := by
  have e1 : C.encL fs = (fs.map C.said).flatMap encP := by
    unfold C.encL
    rw [List.flatMap_map]
    rfl
  rw [e1, h]
  unfold encX
  rw [List.flatMap_map]
theorem dat_len {x : Sp} (hk : x.ky.length ≤ 16) (hv : x.vl.length ≤ 60) (hn : In64 x.n) : (dat x).length ≤ 100 := by
  unfold dat
  have := itoa_len hn
  split <;> simp <;> omega
theorem rgt_kd {x : Sp} (h : rgt x = true) : 1 ≤ x.kd ∧ x.kd ≤ 4 ∧ x.ky.length ≤ 16 ∧ x.vl.length ≤ 60 ∧ x.ky ≠ [] := by
  simp [rgt] at h
  refine ⟨by omega, by omega, by omega, by omega, ?_⟩
  intro e
  simp [e] at h
theorem okL_of {fs : List C.Fd} {xs : List Sp} (h : fs.map C.said = xs.map fof) (hl : xs.length ≤ 4) (hr : xs.all rgt = true) (hn : ∀ x ∈ xs, x.ok) : C.okL fs = true := by
  have hlen : fs.length = xs.length := by have := congrArg List.length h; simpa using this
  simp only [C.okL, Bool.and_eq_true, decide_eq_true_eq, List.all_eq_true]
  refine ⟨by omega, fun f hf => ?_⟩
  have : C.said f ∈ xs.map fof := by rw [← h]; exact List.mem_map.2 ⟨f, hf, rfl⟩
  obtain ⟨x, hx, e⟩ := List.mem_map.1 this
  have hk := rgt_kd (List.all_eq_true.1 hr x hx)
  have hd := dat_len hk.2.2.1 hk.2.2.2.1 (hn x hx).2.2.2
  simp only [fof, C.said, Prod.mk.injEq] at e
  simp only [C.Fd.right, C.rightB, ← e.1, ← e.2, bz_len]
  simp
  omega
theorem wpList_app_fld {ops : Array Oper} {rest : List Oper} {o : Oper} {a : Act} {w : World} {Q : Exit → Act → World → Prop} (hg : o.guard = none) (sl x : Operand) (hop : o.op = Op.call { callee := Callee.builtin Builtin.append, args := #[sl, x], argTypes := #[53, 53] })
    {v : Value} {xs : List C.Fd} {f : C.Fd} {s : Nat} {ad : Addr} (hs : a.eval sl = v) (hx : a.eval x = .slice (some ad) 1 1) (hown : w.ownsRow s 55 2 v xs.length (C.cellsL xs)) (hc : ∀ j u, (C.cellsF f)[j]? = some u → w.cell? (ad.add j) = some u) (hl : xs.length ≤ 4096) (hb : s ≤ w.heap.size)
    (hK : ∀ v' w', w'.ownsRow s 55 2 v' (xs ++ [f]).length (C.cellsL (xs ++ [f])) → w.grownBy w' v.ownBlock → wpList Tryd.prog ops Q rest (a.put o.dst v') w') : wpList Tryd.prog ops Q (o :: rest) a w := by
  obtain ⟨v', w', hrun, h1, h2, _⟩ := C.run_append_field w s o.type v xs f hown ad hc hl hb
  refine wpList_plain hg fun K hK2 => ?_
  unfold Oper.wp
  simp [execOp, hop, resolve, invoke, builtin, hs, hx, hrun, Result.andThen]
  exact hK2 _ _ (hK v' w' (by rw [List.length_append]; exact h1) h2)
theorem own_mono {w : World} {base base' : Nat} {e : TypeId} {size : Nat} {v : Value} {n : Nat} {xs : List Value} (h : w.ownsRow base' e size v n xs) (hb : base ≤ base') : w.ownsRow base e size v n xs := ⟨h.1, h.2.imp id fun ⟨g, cap, cur, e1, hbg, r⟩ => ⟨g, cap, cur, e1, Nat.le_trans hb hbg, r⟩⟩
/-- What is known of the fields so far. -/
structure Fso (w wr : World) (v : Value) (fs : List C.Fd) (xs : List Sp) : Prop where
  row : wr.ownsRow w.heap.size 55 2 v fs.length (C.cellsL fs)
  okc : ∀ f ∈ fs, C.okC w.heap.size wr f
  said : fs.map C.said = xs.map fof
  g : w.grownBy wr none
theorem Fso.keep {w wr wr' : World} {v : Value} {fs : List C.Fd} {xs : List Sp} (h : Fso w wr v fs xs) (hg : wr.grownBy wr' none) : Fso w wr' v fs xs :=
  ⟨h.row.kept hg (Classical.em _), fun f hf => (h.okc f hf).kept hg (by simp), h.said, grown_none h.g hg⟩
theorem info55d : (Tryd.prog.info? 55).map (fun i => (i.zero, i.size, i.bytes)) = some (some (.agg #[.int .i64 0, .slice none 0 0]), 2, 32) := by kernel_rfl
set_option maxRecDepth 100000 in
set_option maxHeartbeats 2000000 in
theorem encA_any (w : World) (h : Dr w) {v : Value} {xs : List Sp} (hx : Sps w.heap.size w v xs) {r : Int} (hr : Hid (wrE xs = r)) : Calls Tryd.prog 9 #[v] w fun e w' => ∃ u, e = .returned (.tuple #[u, .int .i64 r]) ∧ w'.ownsRow w.heap.size 5 1 u (if r = 0 then encX xs else []).length ((if r = 0 then encX xs else []).map (Value.int .u8)) ∧ w.grownBy w' none := by
  have hw := wrong_any w hx hr
  have h0 : Hid (Dr w) := ⟨h⟩
  obtain ⟨a, cap, rfl, hxl⟩ := hx.shape
  unfold maxLen at hxl
  by_cases hr0 : r = 0
  · subst hr0
    obtain ⟨hl4, hall⟩ : xs.length ≤ 4 ∧ xs.all rgt = true := by
      have := hr.out
      unfold wrE at this
      split at this
      · split at this
        · exact ⟨by assumption, by assumption⟩
        · cases this
      · cases this
    obtain ⟨i0, hi, hz0, hz1, hz2⟩ := info_parts info55d
    go_enter Tryd.func9, Tryd.ntmps9
    go_wp2_with fail
    refine hw.mono ?_
    rintro e w1 ⟨rfl, hg1⟩
    replace hall : Hid _ := ⟨hall⟩
    have h1 : Dr w1 := h.keep hg1
    have hx1 : Sps w.heap.size w1 (.slice a xs.length cap) xs := hx.keep hg1 (Nat.le_refl _)
    replace h : Hid _ := ⟨h1⟩
    clear hw
    go_wp2_with (at_make; go_must (refine wpList_make_own _ rfl _ _ 53 rfl w.heap.size 55 i0 (.agg #[.int .i64 0, .slice none 0 0]) 2 Tryd.underlying53 hi hz0 hz1 .i64 .i64 (xs.length : Int) xs.length rfl rfl rfl (by rw [hz2]; omega) (by unfold maxLen; omega) hg1.size ?_); intro w2 hr2 hg2; refine Hid.out ?_)
    refine ⟨?_⟩
    have hF0 : Hid (Fso w w2 (.slice (some ⟨w1.heap.size, 0, none⟩) 0 xs.length) [] []) := ⟨⟨hr2, by simp, rfl, grown_none hg1 hg2⟩⟩
    have h2 : Dr w2 := h.out.keep hg2
    have hg12 : Hid (w.grownBy w2 none) := ⟨grown_none hg1 hg2⟩
    have hall2 : Hid (∀ x ∈ xs, x.ok ∧ x.ky.length ≤ 16 ∧ x.vl.length ≤ 60) := ⟨fun x hxm => by
      have hk := rgt_kd (List.all_eq_true.1 hall.out x hxm)
      obtain ⟨j, hj⟩ := List.mem_iff_getElem?.1 hxm
      obtain ⟨_, _, _, _, hok, _⟩ := hx1.at hj
      exact ⟨hok, hk.2.2.1, hk.2.2.2.1⟩⟩
    clear hr2 hg2 hg1 hx1 h1
    replace h : Hid _ := ⟨h.out⟩
    replace h2 : Hid _ := ⟨h2⟩
    go_wp2_with fail
    go_loopw [5, 18] (fun v iv wr => ∃ (i : Nat) (fs : List C.Fd), iv = .int .i64 i ∧ i ≤ xs.length ∧ Hid (Fso w wr v fs (xs.take i)))
      (fun _ iv _ => xs.length - (intOf iv).toNat)
    case atStart => exact ⟨0, [], rfl, by omega, hF0⟩
    case round =>
      clear hF0
      obtain ⟨i, fs, rfl, hi, hF⟩ := hrel
      by_cases hlt : i < xs.length
      · have hdi : decide ((i : Int) < xs.length) = true := by simp; omega
        obtain ⟨x, hxi⟩ : ∃ x, xs[i]? = some x := ⟨_, List.getElem?_eq_getElem hlt⟩
        obtain ⟨hok, hk16, hv60⟩ := hall2.out x (List.mem_of_getElem? hxi)
        obtain ⟨b, off, rfl, hb, -, c0, c1, c2, c3⟩ := (hx.keep hF.out.g (Nat.le_refl _)).at hxi
        have hga := World.grownBy_alloc wr (.cells #[.int .i64 x.kd, .string (bt x.ky), .string (bt x.vl), .int .i64 x.n] 36) none
        have d0 := cell_new wr #[.int .i64 x.kd, .string (bt x.ky), .string (bt x.vl), .int .i64 x.n] 36 (i := 0) rfl
        have d1 := cell_new wr #[.int .i64 x.kd, .string (bt x.ky), .string (bt x.vl), .int .i64 x.n] 36 (i := 1) rfl
        have d2 := cell_new wr #[.int .i64 x.kd, .string (bt x.ky), .string (bt x.vl), .int .i64 x.n] 36 (i := 2) rfl
        have d3 := cell_new wr #[.int .i64 x.kd, .string (bt x.ky), .string (bt x.vl), .int .i64 x.n] 36 (i := 3) rfl
        have hF1 := hF.out.keep hga
        have hcall := fieldOf_any _ (h0.out.keep hF1.g) x hok hk16 hv60
        have hflen : fs.length ≤ 200 := by have := congrArg List.length hF.out.said; simp at this; omega
        obtain ⟨D, hD⟩ : ∃ D, Hid (dat x = D) := ⟨_, ⟨rfl⟩⟩
        rw [hD.out] at hcall
        obtain ⟨z, hz⟩ : ∃ z, D.length = z := ⟨_, rfl⟩
        rw [hz] at hcall
        replace hcall : Hid _ := ⟨hcall⟩
        replace hF1 : Hid _ := ⟨hF1⟩
        replace hz : Hid _ := ⟨hz⟩
        replace hxi : Hid _ := ⟨hxi⟩
        clear hF hga
        go_wp2_with fail
        refine hcall.out.mono ?_
        rintro e w5 ⟨a5, c5, rfl, hr5, hg5⟩
        have hF5 := hF1.out.keep hg5
        have hga6 := World.grownBy_alloc w5 (.cells #[.int .i64 x.kd, .slice a5 z c5] 55) none
        have hF6 := hF5.keep hga6
        have n0 := cell_new w5 #[.int .i64 x.kd, .slice a5 z c5] 55 (i := 0) rfl
        have n1 := cell_new w5 #[.int .i64 x.kd, .slice a5 z c5] 55 (i := 1) rfl
        have hnew : C.okC w.heap.size (w5.alloc (.cells #[.int .i64 x.kd, .slice a5 z c5] 55)) ⟨x.kd, a5, z, c5, bz D⟩ := by
          refine ⟨⟨?_, bz_in D⟩, hok.1⟩
          simp only [bz_len, bz_cells, hz.out]
          exact (own_mono hr5 hF1.out.g.size).kept hga6 (Classical.em _)
        replace hnew : Hid _ := ⟨hnew⟩
        replace hF6 : Hid _ := ⟨hF6⟩
        have hwz : w.heap.size ≤ (w5.alloc (.cells #[.int .i64 x.kd, .slice a5 z c5] 55)).heap.size := hF6.out.g.size
        have hcells : ∀ j u, (C.cellsF ⟨x.kd, a5, z, c5, bz D⟩)[j]? = some u → (w5.alloc (.cells #[.int .i64 x.kd, .slice a5 z c5] 55)).cell? ((⟨w5.heap.size, 0, none⟩ : Addr).add j) = some u := fun j u hj => by
          rw [addr_add, Nat.zero_add]
          match j, hj with
          | 0, hj => simp [C.cellsF] at hj; subst hj; exact n0
          | 1, hj => simp [C.cellsF] at hj; subst hj; exact n1
          | j + 2, hj => simp [C.cellsF] at hj
        replace hcells : Hid _ := ⟨hcells⟩
        clear hF5 hr5 hg5 hcall hga6 n0 n1 hF1
        go_wp2_with (at_builtin; go_must (refine wpList_app_fld rfl _ _ rfl (v := u5) rfl rfl hF6.out.row hcells.out (by omega) hwz ?_); intro v7 w7 hr7 hg7; refine Hid.out ?_)
        refine ⟨?_⟩
        have hown : ∀ k, u5.ownBlock = some k → w.heap.size ≤ k ∧ ∃ c f, (w5.alloc (.cells #[.int .i64 x.kd, .slice a5 z c5] 55)).heap[k]? = some (.cells c 55 f) := fun k hk => by
          rcases id hF6.out.row.2 with ⟨e, _⟩ | ⟨g, cp, cur, e, hge, hg6, _⟩
          · rw [e] at hk; cases hk
          · rw [e] at hk
            simp only [Value.ownBlock, Option.some.injEq] at hk
            subst hk
            exact ⟨hge, _, _, hg6⟩
        have hF7 : Hid (Fso w w7 v7 (fs ++ [⟨x.kd, a5, z, c5, bz D⟩]) (xs.take (i + 1))) := ⟨by
          have hk : ∀ f, C.okC w.heap.size (w5.alloc (.cells #[.int .i64 x.kd, .slice a5 z c5] 55)) f → C.okC w.heap.size w7 f := fun f hf => hf.kept hg7 fun k hk c f => by
            obtain ⟨_, c', f', e⟩ := hown k hk
            rw [e]
            simp
          refine ⟨hr7, fun f hf => ?_, ?_, hF6.out.g.andThen hg7 fun j hj => .inl (hown j hj).1⟩
          · rcases List.mem_append.1 hf with hf | hf
            · exact hk f (hF6.out.okc f hf)
            · simp only [List.mem_singleton] at hf
              subst hf
              exact hk _ hnew.out
          · rw [List.take_add_one, hxi.out, List.map_append, List.map_append, hF6.out.said]
            simp [fof, C.said, hD.out]⟩
        clear hr7 hg7 hown hF6 hnew hcells
        go_wp2_with fail
        exact ⟨⟨i + 1, _, by go_num, by omega, hF7⟩, by simp [intOf] <;> omega⟩
      · have hdi : decide ((i : Int) < xs.length) = false := by simp; omega
        have hF1 : Fso w wr u5 fs xs := by
          have := hF.out
          rw [List.take_of_length_le (by omega)] at this
          exact this
        have hfl := C.Flds.of_own hF1.row fun f hf => (hF1.okc f hf).ok
        have hok : C.okL fs = true := okL_of hF1.said hl4 hall.out fun x hx => (hall2.out x hx).1
        have hce := C.encode_any u5 fs wr hfl
        have e1 : C.errR fs = 0 := by unfold C.errR; rw [if_pos hok]
        have e2 : C.encR fs = encX xs := by unfold C.encR; rw [if_pos hok]; exact encL_of hF1.said
        rw [e1, e2] at hce
        replace hce : Hid _ := ⟨hce⟩
        replace hF1 : Hid _ := ⟨hF1⟩
        clear hF hfl hok e1 e2
        go_wp2_with fail
        refine hce.out.mono ?_
        rintro e w5 ⟨u, rfl, hr5, hb5⟩
        go_wp2_with fail
        go_ret2
        exact ⟨u, rfl, own_mono hr5 hF1.out.g.size, grown_none hF1.out.g (grown_of hb5)⟩
  · have hrb : (r != 0) = true := by simpa using hr0
    have hrb2 : (r == 0) = false := by simpa using hr0
    go_enter Tryd.func9, Tryd.ntmps9
    go_wp2_with fail
    refine hw.mono ?_
    rintro e w1 ⟨rfl, hg1⟩
    go_wp2_with fail
    go_ret2
    exact ⟨_, rfl, World.ownsRow_nil _ _ _ _, hg1⟩
end Go.Proofs.YtmahpceokpajgaaDoor
