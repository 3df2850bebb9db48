/- line.Push, line.Pop. -/
import Derived.Test.YtblnhcnfeagjhaaGreatDoorQMa
namespace Go.Proofs.YtblnhcnfeagjhaaGreatDoor.Q
open Go.RowKit Go.IntWalk Go.Maps
set_option linter.unusedVariables false
set_option linter.unusedSimpArgs false
theorem Tryz.info91 : (Tryz.prog.info? 91).map (fun i => (i.zero, i.size, i.bytes)) = some (some (.agg #[.string ByteArray.empty, .int .u64 0]), 2, 24) := by kernel_rfl
theorem two_new (w : World) (a b : Value) (t : TypeId) (j : Nat) (u : Value) (hj : [a, b][j]? = some u) : (w.alloc (.cells #[a, b] t)).cell? ((⟨w.heap.size, 0, none⟩ : Addr).add j) = some u := by
  have hn := heap_alloc_new w (.cells #[a, b] t)
  rw [addr_add, Nat.zero_add]
  match j, hj with
  | 0, hj => simp at hj; subst hj; simp only [World.cell?, hn]; rfl
  | 1, hj => simp at hj; subst hj; simp only [World.cell?, hn]; rfl
  | j + 2, hj => simp at hj
/-- 'append(l, e)'. -/
theorem run_append_entry (w : World) (rv : Value) (es : List E) (e : E) (hrow : Rw 91 w rv es) (hl : es.length ≤ 100000) (ty : TypeId) :
    ∃ a cap w', (Builtin.append_ #[89, 89] ty #[rv, .slice (some ⟨w.heap.size, 0, none⟩) 1 1]).run Tryz.prog (w.alloc (.cells #[.string e.n, .int .u64 e.at_] 91)) = .ok (.slice a (es.length + 1) cap) w' ∧ Rw 91 w' (.slice a (es.length + 1) cap) (es ++ [e]) ∧ w.grownBy w' rv.ownBlock ∧
      ((Value.slice a (es.length + 1) cap).ownBlock = rv.ownBlock ∨ ∃ k, (Value.slice a (es.length + 1) cap).ownBlock = some k ∧ w.heap.size ≤ k) := by
  obtain ⟨i0, hi, hz0, hz1, hz2⟩ := info_parts Tryz.info91
  have hga := World.grownBy_alloc w (.cells #[.string e.n, .int .u64 e.at_] 91) none
  obtain ⟨v', w', hrun, h1, h2, _, h4⟩ := run_append_own_at (P := Tryz.prog) (w := w.alloc (.cells #[.string e.n, .int .u64 e.at_] 91)) 0 89 ty 91 i0 (.agg #[.string ByteArray.empty, .int .u64 0]) 2 24 Tryz.underlying89 hi hz0 hz1 hz2 rfl (by decide) rv es.length _ (World.ownsRow.kept hrow hga (Classical.em _)) ⟨w.heap.size, 0, none⟩ 1 1 e.cells rfl (two_new w _ _ 91) (fun u hu => by
    simp only [E.cells, List.mem_cons, List.not_mem_nil, or_false] at hu
    rcases hu with rfl | rfl <;> rfl) (by unfold maxLen; omega) (by omega) (by omega)
  have hlen : (es ++ [e]).length = es.length + 1 := by simp
  have hce : cellsE es ++ e.cells = cellsE (es ++ [e]) := by rw [cellsE_app]; simp [cellsE]
  rw [hce] at h1
  obtain ⟨a, cap, rfl⟩ : ∃ a cap, v' = .slice a (es.length + 1) cap := by
    rcases h1.2 with ⟨_, h0⟩ | ⟨g, c, cur, e1, _⟩
    · omega
    · exact ⟨_, _, e1⟩
  refine ⟨a, cap, w', hrun, by unfold Rw; rw [hlen]; exact h1, grown_same hga h2, ?_⟩
  rcases h4 with h4 | h4
  · exact .inl h4
  · exact .inr ⟨_, h4, by simp⟩
theorem push_plc {w : World} {bm : Nat} {es : List E} {D : DataW Value} (hP : Plc D es) {e : E} (hn : ∀ x ∈ es, x.n ≠ e.n) (hM : Mp w bm D) : Plc (D.put (ky e.n) (.lit (.int .i64 (es.length : Int)))) (es ++ [e]) := by
  have hI := hM.isMap
  have hno : Maps.has D (ky e.n) = false := by
    cases h : Maps.has D (ky e.n)
    · rfl
    · obtain ⟨x, hx, hxn⟩ := hP.all _ h
      exact absurd hxn (hn x hx)
  refine ⟨fun k x hk => ?_, fun n h => ?_, ?_⟩
  · by_cases hkl : k < es.length
    · rw [List.getElem?_append_left hkl] at hk
      have hne : ky x.n ≠ ky e.n := fun e' => hn x (List.mem_of_getElem? hk) (ky_inj e')
      rw [Maps.has_put_other hne, Maps.atKey_put_other hne]
      exact hP.has k x hk
    · rw [List.getElem?_append_right (by omega)] at hk
      have hk0 : k - es.length = 0 := by
        rcases Nat.eq_zero_or_pos (k - es.length) with h | h
        · exact h
        · rw [List.getElem?_eq_none (by simp; omega)] at hk; cases hk
      rw [hk0] at hk
      simp at hk
      subst hk
      rw [Maps.has_put_same hI (ky_key _), Maps.atKey_put_same hI (ky_key _)]
      exact ⟨rfl, by congr 2; omega⟩
  · by_cases e1 : n = e.n
    · exact ⟨e, by simp, e1.symm⟩
    · rw [Maps.has_put_other (fun e' => e1 (ky_inj e'))] at h
      obtain ⟨x, hx, hxn⟩ := hP.all n h
      exact ⟨x, by simp [hx], hxn⟩
  · rw [Maps.size_put hM.tidy, hno, hP.size]
    simp
theorem step_append_run {ops : Array Oper} {o : Oper} {a : Act} {w : World} {K : Act → World → Prop} {Q : Exit → Act → World → Prop} {E : Prop} (hgd : o.guard = none) (sl x : Operand) (hop : o.op = Op.call { callee := Callee.builtin Builtin.append, args := #[sl, x], argTypes := #[89, 89] })
    (v u : Value) (hs : a.eval sl = v) (hx : a.eval x = u) {v' : Value} {w' : World} (hrun : (Builtin.append_ #[89, 89] o.type #[v, u]).run Tryz.prog w = .ok v' w') (hK : K (a.put o.dst v') w') :
    if Region.wanted o (yielded ops a.tmps) = true then Oper.wp Tryz.prog o a w K Q else E := by
  have hw : Region.wanted o (yielded ops a.tmps) = true := by simp [Region.wanted, hgd]
  rw [if_pos hw]
  unfold Oper.wp
  simp [execOp, hop, resolve, invoke, builtin, hs, hx, hrun, Result.andThen]
  exact hK
theorem run_assert (v : Value) (w : World) : (Instr.typeAssert (.iface 91 v) 20 91 false).run Tryz.prog w = .ok v w := by
  simp [Instr.typeAssert, run_underlying Tryz.underlying91, Sem.run_bind, Result.andThen]
theorem push_end {w w1 w3 : World} {qb bm : Nat} {rv rv' : Value} {es : List E} {e : E} {D : DataW Value} (h : Ln w qb bm rv es) (hn : ∀ x ∈ es, x.n ≠ e.n) (he : e.n.size ≤ maxLen ∧ 0 ≤ e.at_ ∧ e.at_ < 18446744073709551616) (hl : es.length < 100000)
    (hg1 : w.grownBy w1 (some bm)) (hM : Mp w bm D) (hP : Plc D es) (hM1 : Mp w1 bm (D.put (ky e.n) (.lit (.int .i64 (es.length : Int))))) (hg3 : w1.grownBy w3 rv.ownBlock) (hr3 : Rw 91 w3 rv' (es ++ [e])) (ho : rv'.ownBlock = rv.ownBlock ∨ ∃ k, rv'.ownBlock = some k ∧ w1.heap.size ≤ k) :
    Ln (w3.setCell ⟨qb, 0, none⟩ rv') qb bm rv' (es ++ [e]) ∧ Tn w (w3.setCell ⟨qb, 0, none⟩ rv') qb bm rv rv' ∧ w3.cell? ⟨qb, 0, none⟩ = some rv ∧ w3.frozen? ⟨qb, 0, none⟩ = false := by
  have hqm : some qb ≠ some bm := fun e => h.ne (by cases e; rfl)
  have hs1 := hg1.size
  have hb1 : w1.heap[qb]? = _ := (hg1.block qb h.qbl hqm).trans h.blk
  have hb3 : w3.heap[qb]? = _ := (hg3.block qb (by have := h.qbl; omega) (fun e => h.nq e.symm)).trans hb1
  have hg4 := grown_setCell w3 ⟨qb, 0, none⟩ rv'
  have nq : rv'.ownBlock ≠ some qb := fun e' => by
    rcases ho with ho | ⟨k, hk, hkl⟩
    · exact h.nq (ho ▸ e')
    · rw [hk] at e'; cases e'; have := h.qbl; omega
  have nm : rv'.ownBlock ≠ some bm := fun e' => by
    rcases ho with ho | ⟨k, hk, hkl⟩
    · exact h.nm (ho ▸ e')
    · rw [hk] at e'; cases e'; have := h.bml; omega
  refine ⟨⟨by rw [heap_set hb3]; rfl, World.ownsRow.kept hr3 hg4 (.inr nq), ⟨_, (hM1.kept (hg3.block bm (by have := h.bml; omega) (fun e => h.nm e.symm))).kept (hg4.block bm (by have := h.bml; have := hg3.size; omega) (fun e => hqm e.symm)), push_plc hP hn hM⟩, nq, nm, fun x hx => ?_, by simp; omega⟩, ⟨?_, ?_⟩, by simp [World.cell?, hb3], by simp [World.frozen?, hb3]⟩
  · rcases List.mem_append.1 hx with hx | hx
    · exact h.ok x hx
    · simp at hx; subst hx; exact he
  · exact ((Kp.of hg1 (C := fp qb bm rv) (fun k hk => .inr (.inl (by cases hk; rfl)))).trans (Kp.of hg3 (C := fp qb bm rv) (fun k hk => .inr (.inr hk))) (fun _ _ h => h)).trans (Kp.of hg4 (C := fp qb bm rv) (fun k hk => .inl (by cases hk; rfl))) (fun _ _ h => h)
  · rcases ho with ho | ⟨k, hk, hkl⟩
    · exact .inl ho
    · exact .inr ⟨k, hk, Nat.le_trans hs1 hkl⟩
set_option maxRecDepth 100000 in
set_option maxHeartbeats 4000000 in
/-- line.Push. -/
theorem lpush_any (w : World) {qb bm : Nat} {rv : Value} {es : List E} (h : Ln w qb bm rv es) (e : E) (hn : ∀ x ∈ es, x.n ≠ e.n) (he : e.n.size ≤ maxLen ∧ 0 ≤ e.at_ ∧ e.at_ < 18446744073709551616) (hl : es.length < 100000) :
    Calls Tryz.prog 176 #[.pointer (some ⟨qb, 0, none⟩), .iface 91 (.agg #[.string e.n, .int .u64 e.at_])] w fun r w' => r = .returned (.tuple #[]) ∧ ∃ rv', Ln w' qb bm rv' (es ++ [e]) ∧ Tn w w' qb bm rv rv' := by
  obtain ⟨ad, cap, rfl⟩ := h.shape
  have hg0 := World.grownBy_alloc w (.cells #[.string e.n, .int .u64 e.at_] 91) none
  have h0 := h.keep hg0
  have hl0 := h.len
  obtain ⟨D, hM, hP⟩ := h0.mp
  have hsz : Maps.size D < maxLen := by rw [hP.size]; unfold maxLen; omega
  have c0 := h0.c0
  have c1 := h0.c1
  have e0 : (w.alloc (.cells #[.string e.n, .int .u64 e.at_] 91)).cell? ⟨w.heap.size, 0, none⟩ = some (.string e.n) := by simp
  have e1 : (w.alloc (.cells #[.string e.n, .int .u64 e.at_] 91)).cell? ⟨w.heap.size, 1, none⟩ = some (.int .u64 e.at_) := by simp
  have hwl : w.heap.size < (w.alloc (.cells #[.string e.n, .int .u64 e.at_] 91)).heap.size := by simp
  have hnew : w.heap.size ≠ bm := by have := h.bml; omega
  have hnewq : w.heap.size ≠ qb := by have := h.qbl; omega
  have hta := run_assert
  go_enter Tryz.func176, Tryz.ntmps176
  go_wp2_with fail
  generalize hw0 : w.alloc (.cells #[.string e.n, .int .u64 e.at_] 91) = w0 at *
  obtain ⟨w1, hs1, hM1, ht1⟩ := Mp.store (w := w0.drew) (n := e.n) (c := (es.length : Int)) hM hsz he.1 (WalkArith.wf_i64 (by omega))
  have hg1 := ht1.grown
  have hqm : some qb ≠ some bm := fun e => h.ne (by cases e; rfl)
  have d0 : w1.cell? ⟨qb, 0, none⟩ = some (.slice ad es.length cap) := hg1.cell (w := w0.drew) (by simpa using c0) hqm
  have d2 : w1.cell? ⟨w.heap.size, 0, none⟩ = some (.string e.n) := hg1.cell (w := w0.drew) (by simpa using e0) (fun e' => hnew (by cases e'; rfl))
  have d3 : w1.cell? ⟨w.heap.size, 1, none⟩ = some (.int .u64 e.at_) := hg1.cell (w := w0.drew) (by simpa using e1) (fun e' => hnew (by cases e'; rfl))
  go_region
  have hr1 : Rw 91 w1 (.slice ad es.length cap) es := World.ownsRow.kept (w := w0.drew) h0.row hg1 (by
    by_cases e' : (Value.slice ad es.length cap).ownBlock = some bm
    · exact absurd e' h.nm
    · exact .inr e')
  obtain ⟨a', cap', w3, hrun, hr3, hg3, ho3⟩ := run_append_entry w1.drew _ es e hr1 hl0 89
  obtain ⟨k1, k2, k3, k4⟩ := push_end h0 hn he hl (grown_same (grown_drew w0) hg1) hM hP hM1 (grown_same (grown_drew w1) hg3) hr3 ho3
  have hfin : Hid (Ending.returned (.tuple #[]) = Ending.returned (.tuple #[]) ∧ ∃ rv', Ln (w3.setCell ⟨qb, 0, none⟩ (.slice a' (es.length + 1) cap')) qb bm rv' (es ++ [e]) ∧ Tn w (w3.setCell ⟨qb, 0, none⟩ (.slice a' (es.length + 1) cap')) qb bm (.slice ad es.length cap) rv') :=
    ⟨rfl, _, k1, (Tn.of0 hg0).trans k2⟩
  clear hs1 hM1 ht1 k1 k2 hr3 ho3
  have d0' := fun o => grown_cell (World.grownBy_alloc w1 o none) d0
  go_wp2_with fail
  refine wp_region_any (by kernel_rfl) ?_
  change wpAny _ _ _ _ _ _ _ (World.drew _)
  refine wpAny_take (i := 0) (v := ?_) rfl (by kernel_rfl) (by kernel_rfl) (by kernel_rfl) (fun _ _ _ h => h) (Or.inl ⟨by rfl, ?_⟩) ?_
  rotate_left
  · (intro w; go_simp; try with_reducible rfl)
  try simp only [List.getElem_toArray, List.getElem_cons_zero, List.getElem_cons_succ, Act.put, List.setIfInBounds_toArray, List.set_cons_zero, List.set_cons_succ]
  refine wpAny_take (i := 1) (v := ?_) rfl (by kernel_rfl) (by kernel_rfl) (by kernel_rfl) (fun _ _ _ h => h) (Or.inl ⟨by rfl, ?_⟩) ?_
  rotate_left
  · (intro w; go_simp; try with_reducible rfl)
  try simp only [List.getElem_toArray, List.getElem_cons_zero, List.getElem_cons_succ, Act.put, List.setIfInBounds_toArray, List.set_cons_zero, List.set_cons_succ]
  refine wpAny_take (i := 2) (v := ?_) rfl (by kernel_rfl) (by kernel_rfl) (by kernel_rfl) (fun _ _ _ h => h) (Or.inl ⟨by rfl, ?_⟩) ?_
  rotate_left
  · (intro w; go_simp; try with_reducible rfl)
  try simp only [List.getElem_toArray, List.getElem_cons_zero, List.getElem_cons_succ, Act.put, List.setIfInBounds_toArray, List.set_cons_zero, List.set_cons_succ]
  refine wpAny_take (i := 3) (v := ?_) rfl (by kernel_rfl) (by kernel_rfl) (by kernel_rfl) (fun _ _ _ h => h) (Or.inl ⟨by rfl, ?_⟩) ?_
  rotate_left
  · (intro w; go_simp; try with_reducible rfl)
  try simp only [List.getElem_toArray, List.getElem_cons_zero, List.getElem_cons_succ, Act.put, List.setIfInBounds_toArray, List.set_cons_zero, List.set_cons_succ]
  refine wpAny_ready (rs := [4, 5]) (by kernel_rfl) (by simp) ?_
  refine AllReady.cons rfl (fun K hK => ?_) (AllReady.cons rfl (fun K hK => ?_) (AllReady.nil))
  · go_simp
    refine hK _ _ ?_
    clear hK K
    try simp only [List.getElem_toArray, List.getElem_cons_zero, List.getElem_cons_succ, Act.put, List.setIfInBounds_toArray, List.set_cons_zero, List.set_cons_succ]
    refine wpAny_ready (rs := [5]) (by kernel_rfl) (by simp) ?_
    refine AllReady.cons rfl (fun K hK => ?_) (AllReady.nil)
    go_simp
    refine hK _ _ ?_
    clear hK K
    try simp only [List.getElem_toArray, List.getElem_cons_zero, List.getElem_cons_succ, Act.put, List.setIfInBounds_toArray, List.set_cons_zero, List.set_cons_succ]
    refine wpAny_ready (rs := [6]) (by kernel_rfl) (by simp) ?_
    refine AllReady.cons rfl (fun K hK => ?_) (AllReady.nil)
    go_simp
    refine hK _ _ ?_
    clear hK K
    try simp only [List.getElem_toArray, List.getElem_cons_zero, List.getElem_cons_succ, Act.put, List.setIfInBounds_toArray, List.set_cons_zero, List.set_cons_succ]
    refine wpAny_ready (rs := [7]) (by kernel_rfl) (by simp) ?_
    refine AllReady.cons rfl (fun K hK => ?_) (AllReady.nil)
    refine step_append_run (by rfl) _ _ (by rfl) _ _ (by rfl) (by rfl) hrun ?_
    refine hK _ _ ?_
    clear hK K
    try simp only [List.getElem_toArray, List.getElem_cons_zero, List.getElem_cons_succ, Act.put, List.setIfInBounds_toArray, List.set_cons_zero, List.set_cons_succ]
    refine wpAny_take (i := 8) (v := ?_) rfl (by kernel_rfl) (by kernel_rfl) (by kernel_rfl) (fun _ _ _ h => h) (Or.inl ⟨by rfl, ?_⟩) ?_
    rotate_left
    · (intro w; go_simp; try with_reducible rfl)
    try simp only [List.getElem_toArray, List.getElem_cons_zero, List.getElem_cons_succ, Act.put, List.setIfInBounds_toArray, List.set_cons_zero, List.set_cons_succ]
    refine wpAny_take (i := 9) (v := ?_) rfl (by kernel_rfl) (by kernel_rfl) (by kernel_rfl) (fun _ _ _ h => h) (Or.inl ⟨by rfl, ?_⟩) ?_
    rotate_left
    · (intro w; go_simp; try with_reducible rfl)
    try simp only [List.getElem_toArray, List.getElem_cons_zero, List.getElem_cons_succ, Act.put, List.setIfInBounds_toArray, List.set_cons_zero, List.set_cons_succ]
    refine wpAny_ready (rs := [10]) (by kernel_rfl) (by simp) ?_
    refine AllReady.cons rfl (fun K hK => ?_) (AllReady.nil)
    go_simp
    refine hK _ _ ?_
    clear hK K
    try simp only [List.getElem_toArray, List.getElem_cons_zero, List.getElem_cons_succ, Act.put, List.setIfInBounds_toArray, List.set_cons_zero, List.set_cons_succ]
    refine wpAny_done (by kernel_rfl) ?_ _
    go_wp2
    go_end0
    exact ⟨rfl, hfin.out.2⟩
  · go_simp
    refine hK _ _ ?_
    clear hK K
    try simp only [List.getElem_toArray, List.getElem_cons_zero, List.getElem_cons_succ, Act.put, List.setIfInBounds_toArray, List.set_cons_zero, List.set_cons_succ]
    refine wpAny_ready (rs := [4, 6]) (by kernel_rfl) (by simp) ?_
    refine AllReady.cons rfl (fun K hK => ?_) (AllReady.cons rfl (fun K hK => ?_) (AllReady.nil))
    · go_simp
      refine hK _ _ ?_
      clear hK K
      try simp only [List.getElem_toArray, List.getElem_cons_zero, List.getElem_cons_succ, Act.put, List.setIfInBounds_toArray, List.set_cons_zero, List.set_cons_succ]
      refine wpAny_ready (rs := [6]) (by kernel_rfl) (by simp) ?_
      refine AllReady.cons rfl (fun K hK => ?_) (AllReady.nil)
      go_simp
      refine hK _ _ ?_
      clear hK K
      try simp only [List.getElem_toArray, List.getElem_cons_zero, List.getElem_cons_succ, Act.put, List.setIfInBounds_toArray, List.set_cons_zero, List.set_cons_succ]
      refine wpAny_ready (rs := [7]) (by kernel_rfl) (by simp) ?_
      refine AllReady.cons rfl (fun K hK => ?_) (AllReady.nil)
      refine step_append_run (by rfl) _ _ (by rfl) _ _ (by rfl) (by rfl) hrun ?_
      refine hK _ _ ?_
      clear hK K
      try simp only [List.getElem_toArray, List.getElem_cons_zero, List.getElem_cons_succ, Act.put, List.setIfInBounds_toArray, List.set_cons_zero, List.set_cons_succ]
      refine wpAny_take (i := 8) (v := ?_) rfl (by kernel_rfl) (by kernel_rfl) (by kernel_rfl) (fun _ _ _ h => h) (Or.inl ⟨by rfl, ?_⟩) ?_
      rotate_left
      · (intro w; go_simp; try with_reducible rfl)
      try simp only [List.getElem_toArray, List.getElem_cons_zero, List.getElem_cons_succ, Act.put, List.setIfInBounds_toArray, List.set_cons_zero, List.set_cons_succ]
      refine wpAny_take (i := 9) (v := ?_) rfl (by kernel_rfl) (by kernel_rfl) (by kernel_rfl) (fun _ _ _ h => h) (Or.inl ⟨by rfl, ?_⟩) ?_
      rotate_left
      · (intro w; go_simp; try with_reducible rfl)
      try simp only [List.getElem_toArray, List.getElem_cons_zero, List.getElem_cons_succ, Act.put, List.setIfInBounds_toArray, List.set_cons_zero, List.set_cons_succ]
      refine wpAny_ready (rs := [10]) (by kernel_rfl) (by simp) ?_
      refine AllReady.cons rfl (fun K hK => ?_) (AllReady.nil)
      go_simp
      refine hK _ _ ?_
      clear hK K
      try simp only [List.getElem_toArray, List.getElem_cons_zero, List.getElem_cons_succ, Act.put, List.setIfInBounds_toArray, List.set_cons_zero, List.set_cons_succ]
      refine wpAny_done (by kernel_rfl) ?_ _
      go_wp2
      go_end0
      exact ⟨rfl, hfin.out.2⟩
    · go_simp
      refine hK _ _ ?_
      clear hK K
      try simp only [List.getElem_toArray, List.getElem_cons_zero, List.getElem_cons_succ, Act.put, List.setIfInBounds_toArray, List.set_cons_zero, List.set_cons_succ]
      refine wpAny_ready (rs := [4]) (by kernel_rfl) (by simp) ?_
      refine AllReady.cons rfl (fun K hK => ?_) (AllReady.nil)
      go_simp
      refine hK _ _ ?_
      clear hK K
      try simp only [List.getElem_toArray, List.getElem_cons_zero, List.getElem_cons_succ, Act.put, List.setIfInBounds_toArray, List.set_cons_zero, List.set_cons_succ]
      refine wpAny_ready (rs := [7]) (by kernel_rfl) (by simp) ?_
      refine AllReady.cons rfl (fun K hK => ?_) (AllReady.nil)
      refine step_append_run (by rfl) _ _ (by rfl) _ _ (by rfl) (by rfl) hrun ?_
      refine hK _ _ ?_
      clear hK K
      try simp only [List.getElem_toArray, List.getElem_cons_zero, List.getElem_cons_succ, Act.put, List.setIfInBounds_toArray, List.set_cons_zero, List.set_cons_succ]
      refine wpAny_take (i := 8) (v := ?_) rfl (by kernel_rfl) (by kernel_rfl) (by kernel_rfl) (fun _ _ _ h => h) (Or.inl ⟨by rfl, ?_⟩) ?_
      rotate_left
      · (intro w; go_simp; try with_reducible rfl)
      try simp only [List.getElem_toArray, List.getElem_cons_zero, List.getElem_cons_succ, Act.put, List.setIfInBounds_toArray, List.set_cons_zero, List.set_cons_succ]
      refine wpAny_take (i := 9) (v := ?_) rfl (by kernel_rfl) (by kernel_rfl) (by kernel_rfl) (fun _ _ _ h => h) (Or.inl ⟨by rfl, ?_⟩) ?_
      rotate_left
      · (intro w; go_simp; try with_reducible rfl)
      try simp only [List.getElem_toArray, List.getElem_cons_zero, List.getElem_cons_succ, Act.put, List.setIfInBounds_toArray, List.set_cons_zero, List.set_cons_succ]
      refine wpAny_ready (rs := [10]) (by kernel_rfl) (by simp) ?_
      refine AllReady.cons rfl (fun K hK => ?_) (AllReady.nil)
      go_simp
      refine hK _ _ ?_
      clear hK K
      try simp only [List.getElem_toArray, List.getElem_cons_zero, List.getElem_cons_succ, Act.put, List.setIfInBounds_toArray, List.set_cons_zero, List.set_cons_succ]
      refine wpAny_done (by kernel_rfl) ?_ _
      go_wp2
      go_end0
      exact ⟨rfl, hfin.out.2⟩
theorem Rw.cut {t : TypeId} {w : World} {g len cap : Nat} {es : List E} (h : Rw t w (.slice (some ⟨g, 0, none⟩) len cap) es) (n : Nat) (hn : n ≤ es.length) : Rw t w (.slice (some ⟨g, 0, none⟩) n cap) (es.take n) := by
  rcases h with ⟨h1, ⟨e1, h0⟩ | ⟨g', c, cur, e1, h0, hg, hn', hm, hs, ht⟩⟩
  · cases e1
  · simp only [Value.slice.injEq, Option.some.injEq, Addr.mk.injEq] at e1
    obtain ⟨⟨rfl, _⟩, rfl, rfl⟩ := e1
    have hl : (es.take n).length = n := by simp; omega
    refine ⟨cellsE_len _, .inr ⟨g, cap, cur, by rw [hl], h0, hg, by rw [hl]; omega, hm, hs, ?_⟩⟩
    rw [hl, ← cellsE_take, ← ht, List.take_take]
    congr 1
    omega
theorem Rw.cap {t : TypeId} {w : World} {a : Option Addr} {len cap : Nat} {es : List E} (h : Rw t w (.slice a len cap) es) : es.length ≤ cap := by
  rcases h.2 with ⟨e, h0⟩ | ⟨g, c, cur, e, _, _, hn, _⟩
  · omega
  · simp only [Value.slice.injEq] at e
    omega
theorem pop_end {w w4 w5 : World} {qb bm g cap : Nat} {es : List E} {e : E} {D : DataW Value} (h : Ln w qb bm (.slice (some ⟨g, 0, none⟩) (es.length + 1) cap) (es ++ [e])) (hM : Mp w bm D) (hP : Plc D (es ++ [e])) (hplc : Plc (D.del (ky e.n)) es)
    (hw4 : w4 = (((w.setCell ⟨g, es.length * 2, none⟩ (.string ⟨#[]⟩)).setCell ⟨g, es.length * 2 + 1, none⟩ (.int .u64 0)).setCell ⟨qb, 0, none⟩ (.slice (some ⟨g, 0, none⟩) es.length cap)).alloc (.cells #[.string e.n, .int .u64 e.at_] 91))
    (hM5 : Mp w5 bm (D.del (ky e.n))) (hg5 : w4.grownBy w5 (some bm)) : Ln w5 qb bm (.slice (some ⟨g, 0, none⟩) es.length cap) es ∧ Tn w w5 qb bm (.slice (some ⟨g, 0, none⟩) (es.length + 1) cap) (.slice (some ⟨g, 0, none⟩) es.length cap) := by
  have hr1 := Rw.set h.row es.length ⟨⟨#[]⟩, 0⟩ (by simp)
  have hr2 := hr1.cut es.length (by simp)
  have e1 : ((es ++ [e]).set es.length ⟨⟨#[]⟩, 0⟩).take es.length = es := by
    apply List.ext_getElem?
    intro k
    rw [List.getElem?_take]
    split
    · rw [List.getElem?_set, if_neg (by omega), List.getElem?_append_left (by assumption)]
    · rw [List.getElem?_eq_none (by omega)]
  rw [e1] at hr2
  have hgq : g ≠ qb := fun e => h.nq (by rw [e]; rfl)
  have hgm : g ≠ bm := fun e => h.nm (by rw [e]; rfl)
  have g1 := (grown_setCell w ⟨g, es.length * 2, none⟩ (.string ⟨#[]⟩)).trans (grown_setCell (w.setCell ⟨g, es.length * 2, none⟩ (.string ⟨#[]⟩)) ⟨g, es.length * 2 + 1, none⟩ (.int .u64 0))
  generalize hw2 : (w.setCell ⟨g, es.length * 2, none⟩ (.string ⟨#[]⟩)).setCell ⟨g, es.length * 2 + 1, none⟩ (.int .u64 0) = w2 at *
  have g2 := grown_setCell w2 ⟨qb, 0, none⟩ (.slice (some ⟨g, 0, none⟩) es.length cap)
  have hb2 : w2.heap[qb]? = _ := (g1.block qb h.qbl (fun e => hgq (by cases e; rfl))).trans h.blk
  have hb3 := heap_set hb2 0 (.slice (some ⟨g, 0, none⟩) es.length cap)
  generalize hw3 : w2.setCell ⟨qb, 0, none⟩ (.slice (some ⟨g, 0, none⟩) es.length cap) = w3 at *
  have g3 : w3.grownBy w4 none := by rw [hw4]; exact World.grownBy_alloc w3 _ none
  have g4 : w3.grownBy w5 (some bm) := grown_same g3 hg5
  have hqm : some qb ≠ some bm := fun e => h.ne (by cases e; rfl)
  refine ⟨⟨(g4.block qb (Array.getElem?_eq_some_iff.1 hb3).1 hqm).trans (by rw [hb3]; rfl), World.ownsRow.kept (World.ownsRow.kept hr2 g2 (.inr fun e => hgq (by cases e; rfl))) g4 (.inr fun e => hgm (by cases e; rfl)), ⟨_, hM5, hplc⟩, h.nq, h.nm, fun x hx => h.ok x (by simp [hx]), by have := h.len; simp at this; omega⟩, ⟨?_, .inl rfl⟩⟩
  exact ((Kp.of g1 (C := fp qb bm (.slice (some ⟨g, 0, none⟩) (es.length + 1) cap)) (fun k hk => .inr (.inr hk))).trans (Kp.of g2 (C := fp qb bm (.slice (some ⟨g, 0, none⟩) (es.length + 1) cap)) (fun k hk => .inl (by cases hk; rfl))) (fun _ _ h => h)).trans (Kp.of g4 (C := fp qb bm (.slice (some ⟨g, 0, none⟩) (es.length + 1) cap)) (fun k hk => .inr (.inl (by cases hk; rfl)))) (fun _ _ h => h)
theorem pop_plc {w : World} {qb bm : Nat} {rv : Value} {es : List E} {e : E} {D : DataW Value} (h : Ln w qb bm rv (es ++ [e])) (hP : Plc D (es ++ [e])) (hM : Mp w bm D) : Plc (D.del (ky e.n)) es := by
  have he : (es ++ [e])[es.length]? = some e := by simp
  have hup : ∀ (k : Nat) (x : E), es[k]? = some x → (es ++ [e])[k]? = some x := fun k x hk => by rw [List.getElem?_append_left (List.getElem?_eq_some_iff.1 hk).1]; exact hk
  have hne : ∀ (k : Nat) (x : E), es[k]? = some x → ky x.n ≠ ky e.n := fun k x hk e' => by
    have := h.nodup (hup k x hk) he (ky_inj e')
    have := (List.getElem?_eq_some_iff.1 hk).1
    omega
  refine ⟨fun k x hk => ?_, fun n hn => ?_, ?_⟩
  · rw [Maps.has_del_other (hne k x hk), Maps.atKey_del_other (hne k x hk)]
    exact hP.has k x (hup k x hk)
  · by_cases e1 : n = e.n
    · subst e1
      rw [Maps.has_del_same] at hn
      cases hn
    · rw [Maps.has_del_other (fun e' => e1 (ky_inj e'))] at hn
      obtain ⟨x, hx, hxn⟩ := hP.all n hn
      rcases List.mem_append.1 hx with hx | hx
      · exact ⟨x, hx, hxn⟩
      · simp at hx; subst hx; exact absurd hxn.symm e1
  · have := Maps.size_del (k := ky e.n) hM.tidy
    rw [(hP.has _ e he).1, hP.size] at this
    simp at this
    exact this
set_option maxRecDepth 100000 in
set_option maxHeartbeats 4000000 in
/-- line.Pop. -/
theorem lpop_any (w : World) {qb bm : Nat} {rv : Value} {es : List E} {e : E} (h : Ln w qb bm rv (es ++ [e])) :
    Calls Tryz.prog 175 #[.pointer (some ⟨qb, 0, none⟩)] w fun r w' => r = .returned (.iface 91 (.agg #[.string e.n, .int .u64 e.at_])) ∧ ∃ rv', Ln w' qb bm rv' es ∧ Tn w w' qb bm rv rv' := by
  obtain ⟨ad, cap, rfl⟩ := h.shape
  have he : (es ++ [e])[es.length]? = some e := by simp
  have hlen : (es ++ [e]).length = es.length + 1 := by simp
  obtain ⟨g, rfl, hgl, _, k1, k2, f1⟩ := h.row.at he
  have hl := h.len
  rw [hlen] at hl
  have c0 := h.c0
  rw [hlen] at c0
  have hee := h.ok e (by simp)
  have c1 := h.c1
  have fq := h.fz 0
  have hgq : g ≠ qb := fun e => h.nq (by rw [e]; rfl)
  have hqg : qb ≠ g := fun e => h.nq (by rw [e]; rfl)
  have hql := h.qbl
  have hn1 : qb ≠ w.heap.size := by omega
  have hn2 : g ≠ w.heap.size := by omega
  have hn3 : w.heap.size ≠ qb := by omega
  have hn4 : w.heap.size ≠ g := by omega
  have c0' := fun o => grown_cell (World.grownBy_alloc w o none) c0
  have k1' := fun o => grown_cell (World.grownBy_alloc w o none) k1
  have k2' := fun o => grown_cell (World.grownBy_alloc w o none) k2
  have f1' : ∀ o k, (w.alloc o).frozen? ⟨g, k, none⟩ = false := fun o k => (grown_frozen (World.grownBy_alloc w o none) (a := ⟨g, k, none⟩) hgl).trans (f1 k)
  have fq' : ∀ o, (w.alloc o).frozen? ⟨qb, 0, none⟩ = false := fun o => (grown_frozen (World.grownBy_alloc w o none) (a := ⟨qb, 0, none⟩) hql).trans fq
  have hcap : es.length + 1 ≤ cap := by have := h.row.cap; rw [hlen] at this; exact this
  obtain ⟨D, hM, hP⟩ := h.mp
  have hplc := pop_plc h hP hM
  rw [hlen] at h
  have hbl := h.bml
  have hgm : g ≠ bm := fun e => h.nm (by rw [e]; rfl)
  have hqm := h.ne
  rw [hlen]
  go_enter Tryz.func175, Tryz.ntmps175
  go_wp2_with fail
  generalize hw4 : World.alloc _ _ = w4
  have hM4 : Mp w4 bm D := by
    refine hM.kept ?_
    rw [← hw4]
    have g0 := World.grownBy_alloc (((w.setCell ⟨g, es.length * 2, none⟩ (.string ⟨#[]⟩)).setCell ⟨g, es.length * 2 + 1, none⟩ (.int .u64 0)).setCell ⟨qb, 0, none⟩ (.slice (some ⟨g, 0, none⟩) es.length cap)) (.cells #[.string e.n, .int .u64 e.at_] 91) none
    rw [g0.block bm (by simpa using hbl) (by simp), Below.heap_setCell _ _ _ _ (Ne.symm hqm), Below.heap_setCell _ _ _ _ (Ne.symm hgm), Below.heap_setCell _ _ _ _ (Ne.symm hgm)]
  have d1 : w4.cell? ⟨qb, 1, none⟩ = some (.map (some bm)) := by rw [← hw4]; clear hM4 hw4; go_simp
  have d2 : w4.cell? ⟨w.heap.size, 0, none⟩ = some (.string e.n) := by rw [← hw4]; clear d1 hM4 hw4; go_simp
  have d3 : w4.cell? ⟨w.heap.size, 1, none⟩ = some (.int .u64 e.at_) := by rw [← hw4]; clear d1 d2 hM4 hw4; go_simp
  obtain ⟨w5, hs5, hM5, ht5⟩ := Mp.drop (w := w4.drew) (n := e.n) hM4 hee.1 0
  have hg5 := grown_same (grown_drew w4) ht5.grown
  have hfin := pop_end h hM hP hplc hw4.symm hM5 hg5
  have hnm : some w.heap.size ≠ some bm := fun e => by cases e; omega
  have d4 : w5.cell? ⟨w.heap.size, 0, none⟩ = some (.string e.n) := hg5.cell d2 hnm
  have d5 : w5.cell? ⟨w.heap.size, 1, none⟩ = some (.int .u64 e.at_) := hg5.cell d3 hnm
  replace hfin : Hid _ := ⟨hfin⟩
  clear hw4 hM4 hM5 ht5 hg5 hplc k1 k2 k1' k2' c0 c0' f1 f1' fq fq' c1
  go_region
  go_wp2
  go_ret
  exact ⟨rfl, _, hfin.out⟩
end Go.Proofs.YtblnhcnfeagjhaaGreatDoor.Q
