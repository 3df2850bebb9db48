/- What the document's disk does: Remove. -/
import Derived.Test.YtmhpbemfejkdaaaRapp
namespace Go.Proofs.Ytmhpbemfejkdaaa
open Go.RowKit Go.IntWalk Go.Maps Go.Sort
set_option linter.unusedVariables false
set_option linter.unusedSimpArgs false

theorem under26 : Try.prog.underlying 26 = some (.slice (Try.prog.elem 26)) := by simp [Program.elem, Try.underlying26]
theorem elem26 : Try.prog.elem 26 = 64 := by simp [Program.elem, Try.underlying26]
theorem sz64 (W : World) : (Go.sizeOf 64).run Try.prog W = .ok 3 W := by
  obtain ⟨i0, hi, hz0, hz1, hz2⟩ := info_parts Try.info64
  simp [sizeOf, typeInfo, hi, hz1]
/-- The segments ahead of one, and those behind it. -/
theorem rws_parts {N : Nat → Prop} {W : World} {a : Option Addr} {cap : Nat} {l : List Sg} (h : Rws N W (.slice a l.length cap) l) (k : Nat) (hk : k < l.length) :
    ∃ a1 a2 c2, (∀ W', (Instr.slice 26 (.slice a l.length cap) none (some (.int .i64 (k : Int))) none).run Try.prog W' = .ok (.slice a1 k cap) W') ∧
      (∀ W', (Instr.slice 26 (.slice a l.length cap) (some (.int .i64 ((k : Int) + 1))) none none).run Try.prog W' = .ok (.slice a2 (l.length - (k + 1)) c2) W') ∧
      Rws N W (.slice a1 k cap) (l.take k) ∧ Rws N W (.slice a2 (l.length - (k + 1)) c2) (l.drop (k + 1)) := by
  obtain ⟨_, rfl⟩ | ⟨b, off, c, e, hn, hb, hl, hm, hc⟩ := h
  · simp at hk
  simp only [Value.slice.injEq, true_and] at e
  obtain ⟨rfl, rfl⟩ := e
  have hadd : ∀ j, (⟨b, off, none⟩ : Addr).add j = ⟨b, off + j, none⟩ := fun j => by unfold Addr.add; split <;> simp_all
  refine ⟨some ⟨b, off, none⟩, some (if cap = k + 1 then ⟨b, off, none⟩ else ⟨b, off + (k + 1) * 3, none⟩), cap - (k + 1), fun W' => ?_, fun W' => ?_, ?_, ?_⟩
  · rw [run_slice_h W' 26 _ _ _ under26 .i64 _ (by omega) (by omega), elem26, sz64]
    simp only [Result.andThen, sliced, Int.toNat_natCast, Nat.sub_zero, Nat.zero_mul]
    split
    · rfl
    · simp [hadd]
  · rw [run_slice_l W' 26 _ _ _ under26 .i64 _ (by omega) (by omega), elem26, sz64]
    have e1 : ((k : Int) + 1).toNat = k + 1 := by omega
    simp only [Result.andThen, sliced, e1]
    split
    · simp
    · simp [hadd]
  · refine .inr ⟨b, off, cap, by rw [List.length_take]; congr 1; omega, hn, hb, by rw [List.length_take]; omega, hm, fun j x hj => ?_⟩
    rw [List.getElem?_take] at hj
    split at hj
    · exact hc j x hj
    · cases hj
  · by_cases h0 : k + 1 = l.length
    · refine .inl ⟨.inr ⟨_, _, by rw [show l.length - (k + 1) = 0 from by omega]⟩, List.drop_eq_nil_of_le (by omega)⟩
    · have hne : ¬ cap = k + 1 := by omega
      rw [if_neg hne]
      refine .inr ⟨b, off + (k + 1) * 3, cap - (k + 1), by rw [List.length_drop], hn, hb, by rw [List.length_drop]; omega, by omega, fun j x hj => ?_⟩
      rw [List.getElem?_drop] at hj
      have := hc (k + 1 + j) x hj
      have e2 : off + (k + 1 + j) * 3 = off + (k + 1) * 3 + j * 3 := by omega
      rw [e2] at this
      exact this
theorem run_append_rows (w : World) (base ty : Nat) (M : Nat → Prop) (v sv : Value) (l1 l2 : List Sg) (hown : w.ownsRow base 64 3 v l1.length (rows l1)) (hs : Rws M w sv l2) (b1 : l1.length + l2.length ≤ 1000) (hv : ∀ x ∈ l2, ∃ a n c, x.v = .slice a n c) (b3 : base ≤ w.heap.size) :
    ∃ v' w', (Builtin.append_ #[26, 26] ty #[v, sv]).run Try.prog w = .ok v' w' ∧ w'.ownsRow base 64 3 v' (l1 ++ l2).length (rows (l1 ++ l2)) ∧ w.grownBy w' v.ownBlock := by
  obtain ⟨i0, hi, hz0, hz1, hz2⟩ := info_parts Try.info64
  obtain ⟨rfl | ⟨ad, cap, rfl⟩, rfl⟩ | ⟨b, off, cap, rfl, hn, hb, hl, hm, hc⟩ := hs
  · have hrun := run_append_owned_none (P := Try.prog) (w := w) base 26 ty 64 i0 3 Try.underlying26 hi v _ _ hown
    exact ⟨v, w, hrun, by simpa using hown, rfl, rfl, rfl, Nat.le_refl _, fun _ _ _ => rfl⟩
  · obtain ⟨v', w', hrun, h1, h2, _⟩ := run_append_own (P := Try.prog) w base 26 ty 64 i0 (.agg #[.int .i64 0, .slice none 0 0, .int .i64 0]) 3 40 Try.underlying26 hi hz0 hz1 hz2 rfl (by decide) v _ _ hown ad 0 cap [] (by simp) (fun j u hj => by simp at hj) (fun u hu => by cases hu) (by unfold maxLen; simp at b1; omega) (by simp at b1; omega) b3
    exact ⟨v', w', hrun, by simpa using h1, h2⟩
  · have hadd : ∀ j, (⟨b, off, none⟩ : Addr).add j = ⟨b, off + j, none⟩ := fun j => by unfold Addr.add; split <;> simp_all
    obtain ⟨v', w', hrun, h1, h2, _⟩ := run_append_own (P := Try.prog) w base 26 ty 64 i0 (.agg #[.int .i64 0, .slice none 0 0, .int .i64 0]) 3 40 Try.underlying26 hi hz0 hz1 hz2 rfl (by decide) v _ _ hown ⟨b, off, none⟩ l2.length cap (rows l2) (rows_length l2) (fun j u hj => by
      have hjl : j < l2.length * 3 := by
        rcases Nat.lt_or_ge j (l2.length * 3) with h | h
        · exact h
        · rw [List.getElem?_eq_none (by rw [rows_length]; exact h)] at hj; cases hj
      have hq : j / 3 < l2.length := by omega
      have hx : l2[j / 3]? = some l2[j / 3] := List.getElem?_eq_getElem hq
      have hr := rows_at hx (j % 3) (Nat.mod_lt _ (by decide))
      have ej : j / 3 * 3 + j % 3 = j := by omega
      rw [ej] at hr
      rw [hr] at hj
      obtain ⟨q0, q1, q2⟩ := hc _ _ hx
      rw [hadd]
      have hm3 : j % 3 = 0 ∨ j % 3 = 1 ∨ j % 3 = 2 := by omega
      rcases hm3 with e | e | e
      · rw [e] at hj
        cases hj
        rw [show off + j = off + j / 3 * 3 by omega]
        exact q0
      · rw [e] at hj
        cases hj
        rw [show off + j = off + j / 3 * 3 + 1 by omega]
        exact q1
      · rw [e] at hj
        cases hj
        rw [show off + j = off + j / 3 * 3 + 2 by omega]
        exact q2) (fun u hu => by
      obtain ⟨x, hx, hu⟩ := List.mem_flatMap.1 hu
      obtain ⟨xa, xn, xc, hxv⟩ := hv x hx
      simp only [Sg.row, hxv, List.mem_cons, List.not_mem_nil, or_false] at hu
      rcases hu with rfl | rfl | rfl <;> rfl) (by unfold maxLen; omega) (by omega) b3
    exact ⟨v', w', hrun, by rw [rows_append, List.length_append]; exact h1, h2⟩
/-- 'append(b, xs...)' of segments at a step of a region that draws its order. -/
theorem step_append_rows {ops : Array Oper} {o : Oper} {a : Act} {w : World} {K : Act → World → Prop} {Q : Exit → Act → World → Prop} {E : Prop} (hgd : o.guard = none) (sl x : Operand) (hop : o.op = Op.call { callee := Callee.builtin Builtin.append, args := #[sl, x], argTypes := #[26, 26] })
    (v sv : Value) (hs : a.eval sl = v) (hx : a.eval x = sv) (base : Nat) (M : Nat → Prop) (l1 l2 : List Sg) (hown : w.ownsRow base 64 3 v l1.length (rows l1)) (hz : Rws M w sv l2) (b1 : l1.length + l2.length ≤ 1000) (hv : ∀ x ∈ l2, ∃ a n c, x.v = .slice a n c) (b3 : base ≤ w.heap.size)
    (hK : ∀ v' w', w'.ownsRow base 64 3 v' (l1 ++ l2).length (rows (l1 ++ l2)) → w.grownBy w' v.ownBlock → K (a.put o.dst v') w') :
    if Region.wanted o (yielded ops a.tmps) = true then Oper.wp Try.prog o a w K Q else E := by
  have hw : Region.wanted o (yielded ops a.tmps) = true := by simp [Region.wanted, hgd]
  rw [if_pos hw]
  obtain ⟨v', w', hrun, h1, h2⟩ := run_append_rows w base o.type M v sv l1 l2 hown hz b1 hv b3
  unfold Oper.wp
  simp [execOp, hop, resolve, invoke, builtin, hs, hx, hrun, Result.andThen]
  exact hK v' w' h1 h2
theorem del_idx {l : List Sg} (hu : Up l) {k : Nat} {x : Sg} (hk : l[k]? = some x) : delS x.n l = l.take k ++ l.drop (k + 1) := by
  have hkl : k < l.length := by
    rcases Nat.lt_or_ge k l.length with h | h
    · exact h
    · rw [List.getElem?_eq_none h] at hk; cases hk
  have e : l = l.take k ++ x :: l.drop (k + 1) := by
    rw [List.getElem?_eq_getElem hkl] at hk
    cases hk
    rw [← List.drop_eq_getElem_cons hkl, List.take_append_drop]
  have hp := hu
  rw [e] at hp
  obtain ⟨h1, h2, h3⟩ := List.pairwise_append.1 hp
  obtain ⟨h4, h5⟩ := List.pairwise_cons.1 h2
  have e1 : (l.take k).filter (fun y => !decide (y.n = x.n)) = l.take k := List.filter_eq_self.2 fun y hy => by
    have := h3 y hy x (by simp)
    simp
    omega
  have e2 : (l.drop (k + 1)).filter (fun y => !decide (y.n = x.n)) = l.drop (k + 1) := List.filter_eq_self.2 fun y hy => by
    have := h4 y hy
    simp
    omega
  have e3 : delS x.n l = delS x.n (l.take k ++ x :: l.drop (k + 1)) := by rw [← e]
  rw [e3]
  unfold delS
  rw [List.filter_append, List.filter_cons, e1, e2]
  simp
set_option maxRecDepth 100000 in
set_option maxHeartbeats 4000000 in
/-- belfryref03.Remove. -/
theorem rremove_some (w : World) {rb : Nat} {N : Nat → Prop} {rl : List Sg} {root : List Int} (h : Rsk w rb N rl root) {n : Int} {x : Sg} (hx : getS n rl = some x) :
    Calls Try.prog 16 #[.pointer (some ⟨rb, 0, none⟩), .int .i64 n] w fun r w' => r = .returned (.int .i64 0) ∧ Rsk w' rb (Or_ N w) (delS n rl) root ∧ w.grownBy w' (some rb) := by
  obtain ⟨sv, c0, hs⟩ := h.c0
  obtain ⟨a, cap, rfl⟩ := hs.shape
  have hlen := h.len
  have hn := (getS_mem hx).2
  have hrb := h.rbl
  have HV : Hid (∀ x ∈ rl, ∃ a n c, x.v = .slice a n c) := fun x hx => by
    obtain ⟨a, c, e⟩ := (h.seg x hx).2.2.2.2.2.1.shape
    exact ⟨a, _, c, e⟩
  go_enter Try.func16, Try.ntmps16
  go_wp2_with fail
  refine (rfind_any w h n).mono ?_
  rintro r w1 ⟨i, rfl, rfl, hf⟩
  obtain ⟨k, rfl, hk, hkl⟩ := hf.some' hx
  have hdel := del_idx h.up hk
  rw [hn] at hdel
  have hd1 : decide ((k : Int) < 0) = false := by simp
  have hwk : IntKind.i64.wrap ((k : Int) + 1) = k + 1 := by rw [IntKind.wrap_i64]; omega
  obtain ⟨a1, a2, c2, s1, s2, R1, R2⟩ := rws_parts hs k hkl
  have hgA := World.grownBy_alloc w (.cells #[] 64) none
  have hgD := grown_none hgA (grown_drew _)
  have c0a := grown_cell hgA c0
  have hlit : (w.alloc (.cells #[] 64)).ownsRow w.heap.size 64 3 (.slice (some ⟨w.heap.size, 0, none⟩) 0 0) 0 (rows []) := World.ownsRow_lit w #[] 0 (Nat.le_refl _) (by unfold maxLen; omega) rfl
  have hlitd := hlit.drew
  have P1 : Hid (Rws N (w.alloc (.cells #[] 64)).drew (.slice a1 k cap) (rl.take k)) := R1.grown hgD (by simp)
  have hbd : w.heap.size ≤ (w.alloc (.cells #[] 64)).drew.heap.size := hgD.size
  have F2 : Hid (∀ (v2 : Value) (w2 : World), w2.ownsRow w.heap.size 64 3 v2 (rl.take k).length (rows (rl.take k)) → (w.alloc (.cells #[] 64)).drew.grownBy w2 (Value.slice (some ⟨w.heap.size, 0, none⟩) 0 0).ownBlock →
      w2.cell? ⟨rb, 0, none⟩ = some (.slice a rl.length cap) ∧ Rws N w2 (.slice a2 (rl.length - (k + 1)) c2) (rl.drop (k + 1)) ∧ w.grownBy w2 none) := fun v2 w2 hr2 hg2 => by
    have hg02 : w.grownBy w2 none := hgD.andThen hg2 fun j hj => .inl (Nat.le_of_eq (by simpa [Value.ownBlock] using hj))
    exact ⟨grown_cell hg02 c0, R2.grown hg02 (by simp), hg02⟩
  have F3 : Hid (∀ (v2 : Value) (w2 : World), w2.ownsRow w.heap.size 64 3 v2 (rl.take k).length (rows (rl.take k)) → (w.alloc (.cells #[] 64)).drew.grownBy w2 (Value.slice (some ⟨w.heap.size, 0, none⟩) 0 0).ownBlock →
      ∀ (v3 : Value) (w3 : World), w3.ownsRow w.heap.size 64 3 v3 (rl.take k ++ rl.drop (k + 1)).length (rows (rl.take k ++ rl.drop (k + 1))) → w2.grownBy w3 v2.ownBlock →
      ∃ va vl vc, v3 = .slice va vl vc ∧ w3.cell? ⟨rb, 0, none⟩ = some (.slice a rl.length cap) ∧ w3.frozen? ⟨rb, 0, none⟩ = false ∧ Rsk (w3.setCell ⟨rb, 0, none⟩ (.slice va vl vc)) rb (Or_ N w) (delS n rl) root ∧ w.grownBy (w3.setCell ⟨rb, 0, none⟩ (.slice va vl vc)) (some rb)) := fun v2 w2 hr2 hg2 v3 w3 hr3 hg3 => by
    obtain ⟨_, _, hg02⟩ := F2.out v2 w2 hr2 hg2
    have hg03 : w.grownBy w3 none := hg02.andThen hg3 fun j hj => .inl (by have := (hr2.lt j hj).1; omega)
    have hws := Rws.of_own hr3
    obtain ⟨va, vc, rfl⟩ := hws.shape
    have hR3 := h.wide.grown0 hg03
    rw [← hdel] at hws hr3 ⊢
    refine ⟨va, _, vc, rfl, grown_cell hg03 c0, hR3.f0, hR3.turn (hws.mono fun k hk => .inr hk) (h.up.del n) (Nat.le_trans (List.length_filter_le _ _) h.len) (fun y hy => hR3.seg y (mem_delS.1 hy).1), grown_same hg03 (grown_setCell w3 ⟨rb, 0, none⟩ _)⟩
  clear hdel hx hn hk hlit
  go_wp2_with fail
  refine wp_region_any (by kernel_rfl) ?_
  change wpAny _ _ _ _ _ _ _ (World.drew _)
  refine wpAny_take (i := 0) (v := ?_) rfl (by kernel_rfl) (by kernel_rfl) (by kernel_rfl) (fun _ _ _ h => h) (Or.inl ⟨by rfl, ?_⟩) ?_
  rotate_left
  · (intro w; go_simp; try with_reducible rfl)
  try simp only [List.getElem_toArray, List.getElem_cons_zero, List.getElem_cons_succ, Act.put, List.setIfInBounds_toArray, List.set_cons_zero, List.set_cons_succ]
  refine wpAny_take (i := 2) (v := ?_) rfl (by kernel_rfl) (by kernel_rfl) (by kernel_rfl) (fun _ _ _ h => h) (Or.inl ⟨by rfl, ?_⟩) ?_
  rotate_left
  · (intro w; go_simp; try with_reducible rfl)
  try simp only [List.getElem_toArray, List.getElem_cons_zero, List.getElem_cons_succ, Act.put, List.setIfInBounds_toArray, List.set_cons_zero, List.set_cons_succ]
  refine wpAny_take (i := 3) (v := ?_) rfl (by kernel_rfl) (by kernel_rfl) (by kernel_rfl) (fun _ _ _ h => h) (Or.inl ⟨by rfl, ?_⟩) ?_
  rotate_left
  · (intro w; go_simp; try with_reducible rfl)
  try simp only [List.getElem_toArray, List.getElem_cons_zero, List.getElem_cons_succ, Act.put, List.setIfInBounds_toArray, List.set_cons_zero, List.set_cons_succ]
  refine wpAny_take (i := 4) (v := ?_) rfl (by kernel_rfl) (by kernel_rfl) (by kernel_rfl) (fun _ _ _ h => h) (Or.inl ⟨by rfl, ?_⟩) ?_
  rotate_left
  · (intro w; go_simp; try with_reducible rfl)
  try simp only [List.getElem_toArray, List.getElem_cons_zero, List.getElem_cons_succ, Act.put, List.setIfInBounds_toArray, List.set_cons_zero, List.set_cons_succ]
  refine wpAny_take (i := 6) (v := ?_) rfl (by kernel_rfl) (by kernel_rfl) (by kernel_rfl) (fun _ _ _ h => h) (Or.inl ⟨by rfl, ?_⟩) ?_
  rotate_left
  · (intro w; go_simp; try with_reducible rfl)
  try simp only [List.getElem_toArray, List.getElem_cons_zero, List.getElem_cons_succ, Act.put, List.setIfInBounds_toArray, List.set_cons_zero, List.set_cons_succ]
  refine wpAny_take (i := 9) (v := ?_) rfl (by kernel_rfl) (by kernel_rfl) (by kernel_rfl) (fun _ _ _ h => h) (Or.inl ⟨by rfl, ?_⟩) ?_
  rotate_left
  · (intro w; go_simp; try with_reducible rfl)
  try simp only [List.getElem_toArray, List.getElem_cons_zero, List.getElem_cons_succ, Act.put, List.setIfInBounds_toArray, List.set_cons_zero, List.set_cons_succ]
  refine wpAny_take (i := 10) (v := ?_) rfl (by kernel_rfl) (by kernel_rfl) (by kernel_rfl) (fun _ _ _ h => h) (Or.inl ⟨by rfl, ?_⟩) ?_
  rotate_left
  · (intro w; go_simp; try with_reducible rfl)
  try simp only [List.getElem_toArray, List.getElem_cons_zero, List.getElem_cons_succ, Act.put, List.setIfInBounds_toArray, List.set_cons_zero, List.set_cons_succ]
  refine wpAny_take (i := 11) (v := ?_) rfl (by kernel_rfl) (by kernel_rfl) (by kernel_rfl) (fun _ _ _ h => h) (Or.inl ⟨by rfl, ?_⟩) ?_
  rotate_left
  · (intro w; go_simp; try with_reducible rfl)
  try simp only [List.getElem_toArray, List.getElem_cons_zero, List.getElem_cons_succ, Act.put, List.setIfInBounds_toArray, List.set_cons_zero, List.set_cons_succ]
  refine wpAny_take (i := 13) (v := ?_) rfl (by kernel_rfl) (by kernel_rfl) (by kernel_rfl) (fun _ _ _ h => h) (Or.inl ⟨by rfl, ?_⟩) ?_
  rotate_left
  · (intro w; go_simp; try with_reducible rfl)
  try simp only [List.getElem_toArray, List.getElem_cons_zero, List.getElem_cons_succ, Act.put, List.setIfInBounds_toArray, List.set_cons_zero, List.set_cons_succ]
  refine wpAny_take (i := 14) (v := ?_) rfl (by kernel_rfl) (by kernel_rfl) (by kernel_rfl) (fun _ _ _ h => h) (Or.inl ⟨by rfl, ?_⟩) ?_
  rotate_left
  · (intro w; go_simp; try with_reducible rfl)
  try simp only [List.getElem_toArray, List.getElem_cons_zero, List.getElem_cons_succ, Act.put, List.setIfInBounds_toArray, List.set_cons_zero, List.set_cons_succ]
  refine wpAny_ready (rs := [1, 5, 12]) (by kernel_rfl) (by simp) ?_
  refine AllReady.cons rfl (fun K hK => ?_) (AllReady.cons rfl (fun K hK => ?_) (AllReady.cons rfl (fun K hK => ?_) (AllReady.nil)))
  · go_simp
    refine hK _ _ ?_
    clear hK K
    try simp only [List.getElem_toArray, List.getElem_cons_zero, List.getElem_cons_succ, Act.put, List.setIfInBounds_toArray, List.set_cons_zero, List.set_cons_succ]
    refine wpAny_ready (rs := [5, 12]) (by kernel_rfl) (by simp) ?_
    refine AllReady.cons rfl (fun K hK => ?_) (AllReady.cons rfl (fun K hK => ?_) (AllReady.nil))
    · go_simp
      refine hK _ _ ?_
      clear hK K
      try simp only [List.getElem_toArray, List.getElem_cons_zero, List.getElem_cons_succ, Act.put, List.setIfInBounds_toArray, List.set_cons_zero, List.set_cons_succ]
      refine wpAny_take (i := 7) (v := ?_) rfl (by kernel_rfl) (by kernel_rfl) (by kernel_rfl) (fun _ _ _ h => h) (Or.inl ⟨by rfl, ?_⟩) ?_
      rotate_left
      · (intro w; go_simp; try with_reducible rfl)
      try simp only [List.getElem_toArray, List.getElem_cons_zero, List.getElem_cons_succ, Act.put, List.setIfInBounds_toArray, List.set_cons_zero, List.set_cons_succ]
      refine wpAny_ready (rs := [8, 12]) (by kernel_rfl) (by simp) ?_
      refine AllReady.cons rfl (fun K hK => ?_) (AllReady.cons rfl (fun K hK => ?_) (AllReady.nil))
      · refine step_append_rows (by rfl) _ _ (by rfl) _ _ (by rfl) (by rfl) w.heap.size N [] (rl.take k) hlitd P1.out (by simp; omega) (fun x hx => HV.out x (List.mem_of_mem_take hx)) hbd ?_
        intro v2 w2 hr2 hg2
        obtain ⟨c02, P2, hgw2⟩ := F2.out v2 w2 hr2 hg2
        refine hK _ _ ?_
        clear hK K
        try simp only [List.getElem_toArray, List.getElem_cons_zero, List.getElem_cons_succ, Act.put, List.setIfInBounds_toArray, List.set_cons_zero, List.set_cons_succ]
        refine wpAny_ready (rs := [12]) (by kernel_rfl) (by simp) ?_
        refine AllReady.cons rfl (fun K hK => ?_) (AllReady.nil)
        go_simp
        refine hK _ _ ?_
        clear hK K
        try simp only [List.getElem_toArray, List.getElem_cons_zero, List.getElem_cons_succ, Act.put, List.setIfInBounds_toArray, List.set_cons_zero, List.set_cons_succ]
        refine wpAny_take (i := 15) (v := ?_) rfl (by kernel_rfl) (by kernel_rfl) (by kernel_rfl) (fun _ _ _ h => h) (Or.inl ⟨by rfl, ?_⟩) ?_
        rotate_left
        · (intro w; go_simp; try with_reducible rfl)
        try simp only [List.getElem_toArray, List.getElem_cons_zero, List.getElem_cons_succ, Act.put, List.setIfInBounds_toArray, List.set_cons_zero, List.set_cons_succ]
        refine wpAny_ready (rs := [16]) (by kernel_rfl) (by simp) ?_
        refine AllReady.cons rfl (fun K hK => ?_) (AllReady.nil)
        refine step_append_rows (by rfl) _ _ (by rfl) _ _ (by rfl) (by rfl) w.heap.size N (rl.take k) (rl.drop (k + 1)) hr2 P2 (by simp; omega) (fun x hx => HV.out x (List.mem_of_mem_drop hx)) (by have := hgw2.size; omega) ?_
        intro v3 w3 hr3 hg3
        obtain ⟨va, vl, vc, rfl, c03, f03, hRR, hgw3⟩ := F3.out v2 w2 hr2 hg2 v3 w3 hr3 hg3
        refine hK _ _ ?_
        clear hK K
        try simp only [List.getElem_toArray, List.getElem_cons_zero, List.getElem_cons_succ, Act.put, List.setIfInBounds_toArray, List.set_cons_zero, List.set_cons_succ]
        refine wpAny_take (i := 17) (v := ?_) rfl (by kernel_rfl) (by kernel_rfl) (by kernel_rfl) (fun _ _ _ h => h) (Or.inl ⟨by rfl, ?_⟩) ?_
        rotate_left
        · (intro w; go_simp; try with_reducible rfl)
        try simp only [List.getElem_toArray, List.getElem_cons_zero, List.getElem_cons_succ, Act.put, List.setIfInBounds_toArray, List.set_cons_zero, List.set_cons_succ]
        refine wpAny_take (i := 18) (v := ?_) rfl (by kernel_rfl) (by kernel_rfl) (by kernel_rfl) (fun _ _ _ h => h) (Or.inl ⟨by rfl, ?_⟩) ?_
        rotate_left
        · (intro w; go_simp; try with_reducible rfl)
        try simp only [List.getElem_toArray, List.getElem_cons_zero, List.getElem_cons_succ, Act.put, List.setIfInBounds_toArray, List.set_cons_zero, List.set_cons_succ]
        refine wpAny_ready (rs := [19]) (by kernel_rfl) (by simp) ?_
        refine AllReady.cons rfl (fun K hK => ?_) (AllReady.nil)
        go_simp
        refine hK _ _ ?_
        clear hK K
        try simp only [List.getElem_toArray, List.getElem_cons_zero, List.getElem_cons_succ, Act.put, List.setIfInBounds_toArray, List.set_cons_zero, List.set_cons_succ]
        refine wpAny_done (by kernel_rfl) ?_ _
        go_wp2
        go_ret
        exact ⟨rfl, hRR, hgw3⟩
      · go_simp
        refine hK _ _ ?_
        clear hK K
        try simp only [List.getElem_toArray, List.getElem_cons_zero, List.getElem_cons_succ, Act.put, List.setIfInBounds_toArray, List.set_cons_zero, List.set_cons_succ]
        refine wpAny_take (i := 15) (v := ?_) rfl (by kernel_rfl) (by kernel_rfl) (by kernel_rfl) (fun _ _ _ h => h) (Or.inl ⟨by rfl, ?_⟩) ?_
        rotate_left
        · (intro w; go_simp; try with_reducible rfl)
        try simp only [List.getElem_toArray, List.getElem_cons_zero, List.getElem_cons_succ, Act.put, List.setIfInBounds_toArray, List.set_cons_zero, List.set_cons_succ]
        refine wpAny_ready (rs := [8]) (by kernel_rfl) (by simp) ?_
        refine AllReady.cons rfl (fun K hK => ?_) (AllReady.nil)
        refine step_append_rows (by rfl) _ _ (by rfl) _ _ (by rfl) (by rfl) w.heap.size N [] (rl.take k) hlitd P1.out (by simp; omega) (fun x hx => HV.out x (List.mem_of_mem_take hx)) hbd ?_
        intro v2 w2 hr2 hg2
        obtain ⟨c02, P2, hgw2⟩ := F2.out v2 w2 hr2 hg2
        refine hK _ _ ?_
        clear hK K
        try simp only [List.getElem_toArray, List.getElem_cons_zero, List.getElem_cons_succ, Act.put, List.setIfInBounds_toArray, List.set_cons_zero, List.set_cons_succ]
        refine wpAny_ready (rs := [16]) (by kernel_rfl) (by simp) ?_
        refine AllReady.cons rfl (fun K hK => ?_) (AllReady.nil)
        refine step_append_rows (by rfl) _ _ (by rfl) _ _ (by rfl) (by rfl) w.heap.size N (rl.take k) (rl.drop (k + 1)) hr2 P2 (by simp; omega) (fun x hx => HV.out x (List.mem_of_mem_drop hx)) (by have := hgw2.size; omega) ?_
        intro v3 w3 hr3 hg3
        obtain ⟨va, vl, vc, rfl, c03, f03, hRR, hgw3⟩ := F3.out v2 w2 hr2 hg2 v3 w3 hr3 hg3
        refine hK _ _ ?_
        clear hK K
        try simp only [List.getElem_toArray, List.getElem_cons_zero, List.getElem_cons_succ, Act.put, List.setIfInBounds_toArray, List.set_cons_zero, List.set_cons_succ]
        refine wpAny_take (i := 17) (v := ?_) rfl (by kernel_rfl) (by kernel_rfl) (by kernel_rfl) (fun _ _ _ h => h) (Or.inl ⟨by rfl, ?_⟩) ?_
        rotate_left
        · (intro w; go_simp; try with_reducible rfl)
        try simp only [List.getElem_toArray, List.getElem_cons_zero, List.getElem_cons_succ, Act.put, List.setIfInBounds_toArray, List.set_cons_zero, List.set_cons_succ]
        refine wpAny_take (i := 18) (v := ?_) rfl (by kernel_rfl) (by kernel_rfl) (by kernel_rfl) (fun _ _ _ h => h) (Or.inl ⟨by rfl, ?_⟩) ?_
        rotate_left
        · (intro w; go_simp; try with_reducible rfl)
        try simp only [List.getElem_toArray, List.getElem_cons_zero, List.getElem_cons_succ, Act.put, List.setIfInBounds_toArray, List.set_cons_zero, List.set_cons_succ]
        refine wpAny_ready (rs := [19]) (by kernel_rfl) (by simp) ?_
        refine AllReady.cons rfl (fun K hK => ?_) (AllReady.nil)
        go_simp
        refine hK _ _ ?_
        clear hK K
        try simp only [List.getElem_toArray, List.getElem_cons_zero, List.getElem_cons_succ, Act.put, List.setIfInBounds_toArray, List.set_cons_zero, List.set_cons_succ]
        refine wpAny_done (by kernel_rfl) ?_ _
        go_wp2
        go_ret
        exact ⟨rfl, hRR, hgw3⟩
    · go_simp
      refine hK _ _ ?_
      clear hK K
      try simp only [List.getElem_toArray, List.getElem_cons_zero, List.getElem_cons_succ, Act.put, List.setIfInBounds_toArray, List.set_cons_zero, List.set_cons_succ]
      refine wpAny_take (i := 15) (v := ?_) rfl (by kernel_rfl) (by kernel_rfl) (by kernel_rfl) (fun _ _ _ h => h) (Or.inl ⟨by rfl, ?_⟩) ?_
      rotate_left
      · (intro w; go_simp; try with_reducible rfl)
      try simp only [List.getElem_toArray, List.getElem_cons_zero, List.getElem_cons_succ, Act.put, List.setIfInBounds_toArray, List.set_cons_zero, List.set_cons_succ]
      refine wpAny_ready (rs := [5]) (by kernel_rfl) (by simp) ?_
      refine AllReady.cons rfl (fun K hK => ?_) (AllReady.nil)
      go_simp
      refine hK _ _ ?_
      clear hK K
      try simp only [List.getElem_toArray, List.getElem_cons_zero, List.getElem_cons_succ, Act.put, List.setIfInBounds_toArray, List.set_cons_zero, List.set_cons_succ]
      refine wpAny_take (i := 7) (v := ?_) rfl (by kernel_rfl) (by kernel_rfl) (by kernel_rfl) (fun _ _ _ h => h) (Or.inl ⟨by rfl, ?_⟩) ?_
      rotate_left
      · (intro w; go_simp; try with_reducible rfl)
      try simp only [List.getElem_toArray, List.getElem_cons_zero, List.getElem_cons_succ, Act.put, List.setIfInBounds_toArray, List.set_cons_zero, List.set_cons_succ]
      refine wpAny_ready (rs := [8]) (by kernel_rfl) (by simp) ?_
      refine AllReady.cons rfl (fun K hK => ?_) (AllReady.nil)
      refine step_append_rows (by rfl) _ _ (by rfl) _ _ (by rfl) (by rfl) w.heap.size N [] (rl.take k) hlitd P1.out (by simp; omega) (fun x hx => HV.out x (List.mem_of_mem_take hx)) hbd ?_
      intro v2 w2 hr2 hg2
      obtain ⟨c02, P2, hgw2⟩ := F2.out v2 w2 hr2 hg2
      refine hK _ _ ?_
      clear hK K
      try simp only [List.getElem_toArray, List.getElem_cons_zero, List.getElem_cons_succ, Act.put, List.setIfInBounds_toArray, List.set_cons_zero, List.set_cons_succ]
      refine wpAny_ready (rs := [16]) (by kernel_rfl) (by simp) ?_
      refine AllReady.cons rfl (fun K hK => ?_) (AllReady.nil)
      refine step_append_rows (by rfl) _ _ (by rfl) _ _ (by rfl) (by rfl) w.heap.size N (rl.take k) (rl.drop (k + 1)) hr2 P2 (by simp; omega) (fun x hx => HV.out x (List.mem_of_mem_drop hx)) (by have := hgw2.size; omega) ?_
      intro v3 w3 hr3 hg3
      obtain ⟨va, vl, vc, rfl, c03, f03, hRR, hgw3⟩ := F3.out v2 w2 hr2 hg2 v3 w3 hr3 hg3
      refine hK _ _ ?_
      clear hK K
      try simp only [List.getElem_toArray, List.getElem_cons_zero, List.getElem_cons_succ, Act.put, List.setIfInBounds_toArray, List.set_cons_zero, List.set_cons_succ]
      refine wpAny_take (i := 17) (v := ?_) rfl (by kernel_rfl) (by kernel_rfl) (by kernel_rfl) (fun _ _ _ h => h) (Or.inl ⟨by rfl, ?_⟩) ?_
      rotate_left
      · (intro w; go_simp; try with_reducible rfl)
      try simp only [List.getElem_toArray, List.getElem_cons_zero, List.getElem_cons_succ, Act.put, List.setIfInBounds_toArray, List.set_cons_zero, List.set_cons_succ]
      refine wpAny_take (i := 18) (v := ?_) rfl (by kernel_rfl) (by kernel_rfl) (by kernel_rfl) (fun _ _ _ h => h) (Or.inl ⟨by rfl, ?_⟩) ?_
      rotate_left
      · (intro w; go_simp; try with_reducible rfl)
      try simp only [List.getElem_toArray, List.getElem_cons_zero, List.getElem_cons_succ, Act.put, List.setIfInBounds_toArray, List.set_cons_zero, List.set_cons_succ]
      refine wpAny_ready (rs := [19]) (by kernel_rfl) (by simp) ?_
      refine AllReady.cons rfl (fun K hK => ?_) (AllReady.nil)
      go_simp
      refine hK _ _ ?_
      clear hK K
      try simp only [List.getElem_toArray, List.getElem_cons_zero, List.getElem_cons_succ, Act.put, List.setIfInBounds_toArray, List.set_cons_zero, List.set_cons_succ]
      refine wpAny_done (by kernel_rfl) ?_ _
      go_wp2
      go_ret
      exact ⟨rfl, hRR, hgw3⟩
  · go_simp
    refine hK _ _ ?_
    clear hK K
    try simp only [List.getElem_toArray, List.getElem_cons_zero, List.getElem_cons_succ, Act.put, List.setIfInBounds_toArray, List.set_cons_zero, List.set_cons_succ]
    refine wpAny_take (i := 7) (v := ?_) rfl (by kernel_rfl) (by kernel_rfl) (by kernel_rfl) (fun _ _ _ h => h) (Or.inl ⟨by rfl, ?_⟩) ?_
    rotate_left
    · (intro w; go_simp; try with_reducible rfl)
    try simp only [List.getElem_toArray, List.getElem_cons_zero, List.getElem_cons_succ, Act.put, List.setIfInBounds_toArray, List.set_cons_zero, List.set_cons_succ]
    refine wpAny_ready (rs := [1, 12]) (by kernel_rfl) (by simp) ?_
    refine AllReady.cons rfl (fun K hK => ?_) (AllReady.cons rfl (fun K hK => ?_) (AllReady.nil))
    · go_simp
      refine hK _ _ ?_
      clear hK K
      try simp only [List.getElem_toArray, List.getElem_cons_zero, List.getElem_cons_succ, Act.put, List.setIfInBounds_toArray, List.set_cons_zero, List.set_cons_succ]
      refine wpAny_ready (rs := [8, 12]) (by kernel_rfl) (by simp) ?_
      refine AllReady.cons rfl (fun K hK => ?_) (AllReady.cons rfl (fun K hK => ?_) (AllReady.nil))
      · refine step_append_rows (by rfl) _ _ (by rfl) _ _ (by rfl) (by rfl) w.heap.size N [] (rl.take k) hlitd P1.out (by simp; omega) (fun x hx => HV.out x (List.mem_of_mem_take hx)) hbd ?_
        intro v2 w2 hr2 hg2
        obtain ⟨c02, P2, hgw2⟩ := F2.out v2 w2 hr2 hg2
        refine hK _ _ ?_
        clear hK K
        try simp only [List.getElem_toArray, List.getElem_cons_zero, List.getElem_cons_succ, Act.put, List.setIfInBounds_toArray, List.set_cons_zero, List.set_cons_succ]
        refine wpAny_ready (rs := [12]) (by kernel_rfl) (by simp) ?_
        refine AllReady.cons rfl (fun K hK => ?_) (AllReady.nil)
        go_simp
        refine hK _ _ ?_
        clear hK K
        try simp only [List.getElem_toArray, List.getElem_cons_zero, List.getElem_cons_succ, Act.put, List.setIfInBounds_toArray, List.set_cons_zero, List.set_cons_succ]
        refine wpAny_take (i := 15) (v := ?_) rfl (by kernel_rfl) (by kernel_rfl) (by kernel_rfl) (fun _ _ _ h => h) (Or.inl ⟨by rfl, ?_⟩) ?_
        rotate_left
        · (intro w; go_simp; try with_reducible rfl)
        try simp only [List.getElem_toArray, List.getElem_cons_zero, List.getElem_cons_succ, Act.put, List.setIfInBounds_toArray, List.set_cons_zero, List.set_cons_succ]
        refine wpAny_ready (rs := [16]) (by kernel_rfl) (by simp) ?_
        refine AllReady.cons rfl (fun K hK => ?_) (AllReady.nil)
        refine step_append_rows (by rfl) _ _ (by rfl) _ _ (by rfl) (by rfl) w.heap.size N (rl.take k) (rl.drop (k + 1)) hr2 P2 (by simp; omega) (fun x hx => HV.out x (List.mem_of_mem_drop hx)) (by have := hgw2.size; omega) ?_
        intro v3 w3 hr3 hg3
        obtain ⟨va, vl, vc, rfl, c03, f03, hRR, hgw3⟩ := F3.out v2 w2 hr2 hg2 v3 w3 hr3 hg3
        refine hK _ _ ?_
        clear hK K
        try simp only [List.getElem_toArray, List.getElem_cons_zero, List.getElem_cons_succ, Act.put, List.setIfInBounds_toArray, List.set_cons_zero, List.set_cons_succ]
        refine wpAny_take (i := 17) (v := ?_) rfl (by kernel_rfl) (by kernel_rfl) (by kernel_rfl) (fun _ _ _ h => h) (Or.inl ⟨by rfl, ?_⟩) ?_
        rotate_left
        · (intro w; go_simp; try with_reducible rfl)
        try simp only [List.getElem_toArray, List.getElem_cons_zero, List.getElem_cons_succ, Act.put, List.setIfInBounds_toArray, List.set_cons_zero, List.set_cons_succ]
        refine wpAny_take (i := 18) (v := ?_) rfl (by kernel_rfl) (by kernel_rfl) (by kernel_rfl) (fun _ _ _ h => h) (Or.inl ⟨by rfl, ?_⟩) ?_
        rotate_left
        · (intro w; go_simp; try with_reducible rfl)
        try simp only [List.getElem_toArray, List.getElem_cons_zero, List.getElem_cons_succ, Act.put, List.setIfInBounds_toArray, List.set_cons_zero, List.set_cons_succ]
        refine wpAny_ready (rs := [19]) (by kernel_rfl) (by simp) ?_
        refine AllReady.cons rfl (fun K hK => ?_) (AllReady.nil)
        go_simp
        refine hK _ _ ?_
        clear hK K
        try simp only [List.getElem_toArray, List.getElem_cons_zero, List.getElem_cons_succ, Act.put, List.setIfInBounds_toArray, List.set_cons_zero, List.set_cons_succ]
        refine wpAny_done (by kernel_rfl) ?_ _
        go_wp2
        go_ret
        exact ⟨rfl, hRR, hgw3⟩
      · go_simp
        refine hK _ _ ?_
        clear hK K
        try simp only [List.getElem_toArray, List.getElem_cons_zero, List.getElem_cons_succ, Act.put, List.setIfInBounds_toArray, List.set_cons_zero, List.set_cons_succ]
        refine wpAny_take (i := 15) (v := ?_) rfl (by kernel_rfl) (by kernel_rfl) (by kernel_rfl) (fun _ _ _ h => h) (Or.inl ⟨by rfl, ?_⟩) ?_
        rotate_left
        · (intro w; go_simp; try with_reducible rfl)
        try simp only [List.getElem_toArray, List.getElem_cons_zero, List.getElem_cons_succ, Act.put, List.setIfInBounds_toArray, List.set_cons_zero, List.set_cons_succ]
        refine wpAny_ready (rs := [8]) (by kernel_rfl) (by simp) ?_
        refine AllReady.cons rfl (fun K hK => ?_) (AllReady.nil)
        refine step_append_rows (by rfl) _ _ (by rfl) _ _ (by rfl) (by rfl) w.heap.size N [] (rl.take k) hlitd P1.out (by simp; omega) (fun x hx => HV.out x (List.mem_of_mem_take hx)) hbd ?_
        intro v2 w2 hr2 hg2
        obtain ⟨c02, P2, hgw2⟩ := F2.out v2 w2 hr2 hg2
        refine hK _ _ ?_
        clear hK K
        try simp only [List.getElem_toArray, List.getElem_cons_zero, List.getElem_cons_succ, Act.put, List.setIfInBounds_toArray, List.set_cons_zero, List.set_cons_succ]
        refine wpAny_ready (rs := [16]) (by kernel_rfl) (by simp) ?_
        refine AllReady.cons rfl (fun K hK => ?_) (AllReady.nil)
        refine step_append_rows (by rfl) _ _ (by rfl) _ _ (by rfl) (by rfl) w.heap.size N (rl.take k) (rl.drop (k + 1)) hr2 P2 (by simp; omega) (fun x hx => HV.out x (List.mem_of_mem_drop hx)) (by have := hgw2.size; omega) ?_
        intro v3 w3 hr3 hg3
        obtain ⟨va, vl, vc, rfl, c03, f03, hRR, hgw3⟩ := F3.out v2 w2 hr2 hg2 v3 w3 hr3 hg3
        refine hK _ _ ?_
        clear hK K
        try simp only [List.getElem_toArray, List.getElem_cons_zero, List.getElem_cons_succ, Act.put, List.setIfInBounds_toArray, List.set_cons_zero, List.set_cons_succ]
        refine wpAny_take (i := 17) (v := ?_) rfl (by kernel_rfl) (by kernel_rfl) (by kernel_rfl) (fun _ _ _ h => h) (Or.inl ⟨by rfl, ?_⟩) ?_
        rotate_left
        · (intro w; go_simp; try with_reducible rfl)
        try simp only [List.getElem_toArray, List.getElem_cons_zero, List.getElem_cons_succ, Act.put, List.setIfInBounds_toArray, List.set_cons_zero, List.set_cons_succ]
        refine wpAny_take (i := 18) (v := ?_) rfl (by kernel_rfl) (by kernel_rfl) (by kernel_rfl) (fun _ _ _ h => h) (Or.inl ⟨by rfl, ?_⟩) ?_
        rotate_left
        · (intro w; go_simp; try with_reducible rfl)
        try simp only [List.getElem_toArray, List.getElem_cons_zero, List.getElem_cons_succ, Act.put, List.setIfInBounds_toArray, List.set_cons_zero, List.set_cons_succ]
        refine wpAny_ready (rs := [19]) (by kernel_rfl) (by simp) ?_
        refine AllReady.cons rfl (fun K hK => ?_) (AllReady.nil)
        go_simp
        refine hK _ _ ?_
        clear hK K
        try simp only [List.getElem_toArray, List.getElem_cons_zero, List.getElem_cons_succ, Act.put, List.setIfInBounds_toArray, List.set_cons_zero, List.set_cons_succ]
        refine wpAny_done (by kernel_rfl) ?_ _
        go_wp2
        go_ret
        exact ⟨rfl, hRR, hgw3⟩
    · go_simp
      refine hK _ _ ?_
      clear hK K
      try simp only [List.getElem_toArray, List.getElem_cons_zero, List.getElem_cons_succ, Act.put, List.setIfInBounds_toArray, List.set_cons_zero, List.set_cons_succ]
      refine wpAny_take (i := 15) (v := ?_) rfl (by kernel_rfl) (by kernel_rfl) (by kernel_rfl) (fun _ _ _ h => h) (Or.inl ⟨by rfl, ?_⟩) ?_
      rotate_left
      · (intro w; go_simp; try with_reducible rfl)
      try simp only [List.getElem_toArray, List.getElem_cons_zero, List.getElem_cons_succ, Act.put, List.setIfInBounds_toArray, List.set_cons_zero, List.set_cons_succ]
      refine wpAny_ready (rs := [1]) (by kernel_rfl) (by simp) ?_
      refine AllReady.cons rfl (fun K hK => ?_) (AllReady.nil)
      go_simp
      refine hK _ _ ?_
      clear hK K
      try simp only [List.getElem_toArray, List.getElem_cons_zero, List.getElem_cons_succ, Act.put, List.setIfInBounds_toArray, List.set_cons_zero, List.set_cons_succ]
      refine wpAny_ready (rs := [8]) (by kernel_rfl) (by simp) ?_
      refine AllReady.cons rfl (fun K hK => ?_) (AllReady.nil)
      refine step_append_rows (by rfl) _ _ (by rfl) _ _ (by rfl) (by rfl) w.heap.size N [] (rl.take k) hlitd P1.out (by simp; omega) (fun x hx => HV.out x (List.mem_of_mem_take hx)) hbd ?_
      intro v2 w2 hr2 hg2
      obtain ⟨c02, P2, hgw2⟩ := F2.out v2 w2 hr2 hg2
      refine hK _ _ ?_
      clear hK K
      try simp only [List.getElem_toArray, List.getElem_cons_zero, List.getElem_cons_succ, Act.put, List.setIfInBounds_toArray, List.set_cons_zero, List.set_cons_succ]
      refine wpAny_ready (rs := [16]) (by kernel_rfl) (by simp) ?_
      refine AllReady.cons rfl (fun K hK => ?_) (AllReady.nil)
      refine step_append_rows (by rfl) _ _ (by rfl) _ _ (by rfl) (by rfl) w.heap.size N (rl.take k) (rl.drop (k + 1)) hr2 P2 (by simp; omega) (fun x hx => HV.out x (List.mem_of_mem_drop hx)) (by have := hgw2.size; omega) ?_
      intro v3 w3 hr3 hg3
      obtain ⟨va, vl, vc, rfl, c03, f03, hRR, hgw3⟩ := F3.out v2 w2 hr2 hg2 v3 w3 hr3 hg3
      refine hK _ _ ?_
      clear hK K
      try simp only [List.getElem_toArray, List.getElem_cons_zero, List.getElem_cons_succ, Act.put, List.setIfInBounds_toArray, List.set_cons_zero, List.set_cons_succ]
      refine wpAny_take (i := 17) (v := ?_) rfl (by kernel_rfl) (by kernel_rfl) (by kernel_rfl) (fun _ _ _ h => h) (Or.inl ⟨by rfl, ?_⟩) ?_
      rotate_left
      · (intro w; go_simp; try with_reducible rfl)
      try simp only [List.getElem_toArray, List.getElem_cons_zero, List.getElem_cons_succ, Act.put, List.setIfInBounds_toArray, List.set_cons_zero, List.set_cons_succ]
      refine wpAny_take (i := 18) (v := ?_) rfl (by kernel_rfl) (by kernel_rfl) (by kernel_rfl) (fun _ _ _ h => h) (Or.inl ⟨by rfl, ?_⟩) ?_
      rotate_left
      · (intro w; go_simp; try with_reducible rfl)
      try simp only [List.getElem_toArray, List.getElem_cons_zero, List.getElem_cons_succ, Act.put, List.setIfInBounds_toArray, List.set_cons_zero, List.set_cons_succ]
      refine wpAny_ready (rs := [19]) (by kernel_rfl) (by simp) ?_
      refine AllReady.cons rfl (fun K hK => ?_) (AllReady.nil)
      go_simp
      refine hK _ _ ?_
      clear hK K
      try simp only [List.getElem_toArray, List.getElem_cons_zero, List.getElem_cons_succ, Act.put, List.setIfInBounds_toArray, List.set_cons_zero, List.set_cons_succ]
      refine wpAny_done (by kernel_rfl) ?_ _
      go_wp2
      go_ret
      exact ⟨rfl, hRR, hgw3⟩
  · go_simp
    refine hK _ _ ?_
    clear hK K
    try simp only [List.getElem_toArray, List.getElem_cons_zero, List.getElem_cons_succ, Act.put, List.setIfInBounds_toArray, List.set_cons_zero, List.set_cons_succ]
    refine wpAny_take (i := 15) (v := ?_) rfl (by kernel_rfl) (by kernel_rfl) (by kernel_rfl) (fun _ _ _ h => h) (Or.inl ⟨by rfl, ?_⟩) ?_
    rotate_left
    · (intro w; go_simp; try with_reducible rfl)
    try simp only [List.getElem_toArray, List.getElem_cons_zero, List.getElem_cons_succ, Act.put, List.setIfInBounds_toArray, List.set_cons_zero, List.set_cons_succ]
    refine wpAny_ready (rs := [1, 5]) (by kernel_rfl) (by simp) ?_
    refine AllReady.cons rfl (fun K hK => ?_) (AllReady.cons rfl (fun K hK => ?_) (AllReady.nil))
    · go_simp
      refine hK _ _ ?_
      clear hK K
      try simp only [List.getElem_toArray, List.getElem_cons_zero, List.getElem_cons_succ, Act.put, List.setIfInBounds_toArray, List.set_cons_zero, List.set_cons_succ]
      refine wpAny_ready (rs := [5]) (by kernel_rfl) (by simp) ?_
      refine AllReady.cons rfl (fun K hK => ?_) (AllReady.nil)
      go_simp
      refine hK _ _ ?_
      clear hK K
      try simp only [List.getElem_toArray, List.getElem_cons_zero, List.getElem_cons_succ, Act.put, List.setIfInBounds_toArray, List.set_cons_zero, List.set_cons_succ]
      refine wpAny_take (i := 7) (v := ?_) rfl (by kernel_rfl) (by kernel_rfl) (by kernel_rfl) (fun _ _ _ h => h) (Or.inl ⟨by rfl, ?_⟩) ?_
      rotate_left
      · (intro w; go_simp; try with_reducible rfl)
      try simp only [List.getElem_toArray, List.getElem_cons_zero, List.getElem_cons_succ, Act.put, List.setIfInBounds_toArray, List.set_cons_zero, List.set_cons_succ]
      refine wpAny_ready (rs := [8]) (by kernel_rfl) (by simp) ?_
      refine AllReady.cons rfl (fun K hK => ?_) (AllReady.nil)
      refine step_append_rows (by rfl) _ _ (by rfl) _ _ (by rfl) (by rfl) w.heap.size N [] (rl.take k) hlitd P1.out (by simp; omega) (fun x hx => HV.out x (List.mem_of_mem_take hx)) hbd ?_
      intro v2 w2 hr2 hg2
      obtain ⟨c02, P2, hgw2⟩ := F2.out v2 w2 hr2 hg2
      refine hK _ _ ?_
      clear hK K
      try simp only [List.getElem_toArray, List.getElem_cons_zero, List.getElem_cons_succ, Act.put, List.setIfInBounds_toArray, List.set_cons_zero, List.set_cons_succ]
      refine wpAny_ready (rs := [16]) (by kernel_rfl) (by simp) ?_
      refine AllReady.cons rfl (fun K hK => ?_) (AllReady.nil)
      refine step_append_rows (by rfl) _ _ (by rfl) _ _ (by rfl) (by rfl) w.heap.size N (rl.take k) (rl.drop (k + 1)) hr2 P2 (by simp; omega) (fun x hx => HV.out x (List.mem_of_mem_drop hx)) (by have := hgw2.size; omega) ?_
      intro v3 w3 hr3 hg3
      obtain ⟨va, vl, vc, rfl, c03, f03, hRR, hgw3⟩ := F3.out v2 w2 hr2 hg2 v3 w3 hr3 hg3
      refine hK _ _ ?_
      clear hK K
      try simp only [List.getElem_toArray, List.getElem_cons_zero, List.getElem_cons_succ, Act.put, List.setIfInBounds_toArray, List.set_cons_zero, List.set_cons_succ]
      refine wpAny_take (i := 17) (v := ?_) rfl (by kernel_rfl) (by kernel_rfl) (by kernel_rfl) (fun _ _ _ h => h) (Or.inl ⟨by rfl, ?_⟩) ?_
      rotate_left
      · (intro w; go_simp; try with_reducible rfl)
      try simp only [List.getElem_toArray, List.getElem_cons_zero, List.getElem_cons_succ, Act.put, List.setIfInBounds_toArray, List.set_cons_zero, List.set_cons_succ]
      refine wpAny_take (i := 18) (v := ?_) rfl (by kernel_rfl) (by kernel_rfl) (by kernel_rfl) (fun _ _ _ h => h) (Or.inl ⟨by rfl, ?_⟩) ?_
      rotate_left
      · (intro w; go_simp; try with_reducible rfl)
      try simp only [List.getElem_toArray, List.getElem_cons_zero, List.getElem_cons_succ, Act.put, List.setIfInBounds_toArray, List.set_cons_zero, List.set_cons_succ]
      refine wpAny_ready (rs := [19]) (by kernel_rfl) (by simp) ?_
      refine AllReady.cons rfl (fun K hK => ?_) (AllReady.nil)
      go_simp
      refine hK _ _ ?_
      clear hK K
      try simp only [List.getElem_toArray, List.getElem_cons_zero, List.getElem_cons_succ, Act.put, List.setIfInBounds_toArray, List.set_cons_zero, List.set_cons_succ]
      refine wpAny_done (by kernel_rfl) ?_ _
      go_wp2
      go_ret
      exact ⟨rfl, hRR, hgw3⟩
    · go_simp
      refine hK _ _ ?_
      clear hK K
      try simp only [List.getElem_toArray, List.getElem_cons_zero, List.getElem_cons_succ, Act.put, List.setIfInBounds_toArray, List.set_cons_zero, List.set_cons_succ]
      refine wpAny_take (i := 7) (v := ?_) rfl (by kernel_rfl) (by kernel_rfl) (by kernel_rfl) (fun _ _ _ h => h) (Or.inl ⟨by rfl, ?_⟩) ?_
      rotate_left
      · (intro w; go_simp; try with_reducible rfl)
      try simp only [List.getElem_toArray, List.getElem_cons_zero, List.getElem_cons_succ, Act.put, List.setIfInBounds_toArray, List.set_cons_zero, List.set_cons_succ]
      refine wpAny_ready (rs := [1]) (by kernel_rfl) (by simp) ?_
      refine AllReady.cons rfl (fun K hK => ?_) (AllReady.nil)
      go_simp
      refine hK _ _ ?_
      clear hK K
      try simp only [List.getElem_toArray, List.getElem_cons_zero, List.getElem_cons_succ, Act.put, List.setIfInBounds_toArray, List.set_cons_zero, List.set_cons_succ]
      refine wpAny_ready (rs := [8]) (by kernel_rfl) (by simp) ?_
      refine AllReady.cons rfl (fun K hK => ?_) (AllReady.nil)
      refine step_append_rows (by rfl) _ _ (by rfl) _ _ (by rfl) (by rfl) w.heap.size N [] (rl.take k) hlitd P1.out (by simp; omega) (fun x hx => HV.out x (List.mem_of_mem_take hx)) hbd ?_
      intro v2 w2 hr2 hg2
      obtain ⟨c02, P2, hgw2⟩ := F2.out v2 w2 hr2 hg2
      refine hK _ _ ?_
      clear hK K
      try simp only [List.getElem_toArray, List.getElem_cons_zero, List.getElem_cons_succ, Act.put, List.setIfInBounds_toArray, List.set_cons_zero, List.set_cons_succ]
      refine wpAny_ready (rs := [16]) (by kernel_rfl) (by simp) ?_
      refine AllReady.cons rfl (fun K hK => ?_) (AllReady.nil)
      refine step_append_rows (by rfl) _ _ (by rfl) _ _ (by rfl) (by rfl) w.heap.size N (rl.take k) (rl.drop (k + 1)) hr2 P2 (by simp; omega) (fun x hx => HV.out x (List.mem_of_mem_drop hx)) (by have := hgw2.size; omega) ?_
      intro v3 w3 hr3 hg3
      obtain ⟨va, vl, vc, rfl, c03, f03, hRR, hgw3⟩ := F3.out v2 w2 hr2 hg2 v3 w3 hr3 hg3
      refine hK _ _ ?_
      clear hK K
      try simp only [List.getElem_toArray, List.getElem_cons_zero, List.getElem_cons_succ, Act.put, List.setIfInBounds_toArray, List.set_cons_zero, List.set_cons_succ]
      refine wpAny_take (i := 17) (v := ?_) rfl (by kernel_rfl) (by kernel_rfl) (by kernel_rfl) (fun _ _ _ h => h) (Or.inl ⟨by rfl, ?_⟩) ?_
      rotate_left
      · (intro w; go_simp; try with_reducible rfl)
      try simp only [List.getElem_toArray, List.getElem_cons_zero, List.getElem_cons_succ, Act.put, List.setIfInBounds_toArray, List.set_cons_zero, List.set_cons_succ]
      refine wpAny_take (i := 18) (v := ?_) rfl (by kernel_rfl) (by kernel_rfl) (by kernel_rfl) (fun _ _ _ h => h) (Or.inl ⟨by rfl, ?_⟩) ?_
      rotate_left
      · (intro w; go_simp; try with_reducible rfl)
      try simp only [List.getElem_toArray, List.getElem_cons_zero, List.getElem_cons_succ, Act.put, List.setIfInBounds_toArray, List.set_cons_zero, List.set_cons_succ]
      refine wpAny_ready (rs := [19]) (by kernel_rfl) (by simp) ?_
      refine AllReady.cons rfl (fun K hK => ?_) (AllReady.nil)
      go_simp
      refine hK _ _ ?_
      clear hK K
      try simp only [List.getElem_toArray, List.getElem_cons_zero, List.getElem_cons_succ, Act.put, List.setIfInBounds_toArray, List.set_cons_zero, List.set_cons_succ]
      refine wpAny_done (by kernel_rfl) ?_ _
      go_wp2
      go_ret
      exact ⟨rfl, hRR, hgw3⟩
set_option maxRecDepth 100000 in
set_option maxHeartbeats 1000000 in
theorem rremove_none (w : World) {rb : Nat} {N : Nat → Prop} {l : List Sg} {root : List Int} (h : Rsk w rb N l root) {n : Int} (hx : getS n l = none) :
    Calls Try.prog 16 #[.pointer (some ⟨rb, 0, none⟩), .int .i64 n] w fun r w' => r = .returned (.int .i64 31) ∧ w = w' := by
  go_enter Try.func16, Try.ntmps16
  go_wp2_with fail
  refine (rfind_any w h n).mono ?_
  rintro r w1 ⟨i, rfl, rfl, hf⟩
  obtain rfl := hf.none' hx
  go_wp2
  go_ret
  exact ⟨rfl, rfl⟩
end Go.Proofs.Ytmhpbemfejkdaaa
