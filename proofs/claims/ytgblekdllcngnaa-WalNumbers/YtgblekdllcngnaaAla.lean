/- All records of a script, kept beside the log. -/
import Derived.Test.YtgblekdllcngnaaLst
namespace Go.Proofs.Ytgblekdllcngnaa
open Go.RowKit Go.Shelf Plain Go.IntWalk Go.Maps
set_option linter.unusedVariables false
theorem Try.info32 : (Try.prog.info? 32).map (fun i => (i.zero, i.size, i.bytes)) = some (some (.slice none 0 0), 1, 24) := by kernel_rfl
theorem own_kpt {w w' : World} {base e n k : Nat} {v : Value} {xs : List Value} (h : w.ownsRow base e n v k xs) (hb : ∀ b, v.ownBlock = some b → w'.heap[b]? = w.heap[b]?) : w'.ownsRow base e n v k xs := by
  obtain ⟨h1, h2⟩ := h
  refine ⟨h1, ?_⟩
  rcases h2 with h2 | ⟨g, cap, cur, rfl, hbg, hg, hr⟩
  · exact .inl h2
  · exact .inr ⟨g, cap, cur, rfl, hbg, (hb g rfl).trans hg, hr⟩
/-- The records rs as a [][]byte of the law's own, in blocks of which M is true. -/
structure All (M : Nat → Prop) (w : World) (av : Value) (rs : List (List Int)) : Prop where
  ex : ∃ vs : List Value, w.ownsRow 0 32 1 av rs.length vs ∧ ∀ (i : Nat) (r : List Int), rs[i]? = some r → ∃ v, vs[i]? = some v ∧ Btx (fun k => M k ∧ av.ownBlock ≠ some k) w v r
  mb : ∀ k, av.ownBlock = some k → M k
  ok : ∀ r ∈ rs, okR r
theorem okR_ne {r : List Int} (h : okR r) : r ≠ [] := fun e => by have := h.1; rw [e] at this; simp at this
theorem Btx.kept {M : Nat → Prop} {w w' : World} {v : Value} {zs : List Int} (h : Btx M w v zs) (hz : zs ≠ []) (hK : Kpt M w w') : Btx M w' v zs :=
  ⟨h.1.kpt hK fun b off len cap e => h.2 b off len cap e hz, h.2⟩
theorem All.kept {M : Nat → Prop} {w w' : World} {av : Value} {rs : List (List Int)} (h : All M w av rs) (hK : Kpt M w w') : All M w' av rs := by
  obtain ⟨⟨vs, h1, h2⟩, h3, h4⟩ := h
  exact ⟨⟨vs, own_kpt h1 fun b hb => hK.block b (h3 b hb), fun i r hr => by
    obtain ⟨v, e, hv⟩ := h2 i r hr
    exact ⟨v, e, hv.kept (okR_ne (h4 r (List.mem_of_getElem? hr))) (hK.mono fun k hk => hk.1)⟩⟩, h3, h4⟩
theorem All.wider {M M' : Nat → Prop} {w : World} {av : Value} {rs : List (List Int)} (h : All M w av rs) (hm : ∀ k, M k → M' k) : All M' w av rs := by
  obtain ⟨⟨vs, h1, h2⟩, h3, h4⟩ := h
  exact ⟨⟨vs, h1, fun i r hr => by
    obtain ⟨v, e, hv⟩ := h2 i r hr
    exact ⟨v, e, hv.mono fun k hk => ⟨hm k hk.1, hk.2⟩⟩⟩, fun k hk => hm k (h3 k hk), h4⟩
theorem All.nil (M : Nat → Prop) (w : World) : All M w (.slice none 0 0) [] := ⟨⟨[], World.ownsRow_nil _ _ _ _, fun i r hr => by simp at hr⟩, fun k hk => by simp [Value.ownBlock] at hk, by simp⟩
theorem run_append_all (w : World) (av : Value) (n : Nat) (vs : List Value) (a : Option Addr) (len cap : Nat) (hrow : w.ownsRow 0 32 1 av n vs) (hl : n ≤ 100000) (ty : TypeId) :
    ∃ av' w', (Builtin.append_ #[46, 46] ty #[av, .slice (some ⟨w.heap.size, 0, none⟩) 1 1]).run Try.prog (w.alloc (.cells #[.slice a len cap] 32)) = .ok av' w' ∧ w'.ownsRow 0 32 1 av' (n + 1) (vs ++ [.slice a len cap]) ∧ w.grownBy w' av.ownBlock ∧
      (av'.ownBlock = av.ownBlock ∨ ∃ k, av'.ownBlock = some k ∧ w.heap.size ≤ k) := by
  obtain ⟨i0, hi, hz0, hz1, hz2⟩ := info_parts Try.info32
  have hga := World.grownBy_alloc w (.cells #[.slice a len cap] 32) none
  obtain ⟨v', w', hrun, h1, h2, _, h4⟩ := run_append_own_at (P := Try.prog) (w := w.alloc (.cells #[.slice a len cap] 32)) 0 46 ty 32 i0 (.slice none 0 0) 1 24 Try.underlying46 hi hz0 hz1 hz2 rfl (by decide) av n _ (hrow.kept hga (Classical.em _)) ⟨w.heap.size, 0, none⟩ 1 1 [.slice a len cap] rfl (fun j u hj => by
    have hadd : (⟨w.heap.size, 0, none⟩ : Addr).add j = ⟨w.heap.size, 0 + j, none⟩ := by unfold Addr.add; split <;> simp_all
    rw [hadd, Nat.zero_add]
    have hn := heap_alloc_new w (.cells #[.slice a len cap] 32)
    cases j with
    | zero => simp at hj; subst hj; simp only [World.cell?, hn]; rfl
    | succ j => simp at hj) (fun u hu => by simp at hu; subst hu; rfl) (by unfold maxLen; omega) (by omega) (by omega)
  refine ⟨v', w', hrun, by simpa using h1, grown_same hga h2, ?_⟩
  rcases h4 with h4 | h4
  · exact .inl h4
  · exact .inr ⟨_, h4, by simp⟩
theorem wpList_append_run {ops : Array Oper} {rest : List Oper} {o : Oper} {a : Act} {w : World} {Q : Exit → Act → World → Prop} (hg : o.guard = none) (sl x : Operand) (hop : o.op = Op.call { callee := Callee.builtin Builtin.append, args := #[sl, x], argTypes := #[46, 46] })
    (v u : Value) (hs : a.eval sl = v) (hx : a.eval x = u) {v' : Value} {w' : World} (hrun : (Builtin.append_ #[46, 46] o.type #[v, u]).run Try.prog w = .ok v' w') (hK : wpList Try.prog ops Q rest (a.put o.dst v') w') :
    wpList Try.prog ops Q (o :: rest) a w := by
  refine wpList_plain hg fun K hK' => ?_
  unfold Oper.wp
  simp [execOp, hop, resolve, invoke, builtin, hs, hx, hrun, Result.andThen]
  exact hK' _ _ hK
/-- One record more. -/
theorem All.snoc {M : Nat → Prop} {w : World} {av : Value} {rs : List (List Int)} (h : All M w av rs) (hl : rs.length ≤ 100000) (a : Option Addr) (cap : Nat) (r : List Int) (hb : Btx (fun k => M k ∧ av.ownBlock ≠ some k) w (.slice a r.length cap) r) (hr : okR r) (hmlt : ∀ k, M k → k < w.heap.size) (ty : TypeId) :
    ∃ ca cc w', (Builtin.append_ #[46, 46] ty #[av, .slice (some ⟨w.heap.size, 0, none⟩) 1 1]).run Try.prog (w.alloc (.cells #[.slice a r.length cap] 32)) = .ok (.slice ca (rs ++ [r]).length cc) w' ∧ All (And_ M w w') w' (.slice ca (rs ++ [r]).length cc) (rs ++ [r]) ∧ w.grownBy w' av.ownBlock ∧ (∀ k, (Value.slice ca (rs ++ [r]).length cc).ownBlock = some k → av.ownBlock = some k ∨ w.heap.size ≤ k) := by
  obtain ⟨⟨vs, h1, h2⟩, h3, h4⟩ := h
  obtain ⟨av', w', hrun, hrow, hg, ho⟩ := run_append_all w av rs.length vs a r.length cap h1 hl ty
  have hvl : vs.length = rs.length := by have := h1.1; simpa using this
  have hlen : (rs ++ [r]).length = rs.length + 1 := by simp
  obtain ⟨ca, cc, rfl⟩ : ∃ ca cc, av' = .slice ca (rs ++ [r]).length cc := by
    rcases hrow.2 with ⟨_, h0⟩ | ⟨g, c, cur, e, _⟩
    · omega
    · exact ⟨_, _, by rw [hlen]; exact e⟩
  have hbl : ∀ k, (Value.slice ca (rs ++ [r]).length cc).ownBlock = some k → av.ownBlock = some k ∨ w.heap.size ≤ k := fun k hk => by
    rcases ho with ho | ⟨j, hj, hjl⟩
    · exact .inl (by rw [← ho]; exact hk)
    · rw [hj] at hk; cases hk; exact .inr hjl
  have hbt : ∀ v q, Btx (fun k => M k ∧ av.ownBlock ≠ some k) w v q → Btx (fun k => And_ M w w' k ∧ (Value.slice ca (rs ++ [r]).length cc).ownBlock ≠ some k) w' v q := fun v q hv =>
    (hv.grown hg fun k hk e => e.2 hk).mono fun k hk => ⟨.inl hk.1, fun e => by
      rcases hbl k e with e | e
      · exact hk.2 e
      · have := hmlt k hk.1; omega⟩
  refine ⟨ca, cc, w', hrun, ⟨⟨vs ++ [.slice a r.length cap], by rw [hlen]; rw [hlen] at hrow; exact hrow, fun i q hq => ?_⟩, fun k hk => ?_, fun q hq => ?_⟩, hg, hbl⟩
  · by_cases hi : i < rs.length
    · rw [List.getElem?_append_left hi] at hq
      obtain ⟨v, e, hv⟩ := h2 i q hq
      exact ⟨v, by rw [List.getElem?_append_left (by omega)]; exact e, hbt v q hv⟩
    · rw [List.getElem?_append_right (by omega)] at hq
      cases hh : i - rs.length with
      | succ n => rw [hh] at hq; simp at hq
      | zero =>
        rw [hh] at hq
        simp at hq
        subst hq
        exact ⟨_, by rw [List.getElem?_append_right (by omega), hvl, hh]; rfl, hbt _ _ hb⟩
  · rcases hbl k hk with e | e
    · exact .inl (h3 k e)
    · exact .inr ⟨e, (hrow.lt k hk).2⟩
  · rcases List.mem_append.1 hq with hq | hq
    · exact h4 q hq
    · simp at hq; rw [hq]; exact hr
theorem below_own {w w' : World} {n : Nat} {row : Option Nat} (hg : w.grownBy w' row) (hn : n ≤ w.heap.size) (hr : ∀ k, row = some k → n ≤ k) : Below n w w' :=
  ⟨hg.os, hg.tape, hg.output, hg.size, fun k hk => hg.block k (by omega) fun e => by have := hr k e.symm; omega⟩
theorem ins_nil (w : World) : Ins w.heap.size w (.slice none ([] : List Int).length 0) [] := ⟨.inl ⟨.inl rfl, rfl⟩, fun z hz => by cases hz⟩
/-- The law's own records, read. -/
theorem All.cell {M : Nat → Prop} {w : World} {ca : Option Addr} {len cc : Nat} {rs : List (List Int)} (h : All M w (.slice ca len cc) rs) {i : Nat} {r : List Int} (hr : rs[i]? = some r) : ∃ g v, ca = some ⟨g, 0, none⟩ ∧ w.cell? ⟨g, i, none⟩ = some v ∧ Bts w.heap.size w v r := by
  obtain ⟨⟨vs, h1, h2⟩, h3, h4⟩ := h
  obtain ⟨v, e, hv⟩ := h2 i r hr
  have hi := (List.getElem?_eq_some_iff.1 hr).1
  rcases h1.2 with ⟨_, h0⟩ | ⟨g, c, cur, e2, _⟩
  · omega
  · simp only [Value.slice.injEq] at e2
    obtain ⟨rfl, rfl, rfl⟩ := e2
    refine ⟨g, v, rfl, ?_, hv.1⟩
    have hadd : (⟨g, 0, none⟩ : Addr).add i = ⟨g, i, none⟩ := by unfold Addr.add; split <;> simp_all
    rw [← hadd]
    exact h1.cells (g := g) rfl i _ e
end Go.Proofs.Ytgblekdllcngnaa
