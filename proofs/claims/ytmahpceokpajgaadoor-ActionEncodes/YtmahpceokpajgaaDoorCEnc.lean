/- What codec.Encode returns, for every list of fields that can be read. -/
import Derived.Test.YtmahpceokpajgaaDoorCVals
namespace Go.Proofs.YtmahpceokpajgaaDoor.C
open Go.RowKit Go.Shelf Plain Go.IntWalk
set_option linter.unusedVariables false
attribute [local go_sem] Oper.semAt_some

/-- May a field be in a list? -/
def rightB (tag : Int) (len : Nat) : Bool := decide (1 ≤ tag) && decide (tag ≤ 255) && decide (len ≤ 2000)

set_option maxRecDepth 100000 in
set_option maxHeartbeats 1000000 in
theorem right_in (F : Fence) (n : Nat) (h : F.fn 40) (hro : F.round = none) (tag : Int) (a : Option Addr) (len cap : Nat) (hm : len ≤ 9223372036854775807) (w : World) :
    CallsIn F n Tryd.prog 40 #[.agg #[.int .i64 tag, .slice a len cap]] w fun e w' => e = .returned (.bool (rightB tag len)) ∧ w' = w.alloc (.cells #[.int .i64 tag, .slice a len cap] 55) := by
  by_cases h1 : 1 ≤ tag
  · by_cases h2 : tag ≤ 255
    · by_cases h3 : len ≤ 2000
      · have e : rightB tag len = true := by simp [rightB, h1, h2, h3]
        rw [e]
        have h3' : (len : Int) ≤ 2000 := by omega
        refine callsIn_of_wp Tryd.func40 rfl h ?_ hro
        simp only [Tryd.ntmps40, List.size_toArray, List.length_cons, List.length_nil, Nat.reduceAdd, Nat.reduceSub, Array.replicate_succ, Array.replicate_zero, List.push_toArray, List.append_toArray, List.nil_append, List.cons_append]
        gi_wp2
        go_ret
        exact ⟨rfl, rfl⟩
      · have e : rightB tag len = false := by simp [rightB]; omega
        rw [e]
        have h3' : decide ((len : Int) ≤ 2000) = false := by simp; omega
        refine callsIn_of_wp Tryd.func40 rfl h ?_ hro
        simp only [Tryd.ntmps40, List.size_toArray, List.length_cons, List.length_nil, Nat.reduceAdd, Nat.reduceSub, Array.replicate_succ, Array.replicate_zero, List.push_toArray, List.append_toArray, List.nil_append, List.cons_append]
        gi_wp2
        go_ret
        exact ⟨rfl, rfl⟩
    · have e : rightB tag len = false := by simp [rightB]; omega
      rw [e]
      refine callsIn_of_wp Tryd.func40 rfl h ?_ hro
      simp only [Tryd.ntmps40, List.size_toArray, List.length_cons, List.length_nil, Nat.reduceAdd, Nat.reduceSub, Array.replicate_succ, Array.replicate_zero, List.push_toArray, List.append_toArray, List.nil_append, List.cons_append]
      gi_wp2
      go_ret
      exact ⟨rfl, rfl⟩
  · have e : rightB tag len = false := by simp [rightB]; omega
    rw [e]
    refine callsIn_of_wp Tryd.func40 rfl h ?_ hro
    simp only [Tryd.ntmps40, List.size_toArray, List.length_cons, List.length_nil, Nat.reduceAdd, Nat.reduceSub, Array.replicate_succ, Array.replicate_zero, List.push_toArray, List.append_toArray, List.nil_append, List.cons_append]
    gi_wp2
    go_ret
    exact ⟨rfl, rfl⟩


/-- 'append(b, xs...)', b the call's own bytes, xs whatever bytes can be read: within a fence. -/
theorem wpListIn_append_bts {F : Fence} {n : Nat} (w : World) {ops : Array Oper} {rest : List Oper} {o : Oper} {a : Act} {Q : Exit → Act → World → Prop}
    (hg : o.guard = none) (s x : Operand) (hop : o.op = Op.call { callee := Callee.builtin Builtin.append, args := #[s, x], argTypes := #[23, 23] })
    (base n₀ : Nat) (v sv : Value) (k : Nat) (xs zs : List Int) (hs : a.eval s = v) (hx : a.eval x = sv) (hown : w.ownsRow base 5 1 v k (xs.map (Value.int .u8))) (hz : Bts n₀ w sv zs)
    (b1 : k + zs.length ≤ 140737488355328) (b3 : base ≤ w.heap.size)
    (hK : ∀ v' w', w'.ownsRow base 5 1 v' (k + zs.length) ((xs ++ zs).map (Value.int .u8)) → w.grownBy w' v.ownBlock → wpListIn F n Tryd.prog ops Q rest (a.put o.dst v') w') :
    wpListIn F n Tryd.prog ops Q (o :: rest) a w := by
  obtain ⟨i0, hi, hz0, hz1, hz2⟩ := info_parts Tryd.info5
  obtain ⟨⟨rfl | ⟨ad, cap, rfl⟩, rfl⟩ | ⟨b, off, cap, rfl, hb, hl, hm, hc⟩, hzz⟩ := hz
  · refine wpListIn_plain hg fun K hK' => ?_
    have hrun := run_append_owned_none (P := Tryd.prog) (w := w) base 23 o.type 5 i0 1 Tryd.underlying23 hi v k _ hown
    unfold Oper.wpIn
    refine ⟨?_, ?_⟩
    · simp [Oper.about, hop, resolve, Target.leads, Sem.run_pure]
    · rw [Oper.semAt_plain F _ _ (by rw [hop]; intro c hc'; cases hc')]
      simp [execOp, hop, resolve, invoke, builtin, hs, hx, hrun, Result.andThen]
      exact hK' _ _ (hK v w (by simpa using hown) ⟨rfl, rfl, rfl, Nat.le_refl _, fun _ _ _ => rfl⟩)
  · refine wpListIn_append_own w hg s x 23 hop base 5 i0 (.int .u8 0) 1 1 Tryd.underlying23 hi hz0 hz1 hz2 rfl (by decide) v k _ hs hown ad 0 cap [] hx (by simp) (fun j u hj => by simp at hj) (fun u hu => by cases hu) (by unfold maxLen; simp at b1; omega) (by simp at b1; omega) b3 ?_
    intro v' w' h1 h2 _
    exact hK v' w' (by simpa using h1) h2
  · refine wpListIn_append_own w hg s x 23 hop base 5 i0 (.int .u8 0) 1 1 Tryd.underlying23 hi hz0 hz1 hz2 rfl (by decide) v k _ hs hown ⟨b, off, none⟩ zs.length cap (zs.map (Value.int .u8)) hx (by simp) ?_ ?_ (by unfold maxLen; omega) (by omega) b3 ?_
    · intro j u hj
      have hadd : (⟨b, off, none⟩ : Addr).add j = ⟨b, off + j, none⟩ := by unfold Addr.add; split <;> simp_all
      have hjl : j < zs.length := by
        rcases Nat.lt_or_ge j zs.length with h | h
        · exact h
        · rw [List.getElem?_map, List.getElem?_eq_none h] at hj; cases hj
      rw [hadd, hc j hjl, List.getElem?_eq_getElem hjl]
      rw [List.getElem?_map, List.getElem?_eq_getElem hjl] at hj
      exact hj
    · intro u hu
      obtain ⟨z, _, rfl⟩ := List.mem_map.1 hu
      rfl
    · intro v' w' h1 h2 _
      exact hK v' w' (by rw [List.map_append]; exact h1) h2

/-- A block of another type is not the row of the call's own bytes. -/
theorem not_own {W : World} {B : Nat} {t : TypeId} {cs : Array Value} {fr : Nat × Nat} (h : W.heap[B]? = some (.cells cs t fr)) (ht : t ≠ 5) {base k : Nat} {v : Value} {xs : List Value} (hr : W.ownsRow base 5 1 v k xs) : some B ≠ v.ownBlock := by
  rcases hr.2 with ⟨rfl, _⟩ | ⟨g, cap, cur, rfl, _, hgb, _⟩
  · simp [Value.ownBlock]
  · intro e'
    obtain rfl : B = g := by simpa [Value.ownBlock] using e'
    have := h.symm.trans hgb
    simp at this
    exact ht this.2.1

/-- 'b = append(b, ..)', b in a box: what holds behind the store. -/
theorem appended {W w1 : World} {n₀ B : Nat} {v v' : Value} {k m : Nat} {xs ys : List Value}
    (hv : Boxed W B 23 v) (hrow : W.ownsRow n₀ 5 1 v k xs) (hn₀ : n₀ ≤ W.heap.size) (hB : n₀ ≤ B) (hown' : w1.ownsRow n₀ 5 1 v' m ys) (hgrow : W.grownBy w1 v.ownBlock) :
    Boxed w1 B 23 v ∧ Boxed (w1.setCell ⟨B, 0, none⟩ v') B 23 v' ∧ (w1.setCell ⟨B, 0, none⟩ v').ownsRow n₀ 5 1 v' m ys ∧ KeepsOthers W (w1.setCell ⟨B, 0, none⟩ v') ∧ Below n₀ W (w1.setCell ⟨B, 0, none⟩ v') ∧
    (∀ (C : Nat) (t : TypeId) (cs : Array Value) (fr : Nat × Nat), W.heap[C]? = some (.cells cs t fr) → t ≠ 5 → C ≠ B → (w1.setCell ⟨B, 0, none⟩ v').heap[C]? = some (.cells cs t fr)) ∧ (∀ (C : Nat) (t : TypeId) (cs : Array Value) (fr : Nat × Nat), W.heap[C]? = some (.cells cs t fr) → t ≠ 5 → w1.heap[C]? = some (.cells cs t fr)) := by
  have keep : ∀ (C : Nat) (t : TypeId) (cs : Array Value) (fr : Nat × Nat), W.heap[C]? = some (.cells cs t fr) → t ≠ 5 → w1.heap[C]? = some (.cells cs t fr) := fun C t cs fr h ht =>
    (hgrow.block C (Array.getElem?_eq_some_iff.1 h).1 (not_own h ht hrow)).trans h
  have hv1 : Boxed w1 B 23 v := keep B 23 _ _ hv (by decide)
  refine ⟨hv1, hv1.set v', hown'.kept (grownBy_setCell' w1 B v') (.inr (hv1.not_row (by decide) hown').symm), ?_, ?_, ?_, keep⟩
  · refine (KeepsOthers.of_grownBy hgrow fun j o ej hj => ?_).trans (KeepsOthers.setCell _ _ _)
    rcases hrow.2 with ⟨rfl, _⟩ | ⟨g, cap, cur, rfl, _, hgb, _⟩
    · simp [Value.ownBlock] at ej
    · obtain rfl : g = j := by simpa [Value.ownBlock] using ej
      rw [hgb] at hj; cases hj; rfl
  · refine ((Below.refl n₀ W).grown hgrow hn₀ fun j ej => ?_).setCell (p := ⟨B, 0, none⟩) hB v'
    rcases hrow.2 with ⟨rfl, _⟩ | ⟨g, cap, cur, rfl, hb, _, _⟩
    · simp [Value.ownBlock] at ej
    · obtain rfl : g = j := by simpa [Value.ownBlock] using ej
      exact hb
  · intro C t cs fr h ht hne
    exact (Below.heap_setCell _ _ _ _ hne).trans (keep C t cs fr h ht)

end Go.Proofs.YtmahpceokpajgaaDoor.C
