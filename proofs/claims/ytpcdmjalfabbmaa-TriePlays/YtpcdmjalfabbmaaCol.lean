/- What slices.Collect makes of them: a row of its own. -/
import Derived.Test.YtpcdmjalfabbmaaKey
import Derived.Test.YtpcdmjalfabbmaaNew
namespace Go.Proofs.Ytpcdmjalfabbmaa
open Go.RowKit Go.Shelf Go.IntWalk Go.Maps
set_option linter.unusedVariables false
attribute [local go_sem] Oper.semAt_some
abbrev u8 (c : UInt8) : Value := .int .u8 c.toNat
/-- Bytes in a row of one's own. -/
abbrev Br (w : World) (base : Nat) (v : Value) (ks : List UInt8) : Prop := w.ownsRow base 5 1 v ks.length (ks.map u8)
theorem Br.shape {w : World} {base : Nat} {v : Value} {ks : List UInt8} (h : Br w base v ks) : ∃ a cap, v = .slice a ks.length cap := by
  rcases h.2 with ⟨rfl, h0⟩ | ⟨g, cap, cur, rfl, _⟩
  · exact ⟨none, 0, by rw [h0]⟩
  · exact ⟨_, _, rfl⟩
theorem run_append_byte (w : World) (base : Nat) (v : Value) (ks : List UInt8) (c : UInt8) (hrow : Br w base v ks) (hl : ks.length ≤ 100000) (hb : base ≤ w.heap.size) (ty : TypeId) :
    ∃ v' w', (Builtin.append_ #[84, 84] ty #[v, .slice (some ⟨w.heap.size, 0, none⟩) 1 1]).run Try.prog (w.alloc (.cells #[u8 c] 5)) = .ok v' w' ∧ Br w' base v' (ks ++ [c]) ∧ (w.alloc (.cells #[u8 c] 5)).grownBy w' v.ownBlock := by
  obtain ⟨i0, hi, hz0, hz1, hz2⟩ := info_parts Try.info5
  obtain ⟨v', w', hrun, hr, hg, _⟩ := run_append_own (P := Try.prog) (w.alloc (.cells #[u8 c] 5)) base 84 ty 5 i0 (.int .u8 0) 1 1 Try.underlying84 hi hz0 hz1 hz2 rfl (by decide) v ks.length _ (hrow.alloc (.cells #[u8 c] 5)) ⟨w.heap.size, 0, none⟩ 1 1 [u8 c] rfl
    (fun j u hj => by
      match j, hj with
      | 0, hj => simp at hj; subst hj; rw [addr_add]; simp
      | j + 1, hj => simp at hj) (by simp [Value.oneCell']) (by unfold maxLen; omega) (by omega) (by simp; omega)
  refine ⟨v', w', hrun, ?_, hg⟩
  have : (ks ++ [c]).map u8 = ks.map u8 ++ [u8 c] := by simp
  unfold Br
  rw [this, List.length_append]
  exact hr
theorem wpListIn_append_run {F : Fence} {n : Nat} (w : World) {ops : Array Oper} {rest : List Oper} {o : Oper} {a : Act} {Q : Exit → Act → World → Prop} (hg : o.guard = none) (sl x : Operand) (t : TypeId) (hop : o.op = Op.call { callee := Callee.builtin Builtin.append, args := #[sl, x], argTypes := #[t, t] })
    (v u : Value) (hs : a.eval sl = v) (hx : a.eval x = u) {v' : Value} {w' : World} (hrun : (Builtin.append_ #[t, t] o.type #[v, u]).run Try.prog w = .ok v' w') (hK : wpListIn F n Try.prog ops Q rest (a.put o.dst v') w') :
    wpListIn F n Try.prog ops Q (o :: rest) a w := by
  refine wpListIn_plain hg fun K hK' => ?_
  unfold Oper.wpIn
  refine ⟨?_, ?_⟩
  · simp [Oper.about, hop, resolve, Target.leads, Sem.run_pure]
  · rw [Oper.semAt_plain F _ _ (by rw [hop]; intro c hc'; cases hc')]
    simp [execOp, hop, resolve, invoke, builtin, hs, hx, hrun, Result.andThen]
    exact hK' _ _ hK
set_option maxRecDepth 100000 in
set_option maxHeartbeats 2000000 in
theorem appendSeq_in (w : World) (Bm b : Nat) {f : UInt8 → Option Nat} (hBm : Bm < w.heap.size) (hc : w.cell? ⟨Bm, 0, none⟩ = some (.map (some b))) (hkm : Km w b f) :
    CallsIn Fence.wide 9 Try.prog 53 #[.slice none 0 0, .func (.func 52) #[] #[ptr Bm]] w fun r w' => ∃ v ks, r = .returned v ∧ (ks.Nodup ∧ ∀ c, c ∈ ks ↔ (f c).isSome = true) ∧ Br w' w.heap.size v ks ∧ Below w.heap.size w w' := by
  refine callsIn_of_wp_marks Try.func53 rfl trivial ?_ rfl
  simp only [Try.ntmps53, List.size_toArray, List.length_cons, List.length_nil, Nat.reduceAdd, Nat.reduceSub, Array.replicate_succ, Array.replicate_zero, List.push_toArray, List.append_toArray, List.nil_append, List.cons_append]
  obtain ⟨N, hN⟩ : ∃ N, w.heap.size = N := ⟨_, rfl⟩
  have b0 := Boxed.new w 84 (.slice none 0 0)
  have g0 := World.grownBy_alloc w (.cells #[.slice none 0 0] 84) none
  have hsz : (w.alloc (.cells #[.slice none 0 0] 84)).heap.size = N + 1 := by simp [hN]
  rw [hN] at b0
  gi_wp2_with fail
  obtain ⟨W0, hW0⟩ : ∃ W0, w.alloc (.cells #[.slice none 0 0] 84) = W0 := ⟨_, rfl⟩
  rw [hW0] at b0 g0 hsz ⊢
  clear hW0
  have hB0 : Below N w W0 := ⟨g0.os, g0.tape, g0.output, g0.size, fun j hj => g0.block j (by omega) (by simp)⟩
  have hkm0 : Km W0 b f := hkm.kept (g0.block b hkm.lt (by simp))
  refine wpIn_rangeFunc_ownH rfl (by omega) (gf := 52) (lb := #[ptr Bm]) rfl trivial (enters_of Try.func52 (by kernel_rfl) rfl)
    (keys_stops (9 - 1) (by omega) Bm b W0 (by omega) (grown_cell g0 hc) hkm0) walksK_t walksK_b (Below.refl _ _) (fun _ => rfl)
    (fun (pre : List UInt8) W => (∃ v, Boxed W N 84 v ∧ W.ownsRow N 5 1 v pre.length (pre.map u8) ∧ True) ∧ Below N w W)
    (fun _ (pre : List UInt8) W => False)
    (OwnFrom.and (Own.from (holdsRow_own N N 84 5 1 (fun (pre : List UInt8) => pre.length) (fun pre => pre.map u8) (fun _ v => True)) _) (ownFrom_below (by omega) (by omega)))
    (fun c => ownFrom_pure _ _)
    ⟨⟨_, b0, World.ownsRow_nil _ _ _ _, trivial⟩, hB0⟩
    (fun (x : UInt8) a' W => a' = { tmps := #[.slice none 0 0, .func (.func 52) #[] #[ptr Bm], ptr N, undef, .slice none 0 0, u8 x, .func (.func 52) #[] #[ptr Bm], u8 x, undef, undef, undef, undef, undef], defers := [] })
    (fun x a' _ X Y row hs hg hr => hs)
    ?assign ?body ?done ?stop
  case assign =>
    rintro l pre x W K ⟨b, hB1⟩ hK
    gi_wp2
    exact hK _ _ ((KeepsOthers.refl _).from _) (KeepsWalks.refl _) ⟨b, hB1⟩ rfl
  case body =>
    rintro l pre x a' W hlw _ ⟨⟨v, b1, hrow, _⟩, hB1⟩ rfl hlt
    have c1 := b1.cell
    have f1 := b1.frozen
    have hsW := hB1.size
    obtain ⟨v', w', hrun, hr2, hg2⟩ := run_append_byte W N v pre x hrow (by omega) (by omega) 84
    obtain ⟨a1, cap1, rfl⟩ := Br.shape hrow
    obtain ⟨a2, cap2, rfl⟩ : ∃ a cap, v' = .slice a (pre.length + 1) cap := by simpa using Br.shape hr2
    have ga := World.grownBy_alloc W (.cells #[u8 x] 5) none
    have hnr : some N ≠ (Value.slice a1 pre.length cap1).ownBlock := b1.not_row (by decide) hrow
    have bA := b1.alloc (.cells #[u8 x] 5)
    have b2 := bA.kept hg2 hnr
    have c2 := b2.cell
    have f2 := b2.frozen
    have hkr : ∀ (j : Nat) (o : Obj), (Value.slice a1 pre.length cap1).ownBlock = some j → (W.alloc (.cells #[u8 x] 5)).heap[j]? = some o → o.isCells = true := fun j o e ho => by
      rcases hrow.2 with ⟨e1, _⟩ | ⟨g, cap, cur, e1, _, hgb, _⟩
      · rw [e1] at e; cases e
      · rw [e1] at e
        have e3 : g = j := by simpa [Value.ownBlock] using e
        subst e3
        rw [ga.block g (Array.getElem?_eq_some_iff.1 hgb).1 (by simp), hgb] at ho
        cases ho
        rfl
    have hKO : KeepsOthers W w' := (KeepsOthers.alloc W _).trans (KeepsOthers.of_grownBy hg2 hkr)
    have hB2 : Below N w w' := (hB1.alloc (by omega) _).grown hg2 (by simp; omega) (fun j e => (hrow.lt j e).1)
    have hr3 := hr2.kept (grown_setCell w' ⟨N, 0, none⟩ (.slice a2 (pre.length + 1) cap2)) (.inr (b2.not_row (by decide) hr2).symm)
    replace hr3 : Hid _ := ⟨hr3⟩
    replace hr2 : Hid _ := ⟨hr2⟩
    clear hrow b1 bA ga hkr hg2
    gi_wp2_with (first
      | (gi_at_builtin; refine wpListIn_append_run _ rfl _ _ 84 rfl _ _ rfl rfl hrun ?_)
      | gi_in)
    refine ⟨(hKO.trans (KeepsOthers.setCell _ _ _)).from _, (hKO.trans (KeepsOthers.setCell _ _ _)).walks, ⟨_, b2.set _, hr3.out, trivial⟩, hB2.setCell (p := ⟨N, 0, none⟩) (Nat.le_refl _) _⟩
  case done =>
    rintro D ys W hD hys ⟨⟨v, b1, hrow, _⟩, hB1⟩ hK
    have c1 := b1.cell
    obtain ⟨a1, cap1, rfl⟩ := Br.shape hrow
    gi_wp2
    have x1 := cell_kept c1 (grownBy_putObj' _ D (.deferred none)) (fun r e => by cases e; exact ⟨_, hK, rfl⟩)
    refine ⟨by simp, .inl ⟨_, _, rfl, run_takeDeferred hK, ?_⟩⟩
    refine ⟨_, results_tmp rfl _ _ _, _, ys, rfl, hys, ?_, ?_⟩
    · rw [hN]
      exact ownsRow_putObj hrow _ hK rfl
    · rw [hN]
      exact hB1.trans (belowK_b (w := W0) (by omega) W D _ _ hD hK rfl rfl)
  case stop =>
    rintro D c pre W hD _ hF hK
    exact hF.elim
set_option maxHeartbeats 1000000 in
/-- slices.Collect. -/
theorem collect_any (w : World) (Bm b : Nat) {f : UInt8 → Option Nat} (hBm : Bm < w.heap.size) (hc : w.cell? ⟨Bm, 0, none⟩ = some (.map (some b))) (hkm : Km w b f) :
    Calls Try.prog 50 #[.func (.func 52) #[] #[ptr Bm]] w fun r w' => ∃ v ks, r = .returned v ∧ (ks.Nodup ∧ ∀ c, c ∈ ks ↔ (f c).isSome = true) ∧ Br w' w.heap.size v ks ∧ Below w.heap.size w w' := by
  have h := callsIn_wide.1 (appendSeq_in w Bm b hBm hc hkm)
  go_enter Try.func50, Try.ntmps50
  go_wp2_with fail
  refine h.mono ?_
  rintro r w1 ⟨v, ks, rfl, h1, h2, h3⟩
  replace h2 : Hid _ := ⟨h2⟩
  replace h1 : Hid _ := ⟨h1⟩
  go_wp2
  go_ret
  exact ⟨v, ks, rfl, h1.out, h2.out, h3⟩
end Go.Proofs.Ytpcdmjalfabbmaa
