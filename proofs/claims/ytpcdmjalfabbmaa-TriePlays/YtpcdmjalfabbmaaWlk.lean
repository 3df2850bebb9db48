/- Trie.Walk. -/
import Derived.Test.YtpcdmjalfabbmaaAll
namespace Go.Proofs.Ytpcdmjalfabbmaa
open Go.RowKit Go.Shelf Go.IntWalk Go.Maps
set_option linter.unusedVariables false
attribute [local go_sem] Oper.semAt_some
theorem Kb.setCell {n : Nat} {A B : World} (h : Kb n A B) {j : Nat} {cs : Array Value} {t : TypeId} (hj : B.heap[j]? = some (.cells cs t (0, 0))) (ht : t ≠ 5) (hn : n ≤ j) (i : Nat) (v : Value) : Kb n A (B.setCell ⟨j, i, none⟩ v) :=
  ⟨h.b.setCell (p := ⟨j, i, none⟩) hn _, fun k ks hk => by
    have h1 := h.s k ks hk
    have hne : some k ≠ some j := fun e => by
      cases e
      rw [hj] at h1
      cases h1
      exact ht rfl
    rw [(grown_setCell B ⟨j, i, none⟩ v).block k (Array.getElem?_eq_some_iff.1 h1).1 hne]
    exact h1⟩
theorem Kb.row {n : Nat} {A B C : World} (h : Kb n A B) {base : Nat} {v : Value} {k : Nat} {xs : List Value} {t : TypeId} {size : Nat} (hr : B.ownsRow base t size v k xs) (ht : t ≠ 5) (hn : n ≤ base) (hg : B.grownBy C v.ownBlock) (hs : n ≤ B.heap.size) : Kb n A C := by
  refine ⟨h.b.grown hg hs (fun j e => Nat.le_trans hn (hr.lt j e).1), fun j cs hj => ?_⟩
  have h1 := h.s j cs hj
  have hne : some j ≠ v.ownBlock := fun e => by
    rcases hr.2 with ⟨rfl, _⟩ | ⟨g, cap, cur, rfl, _, hgb, _⟩
    · cases e
    · have e3 : j = g := by simpa [Value.ownBlock] using e
      subst e3
      rw [hgb] at h1
      cases h1
      exact ht rfl
  rw [hg.block j (Array.getElem?_eq_some_iff.1 h1).1 hne]
  exact h1
theorem kb_b {n₀ : Nat} {w : World} (hn : n₀ ≤ w.heap.size) (W : World) (l : Nat) (o o' : Obj) (hl : w.heap.size ≤ l) (h : W.heap[l]? = some o) (ho : o.isCells = false) (hw : o.isWalk = false) : Kb n₀ W (W.putObj l o') :=
  ⟨belowK_b hn W l o o' hl h ho hw, fun k ks hk => by
    have hne : some k ≠ some l := fun e => by
      cases e
      rw [hk] at h
      cases h
      cases ho
    rw [(grownBy_putObj' W l o').block k (Array.getElem?_eq_some_iff.1 hk).1 hne]
    exact hk⟩
set_option maxRecDepth 100000 in
set_option maxHeartbeats 4000000 in
theorem walk_in {N' : Nat} (hp : Pdq N') (hN' : N' ≤ 256) (w : World) {tb : Nat} {P : List K} {nb mb : K → Nat} {lab : K → K} {L : List E} (h : Tw w tb P nb mb lab (gt L) L.length) (hs : Srt L) (hC : Cn P (fun k => (gt L k).isSome = true)) (hl : L.length ≤ 100000) (hle : ∀ ks : List UInt8, ks.Nodup → ks.length ≤ L.length → ks.length ≤ N')
    (k : K) (hk : k.length ≤ 100000) (m : Int) :
    CallsIn Fence.wide 9 Try.prog 19 #[ptr tb, .string (bt k), .int .i64 m] w fun r w' => ∃ v es, es = (sub L k).take m.toNat ∧ r = .returned v ∧ w'.ownsRow w.heap.size 46 2 v es.length (cellsE es) ∧ Below w.heap.size w w' := by
  refine callsIn_of_wp_marks Try.func19 rfl trivial ?_ rfl
  simp only [Try.ntmps19, List.size_toArray, List.length_cons, List.length_nil, Nat.reduceAdd, Nat.reduceSub, Array.replicate_succ, Array.replicate_zero, List.push_toArray, List.append_toArray, List.nil_append, List.cons_append]
  refine wpIn_wide.2 ?_
  generalize hQ0 : bodyPostM Fence.wide 9 Try.prog Try.f19 _ = Q0
  have HQ0 : Hid (_ = Q0) := ⟨hQ0⟩
  clear hQ0
  obtain ⟨N, hN⟩ : ∃ N, w.heap.size = N := ⟨_, rfl⟩
  have g0 := World.grownBy_alloc w (.cells #[.int .i64 m] 3) none
  have b0 := Boxed.new w 3 (.int .i64 m)
  rw [hN] at b0
  have hct := top_any _ (h.keep g0) hs k hk
  replace g0 : Hid _ := ⟨g0⟩
  replace b0 : Hid _ := ⟨b0⟩
  go_wp2_with fail
  refine hct.mono ?_
  rintro r w1 ⟨hg1, hcase⟩
  have g1 := grown_none g0.out hg1
  have b1 := b0.out.kept hg1 (by simp)
  have c1 := b1.cell
  clear hct hg1
  rcases hcase with ⟨rfl, hsub⟩ | ⟨q, hq, rfl, hsub⟩
  · rw [bt_nil]
    replace hsub : Hid _ := ⟨hsub⟩
    go_wp2
    rw [← HQ0.out]
    refine ⟨_, results_tmp rfl _ _ _, .slice none 0 0, [], by rw [hsub.out]; simp, rfl, World.ownsRow_nil _ _ _ _, ?_⟩
    exact ⟨g1.os, g1.tape, g1.output, g1.size, fun j hj => g1.block j hj (by simp)⟩
  · by_cases hm : m < 1
    · go_wp2
      rw [← HQ0.out]
      refine ⟨_, results_tmp rfl _ _ _, .slice none 0 0, [], ?_, rfl, World.ownsRow_nil _ _ _ _, ?_⟩
      · rw [show m.toNat = 0 by omega]
        simp
      · exact ⟨g1.os, g1.tape, g1.output, g1.size, fun j hj => g1.block j hj (by simp)⟩
    · have hm1 : ¬ m < 1 := hm
      have hm2 : decide (m < 1) = false := by simpa using hm
      obtain ⟨N1, hN1⟩ : ∃ N1, w1.heap.size = N1 := ⟨_, rfl⟩
      have hNN : N < N1 := by have := g1.size; have := b1.lt; omega
      have b2 := ((Boxed.new w1 41 (.slice none 0 0)).alloc (.cells #[ptr (nb q)] 56)).alloc (.cells #[.string (bt q)] 9)
      have b3 := (Boxed.new (w1.alloc (.cells #[.slice none 0 0] 41)) 56 (ptr (nb q))).alloc (.cells #[.string (bt q)] 9)
      have b4 := Boxed.new ((w1.alloc (.cells #[.slice none 0 0] 41)).alloc (.cells #[ptr (nb q)] 56)) 9 (.string (bt q))
      have b5 := ((b1.alloc (.cells #[.slice none 0 0] 41)).alloc (.cells #[ptr (nb q)] 56)).alloc (.cells #[.string (bt q)] 9)
      have g2 : w.grownBy (((w1.alloc (.cells #[.slice none 0 0] 41)).alloc (.cells #[ptr (nb q)] 56)).alloc (.cells #[.string (bt q)] 9)) none := grown_none (grown_none (grown_none g1 (World.grownBy_alloc _ _ none)) (World.grownBy_alloc _ _ none)) (World.grownBy_alloc _ _ none)
      have hsz : (((w1.alloc (.cells #[.slice none 0 0] 41)).alloc (.cells #[ptr (nb q)] 56)).alloc (.cells #[.string (bt q)] 9)).heap.size = N1 + 3 := by simp [hN1]
      simp only [World.size_alloc, hN1] at b2 b3 b4 b5
      replace hsub : Hid _ := ⟨hsub⟩
      replace b2 : Hid _ := ⟨b2⟩
      replace b3 : Hid _ := ⟨b3⟩
      replace b4 : Hid _ := ⟨b4⟩
      replace b5 : Hid _ := ⟨b5⟩
      replace g2 : Hid _ := ⟨g2⟩
      go_wp2_with fail
      refine (callsIn_wide.1 (all_in 8 _ _ _)).mono ?_
      rintro e' w' ⟨rfl, rfl⟩
      go_wp2_with fail
      obtain ⟨W0, hW0⟩ : ∃ W0, (((w1.alloc (.cells #[.slice none 0 0] 41)).alloc (.cells #[ptr (nb q)] 56)).alloc (.cells #[.string (bt q)] 9)) = W0 := ⟨_, rfl⟩
      rw [hW0] at b2 b3 b4 b5 g2 hsz ⊢
      clear hW0
      have hB0 : Below N w W0 := ⟨g2.out.os, g2.out.tape, g2.out.output, g2.out.size, fun j hj => g2.out.block j (by omega) (by simp)⟩
      have hT0 := h.keep g2.out
      have hfl : ∀ j, Fp P nb mb j → j < N := fun j hj => by rw [← hN]; exact h.tm.flt hj
      refine (wpIn_wide (n := 9)).1 ?_
      refine wpIn_rangeFunc_ownH rfl (by omega) (gf := 43) (lb := #[ptr (N1 + 1), ptr (N1 + 2)]) rfl trivial (enters_of Try.func43 (by kernel_rfl) rfl)
        (all_stops hp hN' (9 - 1) (N1 + 1) (N1 + 2) N hs hfl (fun p hp ks hn hk => hle ks hn (kids_le h.tm.cl h.tm.key hC hn hk)) hq W0 (by omega) (by omega) (by omega) b3.out.cell b4.out.cell hT0.tm) (fun a b => Kb.trans a b) (kb_b (by omega)) (Below.refl _ _) (fun _ => rfl)
        (fun (pre : List E) W => ((pre.length : Int) < m ∧ Boxed W N 3 (.int .i64 m) ∧ (∃ v, Boxed W N1 41 v ∧ W.ownsRow N 46 2 v pre.length (cellsE pre) ∧ True)) ∧ Below N w W)
        (fun c (pre : List E) W => (((pre.length : Int) = m ∧ Hid (c = .exit 0)) ∧ Boxed W N 3 (.int .i64 m) ∧ (∃ v, Boxed W N1 41 v ∧ W.ownsRow N 46 2 v pre.length (cellsE pre) ∧ True)) ∧ Below N w W)
        (OwnFrom.and (OwnFrom.and (ownFrom_pure _ _) (OwnFrom.and (Own.from (boxed_own _ _ _) _) (Own.from (holdsRow_own N N1 41 46 2 (fun (pre : List E) => pre.length) (fun pre => cellsE pre) (fun _ v => True)) _))) (ownFrom_below (by omega) (by omega)))
        (fun c => OwnFrom.and (OwnFrom.and (ownFrom_pure _ _) (OwnFrom.and (Own.from (boxed_own _ _ _) _) (Own.from (holdsRow_own N N1 41 46 2 (fun (pre : List E) => pre.length) (fun pre => cellsE pre) (fun _ v => True)) _))) (ownFrom_below (by omega) (by omega)))
        ⟨⟨by simp; omega, b5.out, ⟨_, b2.out, World.ownsRow_nil _ _ _ _, trivial⟩⟩, hB0⟩
        (fun (x : E) a' W => ∃ B, a' = { tmps := #[ptr tb, .string (bt k), .int .i64 m, undef, undef, ptr N, .slice none 0 0, ptr (nb q), .string (bt q), ptr N1, ptr B, .tuple #[ptr (nb q), .string (bt q)], ptr tb, .string (bt k), .tuple #[ptr (nb q), .string (bt q)], ptr (nb q), .string (bt q), ptr (nb q), .bool false, .bool false, .int .i64 m, .bool false, .bool false, ptr (nb q), .string (bt q), .func (.func 43) #[] #[ptr (N1 + 1), ptr (N1 + 1 + 1)], .agg #[.string (bt x.k), .string x.v], undef, undef, undef, undef, undef, undef, undef, undef, undef], defers := [] } ∧ Boxes W B 46 #[.string (bt x.k), .string x.v])
        (fun x a' _ X Y row hs hg hr => by
          obtain ⟨B, h1, h2⟩ := hs
          exact ⟨B, h1, (Own.from (boxes_own (β := Unit) B 46 fun _ => #[.string (bt x.k), .string x.v]) _) () X Y row h2 hg hr⟩)
        ?assign ?body ?done ?stop
      case assign =>
        rintro l pre x W K hI hK
        have hsW := hI.2.size
        gi_wp2
        have hga := World.grownBy_alloc W (.cells #[Value.string (bt x.k), Value.string x.v] 46) none
        refine hK _ _ ((KeepsOthers.alloc W _).from _) (Kb.grown hga (by omega)) ⟨⟨hI.1.1, hI.1.2.1.alloc _, ?_⟩, hI.2.alloc (by omega) _⟩ ⟨W.heap.size, rfl, Boxes.new W 46 _⟩
        obtain ⟨v, h1, h2, h3⟩ := hI.1.2.2
        exact ⟨v, h1.alloc _, h2.alloc _, h3⟩
      case body =>
        rintro l pre x a' W hlw _ ⟨⟨hlt, bm, ⟨v, b1, hrow, _⟩⟩, hB1⟩ ⟨B, rfl, hBx⟩ hlen
        have hsL := sub_le L q
        have c1 := b1.cell
        have f1 := b1.frozen
        have cm := bm.cell
        have e0 := hBx.c (i := 0) rfl
        have e1 := hBx.c (i := 1) rfl
        have hsW := hB1.size
        obtain ⟨v', w', hrun, hr2, hg2⟩ := run_append_e W N v pre x hrow (by omega) (by omega) 41
        obtain ⟨a1, cap1, rfl⟩ : ∃ a cap, v = .slice a pre.length cap := by
          rcases hrow.2 with ⟨rfl, h0⟩ | ⟨g, cap, cur, rfl, _⟩
          · exact ⟨none, 0, by rw [h0]⟩
          · exact ⟨_, _, rfl⟩
        obtain ⟨a2, cap2, rfl⟩ : ∃ a cap, v' = .slice a (pre.length + 1) cap := by
          rcases hr2.2 with ⟨rfl, h0⟩ | ⟨g, cap, cur, rfl, _⟩
          · omega
          · exact ⟨_, _, rfl⟩
        have ga := World.grownBy_alloc W (.cells #[.string (bt x.k), .string x.v] 46) none
        have hnr : some N1 ≠ (Value.slice a1 pre.length cap1).ownBlock := b1.not_row (by decide) hrow
        have hnm : some N ≠ (Value.slice a1 pre.length cap1).ownBlock := bm.not_row (by decide) hrow
        have bA := b1.alloc (.cells #[.string (bt x.k), .string x.v] 46)
        have b2 := bA.kept hg2 hnr
        have bmA := (bm.alloc (.cells #[.string (bt x.k), .string x.v] 46)).kept hg2 hnm
        have c2 := b2.cell
        have f2 := b2.frozen
        have cm2 := bmA.cell
        have hkr : ∀ (j : Nat) (o : Obj), (Value.slice a1 pre.length cap1).ownBlock = some j → (W.alloc (.cells #[.string (bt x.k), .string x.v] 46)).heap[j]? = some o → o.isCells = true := fun j o e ho => by
          rcases hrow.2 with ⟨e1, _⟩ | ⟨g, cap, cur, e1, _, hgb, _⟩
          · rw [e1] at e; cases e
          · rw [e1] at e
            have e3 : g = j := by simpa [Value.ownBlock] using e
            subst e3
            rw [ga.block g (Array.getElem?_eq_some_iff.1 hgb).1 (by simp), hgb] at ho
            cases ho
            rfl
        have hKO : KeepsOthers W w' := (KeepsOthers.alloc W _).trans (KeepsOthers.of_grownBy hg2 hkr)
        have hB2 : Below N w w' := (hB1.alloc (by omega) _).grown hg2 (by simp; omega) (fun j e => (hrow.lt j e).1)
        have hK2 : Kb N W w' := (Kb.grown ga (by omega)).row (hrow.alloc _) (by decide) (Nat.le_refl _) hg2 (by simp; omega)
        have hr3 := hr2.kept (grown_setCell w' ⟨N1, 0, none⟩ (.slice a2 (pre.length + 1) cap2)) (.inr (b2.not_row (by decide) hr2).symm)
        have hfin : Hid (KeepsOthers W (w'.setCell ⟨N1, 0, none⟩ (.slice a2 (pre.length + 1) cap2)) ∧ Kb N W (w'.setCell ⟨N1, 0, none⟩ (.slice a2 (pre.length + 1) cap2)) ∧ Boxed (w'.setCell ⟨N1, 0, none⟩ (.slice a2 (pre.length + 1) cap2)) N 3 (.int .i64 m) ∧ (∃ v, Boxed (w'.setCell ⟨N1, 0, none⟩ (.slice a2 (pre.length + 1) cap2)) N1 41 v ∧ (w'.setCell ⟨N1, 0, none⟩ (.slice a2 (pre.length + 1) cap2)).ownsRow N 46 2 v (pre ++ [x]).length (cellsE (pre ++ [x])) ∧ True) ∧ Below N w (w'.setCell ⟨N1, 0, none⟩ (.slice a2 (pre.length + 1) cap2))) :=
          ⟨hKO.trans (KeepsOthers.setCell _ _ _), hK2.setCell b2 (by decide) (by omega) _ _, bmA.other (by omega) _, ⟨_, b2.set _, by rw [List.length_append]; exact hr3, trivial⟩, hB2.setCell (p := ⟨N1, 0, none⟩) (by show N ≤ N1; omega) _⟩
        clear hrow b1 bA ga hkr hg2 hKO hB2 hK2 hr3 hr2
        by_cases hb : (pre.length : Int) + 1 = m
        · have hbd : decide ((pre.length : Int) + 1 = m) = true := by simpa using hb
          gi_wp2_with (first
            | (gi_at_builtin; refine wpListIn_append_run _ rfl _ _ 41 rfl _ _ rfl rfl hrun ?_)
            | gi_in)
          refine ⟨hfin.out.1.from _, ⟨⟨by simp; omega, ⟨rfl⟩⟩, hfin.out.2.2.1, hfin.out.2.2.2.1⟩, hfin.out.2.2.2.2⟩
        · have hbd : decide ((pre.length : Int) + 1 = m) = false := by simpa using hb
          gi_wp2_with (first
            | (gi_at_builtin; refine wpListIn_append_run _ rfl _ _ 41 rfl _ _ rfl rfl hrun ?_)
            | gi_in)
          refine ⟨hfin.out.1.from _, hfin.out.2.1, ⟨by simp; omega, hfin.out.2.2.1, hfin.out.2.2.2.1⟩, hfin.out.2.2.2.2⟩
      case done =>
        rintro D ys W hD rfl ⟨⟨hlt, bm, ⟨v, b1, hrow, _⟩⟩, hB1⟩ hK
        have c1 := b1.cell
        have hes : Hid (sub L q = (sub L k).take m.toNat) := ⟨by rw [hsub.out, List.take_of_length_le (by omega)]⟩
        go_wp2
        rw [← HQ0.out]
        refine ⟨by simp, .inl ⟨_, _, rfl, run_takeDeferred hK, ?_⟩⟩
        refine ⟨_, results_tmp rfl _ _ _, v, sub L q, hes.out, rfl, ?_, ?_⟩
        · rw [hN]
          exact ownsRow_putObj hrow _ hK rfl
        · rw [hN]
          exact hB1.trans (belowK_b (w := W0) (by omega) W D _ _ hD hK rfl rfl)
      case stop =>
        rintro D c pre W hD hpre ⟨⟨⟨hlt, hcx⟩, bm, ⟨v, b1, hrow, _⟩⟩, hB1⟩ hK
        have c1 := b1.cell
        have hes : Hid (pre = (sub L k).take m.toNat) := ⟨by
          rw [hsub.out, List.prefix_iff_eq_take.1 hpre, ← hlt]
          simp⟩
        rw [hcx.out]
        refine wpIn_wide.2 ?_
        go_wp2
        rw [← HQ0.out]
        refine ⟨by simp, .inl ⟨_, _, rfl, run_takeDeferred hK, ?_⟩⟩
        refine ⟨_, results_tmp rfl _ _ _, v, pre, hes.out, rfl, ?_, ?_⟩
        · rw [hN]
          exact ownsRow_putObj hrow _ hK rfl
        · rw [hN]
          exact hB1.trans (belowK_b (w := W0) (by omega) W D _ _ hD hK rfl rfl)
/-- Trie.Walk. -/
theorem walk_any {N' : Nat} (hp : Pdq N') (hN' : N' ≤ 256) (w : World) {S : Nat → Prop} {tb : Nat} {L : List E} (h : Tri S w tb L) (hle : ∀ ks : List UInt8, ks.Nodup → ks.length ≤ L.length → ks.length ≤ N')
    (k : K) (hk : k.length ≤ 100000) (m : Int) :
    Calls Try.prog 19 #[ptr tb, .string (bt k), .int .i64 m] w fun r w' => ∃ v es, es = (sub L k).take m.toNat ∧ r = .returned v ∧ w'.ownsRow w.heap.size 46 2 v es.length (cellsE es) ∧ w.grownBy w' none := by
  obtain ⟨P, nb, mb, lab, h1, h2, h3⟩ := h.ex
  refine (callsIn_wide.1 (walk_in hp hN' w h1 h.srt h2 h.len hle k hk m)).mono ?_
  rintro r w' ⟨v, es, h4, h5, h6, h7⟩
  exact ⟨v, es, h4, h5, h6, below_grown h7⟩
set_option maxRecDepth 100000 in
set_option maxHeartbeats 1000000 in
theorem top_nil (w : World) (k : K) : Calls Try.prog 33 #[.pointer none, .string (bt k)] w fun r w' => r = .returned (.tuple #[.pointer none, .string (bt k)]) ∧ w.grownBy w' none := by
  go_enter Try.func33, Try.ntmps33
  go_wp2_with fail
  refine (end_nil w k).mono ?_
  rintro r w1 ⟨rfl, hg⟩
  rw [bt_nil]
  go_wp2
  go_ret2
  exact ⟨rfl, hg⟩
set_option maxRecDepth 100000 in
set_option maxHeartbeats 1000000 in
theorem walknil_in (w : World) (k : K) (m : Int) : CallsIn Fence.wide 9 Try.prog 19 #[.pointer none, .string (bt k), .int .i64 m] w fun r w' => r = .returned (.slice none 0 0) ∧ w.grownBy w' none := by
  refine callsIn_of_wp_marks Try.func19 rfl trivial ?_ rfl
  simp only [Try.ntmps19, List.size_toArray, List.length_cons, List.length_nil, Nat.reduceAdd, Nat.reduceSub, Array.replicate_succ, Array.replicate_zero, List.push_toArray, List.append_toArray, List.nil_append, List.cons_append]
  refine wpIn_wide.2 ?_
  generalize hQ0 : bodyPostM Fence.wide 9 Try.prog Try.f19 _ = Q0
  have HQ0 : Hid (_ = Q0) := ⟨hQ0⟩
  clear hQ0
  have g0 := World.grownBy_alloc w (.cells #[.int .i64 m] 3) none
  replace g0 : Hid _ := ⟨g0⟩
  go_wp2_with fail
  refine (top_nil _ k).mono ?_
  rintro r w1 ⟨rfl, hg1⟩
  have g1 := grown_none g0.out hg1
  go_wp2
  rw [← HQ0.out]
  exact ⟨_, results_tmp rfl _ _ _, rfl, g1⟩
theorem walk_nil (w : World) (k : K) (m : Int) : Calls Try.prog 19 #[.pointer none, .string (bt k), .int .i64 m] w fun r w' => r = .returned (.slice none 0 0) ∧ w.grownBy w' none := callsIn_wide.1 (walknil_in w k m)
end Go.Proofs.Ytpcdmjalfabbmaa
