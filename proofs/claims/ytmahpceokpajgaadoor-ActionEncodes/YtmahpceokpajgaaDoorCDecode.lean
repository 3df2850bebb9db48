/- What codec.Decode returns, for every slice of bytes. -/
import Derived.Test.YtmahpceokpajgaaDoorCDecs
namespace Go.Proofs.YtmahpceokpajgaaDoor.C
open Go.RowKit Go.Shelf Plain Go.IntWalk
set_option linter.unusedVariables false
attribute [local go_sem] Oper.semAt_some

/-- The slice v holds the list that has been gathered. -/
def Lst' {n₀ : Nat} {W₀ : World} (s : Nat) (v : Value) (pre : List (FB n₀ W₀)) (W : World) : Prop :=
  ∃ xs, W.ownsRow s 55 2 v xs.length (cellsL xs) ∧ (∀ x ∈ xs, okC s W x) ∧ xs.map said = (fsB pre).map said

/-- A round that ends the loop: what came last is no field, or one too many. -/
def Bad {n₀ : Nat} {W₀ : World} (pre : List (FB n₀ W₀)) : Prop := ∃ ini x, pre = ini ++ [x] ∧ (∀ p ∈ ini, p.1.2 = true) ∧ (x.1.2 = false ∨ (x.1.2 = true ∧ ini.length = 200))

theorem undrew {W W2 : World} (hB : Below W.drew.heap.size W.drew W2) (hK : KeepsOthers W.drew W2) : Below W.heap.size W W2 ∧ KeepsOthers W W2 :=
  ⟨((Below.refl _ W).drew).trans hB, (KeepsOthers.drew W).trans hK⟩
theorem cells_new (W : World) (x : Fd) : ∀ j u, (cellsF x)[j]? = some u → (W.alloc (.cells #[.int .i64 x.tag, .slice x.a x.len x.cap] 55)).cell? ((⟨W.heap.size, 0, none⟩ : Addr).add j) = some u := by
  intro j u hj
  have hh := heap_alloc_new W (.cells #[.int .i64 x.tag, .slice x.a x.len x.cap] 55)
  have hadd : (⟨W.heap.size, 0, none⟩ : Addr).add j = ⟨W.heap.size, 0 + j, none⟩ := by unfold Addr.add; split <;> simp_all
  rw [hadd, Joins.cell_of_block hh]
  match j, hj with
  | 0, hj => exact hj
  | 1, hj => exact hj
  | j + 2, hj => simp [cellsF] at hj
theorem wp_append_field {o : Oper} {a : Act} {w : World} {K : Act → World → Prop} {Q : Exit → Act → World → Prop} (sl x : Operand) (hop : o.op = Op.call { callee := Callee.builtin Builtin.append, args := #[sl, x], argTypes := #[53, 53] })
    (v : Value) (ad : Addr) (hs : a.eval sl = v) (hx : a.eval x = .slice (some ad) 1 1) (s : Nat) (xs : List Fd) (y : Fd) (hown : w.ownsRow s 55 2 v xs.length (cellsL xs)) (hc : ∀ j u, (cellsF y)[j]? = some u → w.cell? (ad.add j) = some u) (hlen : xs.length ≤ 4096) (hb : s ≤ w.heap.size)
    (hK : ∀ v' w', w'.ownsRow s 55 2 v' (xs.length + 1) (cellsL (xs ++ [y])) → w.grownBy w' v.ownBlock → (∀ k, v'.ownBlock = some k → v.ownBlock = some k ∨ w.heap.size ≤ k) → K (a.put o.dst v') w') : o.wp Tryd.prog a w K Q := by
  obtain ⟨v', w', hrun, h1, h2, h3⟩ := run_append_field w s o.type v xs y hown ad hc hlen hb
  unfold Oper.wp
  simp [execOp, hop, resolve, invoke, builtin, hs, hx, hrun, Result.andThen]
  exact hK v' w' h1 h2 h3
theorem lst_end {n₀ : Nat} {W₀ : World} {s D : Nat} {ys : List (FB n₀ W₀)} {W : World} {v : Value} {xs : List Fd} {u1 u2 : Value} {o : Obj} (hv : Boxed W (s + 1 + 1) 53 v) (hrr : W.ownsRow s 55 2 v xs.length (cellsL xs)) (hok : ∀ x ∈ xs, okC s W x) (hsd : xs.map said = (fsB ys).map said) (bR : Boxed W s 53 u1) (bE : Boxed W (s + 1) 26 u2) (v1 v2 : Value)
    (hK : ((W.setCell ⟨s, 0, none⟩ v1).setCell ⟨s + 1, 0, none⟩ v2).heap[D]? = some (.deferred (some []))) : Lst' s v ys (((W.setCell ⟨s, 0, none⟩ v1).setCell ⟨s + 1, 0, none⟩ v2).putObj D o) := by
  have h1 := hrr.kept (grownBy_setCell' W s v1) (.inr (bR.not_row (by decide) hrr).symm)
  have b1 := bE.other (B' := s) (by omega) v1
  have h2 := h1.kept (grownBy_setCell' _ (s + 1) v2) (.inr (b1.not_row (by decide) h1).symm)
  refine ⟨xs, ownsRow_putObj h2 _ hK rfl, fun x hx => ?_, hsd⟩
  have k1 := (hok x hx).kept (grownBy_setCell' W s v1) (fun k e c f h => by cases e; rw [show W.heap[s]? = _ from bR] at h; simp at h)
  have k2 := k1.kept (grownBy_setCell' _ (s + 1) v2) (fun k e c f h => by cases e; rw [show (W.setCell ⟨s, 0, none⟩ v1).heap[s + 1]? = _ from b1] at h; simp at h)
  exact k2.kept (grownBy_putObj' _ D o) (fun k e c f h => by cases e; rw [hK] at h; cases h)

set_option maxRecDepth 100000 in
set_option maxHeartbeats 8000000 in
theorem decode_t (a : Option Addr) (len cap : Nat) (zs : List Int) (w : World) (hz : Bts w.heap.size w (.slice a len cap) zs) :
    CallsIn Fence.wide 9 Tryd.prog 27 #[.slice a len cap] w fun e W' => ((∃ v ys, e = .returned (.tuple #[v, .int .i64 0]) ∧ Part (n₀ := w.heap.size) (W := w) zs ys [] ∧ Lst' w.heap.size v ys W' ∧ ys.length ≤ 200) ∨ (e = .returned (.tuple #[.slice none 0 0, .int .i64 12]) ∧ ∃ ys : List (FB w.heap.size w), Bad ys ∧ ((∃ rest, Part zs ys rest) ∨ Ends zs ys))) ∧ Below w.heap.size w W' := by
  have hfol : Tryd.prog.follows .mixedOrders = true := by kernel_rfl
  refine callsIn_of_wp_marks Tryd.func27 rfl trivial ?_ rfl
  simp only [Tryd.ntmps27, List.size_toArray, List.length_cons, List.length_nil, Nat.reduceAdd, Nat.reduceSub, Array.replicate_succ, Array.replicate_zero, List.push_toArray, List.append_toArray, List.nil_append, List.cons_append]
  gi_wp2_with fail
  refine ⟨trivial, ?_⟩
  refine (fields_in 8 _ _ _ _).mono ?_
  rintro e w' ⟨rfl, rfl⟩
  gi_wp2_with fail
  have bR := ((((Boxed.new w 53 (.slice none 0 0)).alloc (.cells #[.int .i64 0] 26)).alloc (.cells #[.slice none 0 0] 53)).alloc (.cells #[.slice a len cap] 23))
  have bE := (((Boxed.new (w.alloc (.cells #[.slice none 0 0] 53)) 26 (.int .i64 0)).alloc (.cells #[.slice none 0 0] 53)).alloc (.cells #[.slice a len cap] 23))
  have bB := ((Boxed.new ((w.alloc (.cells #[.slice none 0 0] 53)).alloc (.cells #[.int .i64 0] 26)) 53 (.slice none 0 0)).alloc (.cells #[.slice a len cap] 23))
  have bV := Boxed.new (((w.alloc (.cells #[.slice none 0 0] 53)).alloc (.cells #[.int .i64 0] 26)).alloc (.cells #[.slice none 0 0] 53)) 23 (.slice a len cap)
  simp only [World.size_alloc] at bE bB bV
  have hB0 : Below w.heap.size w ((((w.alloc (.cells #[.slice none 0 0] 53)).alloc (.cells #[.int .i64 0] 26)).alloc (.cells #[.slice none 0 0] 53)).alloc (.cells #[.slice a len cap] 23)) := ((((Below.refl _ w).alloc (Nat.le_refl _) _).alloc (by simp) _).alloc (by simp; omega) _).alloc (by simp; omega) _
  have hsz : ((((w.alloc (.cells #[.slice none 0 0] 53)).alloc (.cells #[.int .i64 0] 26)).alloc (.cells #[.slice none 0 0] 53)).alloc (.cells #[.slice a len cap] 23)).heap.size = w.heap.size + 4 := by simp
  obtain ⟨W0, hW0⟩ : ∃ W0, ((((w.alloc (.cells #[.slice none 0 0] 53)).alloc (.cells #[.int .i64 0] 26)).alloc (.cells #[.slice none 0 0] 53)).alloc (.cells #[.slice a len cap] 23)) = W0 := ⟨_, rfl⟩
  rw [hW0] at bR bE bB bV hB0 hsz ⊢
  clear hW0
  have hL0 : Lst (n₀ := w.heap.size) (W₀ := w) w.heap.size (w.heap.size + 1 + 1) [] W0 := ⟨_, [], bB, World.ownsRow_nil _ _ _ _, (fun x hx => by cases hx), rfl, fun p hp => by cases hp⟩
  refine wpIn_rangeFunc_ownH rfl (by omega) (gf := 55) (lb := #[.pointer (some ⟨w.heap.size + 1 + 1 + 1, 0, none⟩)]) rfl trivial (enters_of Tryd.func55 (by kernel_rfl) rfl)
    (fields_stops (9 - 1) (by omega) (w.heap.size + 1 + 1 + 1) w.heap.size (w.heap.size + 1 + 1) w rfl _ zs (by have := hz.len; have := hz.len_le; omega) W0 (by omega) (by omega) hB0 bV.cell (hz.below hB0) hL0.wf) (fun h k => Kept.trans h k) (Kept.putObj (by omega)) (Below.refl _ _) (fun _ => rfl)
    (fun (pre : List (FB w.heap.size w)) W => ((Lst w.heap.size (w.heap.size + 1 + 1) pre W ∧ pre.length ≤ 200) ∧ Boxed W w.heap.size 53 (.slice none 0 0)) ∧ Boxed W (w.heap.size + 1) 26 (.int .i64 0) ∧ Below w.heap.size w W)
    (fun c (pre : List (FB w.heap.size w)) W => ((c = .ret ∧ Bad pre) ∧ Boxed W w.heap.size 53 (.slice none 0 0)) ∧ Boxed W (w.heap.size + 1) 26 (.int .i64 12) ∧ Below w.heap.size w W)
    (OwnFrom.and (OwnFrom.and (OwnFrom.and (Own.from (Lst.own _ _) _) (ownFrom_pure _ _)) (Own.from (boxed_own _ _ _) _)) (OwnFrom.and (Own.from (boxed_own _ _ _) _) (ownFrom_below (Nat.le_refl _) (by omega))))
    (fun c => OwnFrom.and (OwnFrom.and (ownFrom_pure _ _) (Own.from (boxed_own _ _ _) _)) (OwnFrom.and (Own.from (boxed_own _ _ _) _) (ownFrom_below (Nat.le_refl _) (by omega))))
    ⟨⟨⟨hL0, by simp⟩, bR⟩, bE, hB0⟩
    (fun (x : FB w.heap.size w) a' W => ∃ Bx, w.heap.size + 1 + 1 < Bx ∧ W.heap[Bx]? = some (.cells #[.int .i64 x.1.1.tag, .slice x.1.1.a x.1.1.len x.1.1.cap] 55 (0, 0)) ∧ a' = { tmps := #[.slice a len cap, undef, .pointer (some ⟨w.heap.size, 0, none⟩), .pointer (some ⟨w.heap.size + 1, 0, none⟩), .pointer (some ⟨w.heap.size + 1 + 1, 0, none⟩), .pointer (some ⟨Bx, 0, none⟩), .bool x.1.2, .slice a len cap, .func (.func 55) #[] #[.pointer (some ⟨w.heap.size + 1 + 1 + 1, 0, none⟩)], .agg #[.int .i64 x.1.1.tag, .slice x.1.1.a x.1.1.len x.1.1.cap], .bool x.1.2, undef, undef, undef, undef, undef, undef, undef, undef, undef, undef, undef, undef, undef, undef, undef, undef, undef], defers := [] })
    (fun x a' _ X Y row hs hg hr => by
      obtain ⟨Bx, h1, h2, h3⟩ := hs
      refine ⟨Bx, h1, (hg.block Bx (Array.getElem?_eq_some_iff.1 h2).1 (fun e => ?_)).trans h2, h3⟩
      obtain ⟨_, o, ho, hc⟩ := hr Bx e.symm
      rw [h2] at ho; cases ho; cases hc)
    ?assign ?body ?done ?stop
  case assign =>
    rintro l pre x W K ⟨⟨⟨hL, hpl⟩, bR1⟩, bE1, hB1⟩ hK
    obtain ⟨v, xs, hv, hrr, hok, hsd, hp⟩ := hL
    gi_wp2
    exact hK _ _ ((KeepsOthers.alloc _ _).from _) (Kept.of_below ((Below.refl _ W).alloc (Nat.le_refl _) _) hB1.size) ⟨⟨⟨Lst.own _ _ pre W _ none ⟨v, xs, hv, hrr, hok, hsd, hp⟩ (World.grownBy_alloc _ _ _) (fun _ e => by cases e), hpl⟩, bR1.alloc _⟩, bE1.alloc _, hB1.alloc hB1.size _⟩ ⟨W.heap.size, hv.lt, heap_alloc_new W _, rfl⟩
  case body =>
    rintro l pre x a' W hlw _ ⟨⟨⟨hL, hpl⟩, bR1⟩, bE1, hB1⟩ ⟨Bx, hBx, bX, rfl⟩ hlt
    obtain ⟨v, xs, hv, hrr, hok, hsd, hp⟩ := hL
    have hxl1 : xs.length ≤ pre.length := by have := congrArg List.length hsd; simp [fsB] at this; omega
    have hxl2 : pre.length ≤ xs.length := by have := congrArg List.length hsd; simp [fsB] at this; omega
    have cR := bR1.cell
    have fR := bR1.frozen
    have cE := bE1.cell
    have fE := bE1.frozen
    have cv := hv.cell
    have cX0 := cell_two_0 bX
    have cX1 := cell_two_1 bX
    have hsW := hB1.size
    have hBxl := (Array.getElem?_eq_some_iff.1 bX).1
    by_cases hx2 : x.1.2 = true
    · rw [hx2]
      by_cases h200 : pre.length = 200
      · obtain ⟨g, c, rfl⟩ := ownsRow_pos hrr (by omega)
        have h2 : ((xs.length : Int) == 200) = true := by simp; omega
        gi_wp2
        exact ⟨((KeepsOthers.setCell _ _ _).trans (KeepsOthers.setCell _ _ _)).from _, ⟨⟨rfl, pre, x, rfl, hp, .inr ⟨hx2, h200⟩⟩, (bR1.set _).other (by omega) _⟩, (bE1.other (B' := w.heap.size) (by omega) _).set _, (hB1.setCell (p := ⟨w.heap.size, 0, none⟩) (Nat.le_refl _) _).setCell (p := ⟨w.heap.size + 1, 0, none⟩) (by simp) _⟩
      · have hzl : x.1.1.zs.length ≤ 140737488355328 := by have := rightB_true (x.2 hx2).2; omega
        have hbx : Bts w.heap.size W.drew (.slice x.1.1.a x.1.1.len x.1.1.cap) x.1.1.zs := ((x.2 hx2).1.1.below hB1).below (Below.refl _ W).drew
        have h2 : ((xs.length : Int) == 200) = false := by simp; omega
        rcases Joins.ownsRow_forms hrr with ⟨rfl, h0⟩ | ⟨g, c, rfl⟩
        · clear h0
          gi_wp2_with fail
          refine region_round hfol (by kernel_rfl) (by rintro ⟨a, w, h⟩; exact h) ?_
          change wpAny _ _ _ _ _ _ _ (World.drew _)
          refine wpAny_take (i := 1) (v := ?_) rfl (by kernel_rfl) (by kernel_rfl) (by kernel_rfl) (fun _ _ _ h => h) (Or.inl ⟨by rfl, ?_⟩) ?_
          rotate_left
          · intro w; go_simp; with_reducible rfl
          refine wpAny_take (i := 3) (v := ?_) rfl (by kernel_rfl) (by kernel_rfl) (by kernel_rfl) (fun _ _ _ h => h) (Or.inl ⟨by rfl, ?_⟩) ?_
          rotate_left
          · intro w; go_simp; with_reducible rfl
          refine wpAny_ready (rs := [0, 2, 4]) (by kernel_rfl) (by simp) ?_
          refine AllReady.cons rfl (fun K hK => ?_) (AllReady.cons rfl (fun K hK => ?_) (AllReady.cons rfl (fun K hK => ?_) AllReady.nil))
          · go_simp
            refine hK _ _ ?_
            clear hK K
            refine wpAny_ready (rs := [2, 4]) (by kernel_rfl) (by simp) ?_
            refine AllReady.cons rfl (fun K hK => ?_) (AllReady.cons rfl (fun K hK => ?_) AllReady.nil)
            · go_simp
              refine hK _ _ ?_
              clear hK K
              refine wpAny_ready (rs := [4]) (by kernel_rfl) (by simp) ?_
              refine AllReady.cons rfl (fun K hK => ?_) AllReady.nil
              go_simp
              refine hK _ _ ?_
              clear hK K
              refine wpAny_ready (rs := [5]) (by kernel_rfl) (by simp) ?_
              refine AllReady.cons rfl (fun K hK => ?_) AllReady.nil
              go_simp
              go_wp2_with (go_at_call 42; go_must (refine (callsIn_wide.1 (clone_in Fence.wide 0 trivial rfl w.heap.size x.1.1.a x.1.1.len x.1.1.cap x.1.1.zs _ hbx hzl hsW)).mono ?_); rintro e W2 ⟨a2, c2, rfl, hrow2, hB2d, hK2d⟩; obtain ⟨hB2, hK2⟩ := undrew hB2d hK2d; clear hB2d hK2d; have cv2 := (boxed_below hv hB2).cell; have cX02 := cell_two_0 ((hB2.block Bx hBxl).trans bX))
              refine wpAny_ready (rs := [6]) (by kernel_rfl) (by simp) ?_
              refine AllReady.cons rfl (fun K hK => ?_) AllReady.nil
              go_simp
              refine hK _ _ ?_
              clear hK K
              refine wpAny_ready (rs := [7]) (by kernel_rfl) (by simp) ?_
              refine AllReady.cons rfl (fun K hK => ?_) AllReady.nil
              go_simp
              refine hK _ _ ?_
              clear hK K
              have cv3 := cell_kept_alloc cv2 (.cells #[.int .i64 x.1.1.tag, .slice a2 x.1.1.zs.length c2] 55)
              refine wpAny_ready (rs := [8]) (by kernel_rfl) (by simp) ?_
              refine AllReady.cons rfl (fun K hK => ?_) AllReady.nil
              rw [if_pos (by rfl)]
              refine wp_append_field (.tmp 18) (.tmp 25) rfl _ _ rfl rfl w.heap.size xs ⟨x.1.1.tag, a2, x.1.1.zs.length, c2, x.1.1.zs⟩ ((hrr.kept (below_grown hB2) (by simp [Value.ownBlock])).alloc _) (cells_new W2 _) (by omega) (by have := hB2.size; simp; omega) ?_
              intro v5 w5 hr5 hg5 hf5
              obtain ⟨k1, k2, k3, k4, hv5⟩ := dec_step (y := x) (by omega) hsW hv hrr hok hsd hp hx2 hB2 hK2 hrow2 hr5 hg5 hf5
              obtain ⟨g5, c5, rfl⟩ := ownsRow_pos hr5 (by omega)
              have cv5 := hv5.cell
              have fv5 := hv5.frozen
              refine hK _ _ ?_
              clear hK K
              refine wpAny_ready (rs := [9]) (by kernel_rfl) (by simp) ?_
              refine AllReady.cons rfl (fun K hK => ?_) AllReady.nil
              go_simp
              refine hK _ _ ?_
              clear hK K
              refine wpAny_done (by kernel_rfl) ?_ _
              exact ⟨k1.from _, k2, ⟨⟨⟨k3, by simp; omega⟩, k4 _ _ _ bR1 (by omega) (by decide)⟩, k4 _ _ _ bE1 (by omega) (by decide), hB1.trans k2.1⟩⟩
            · go_simp
              refine hK _ _ ?_
              clear hK K
              refine wpAny_ready (rs := [2, 5]) (by kernel_rfl) (by simp) ?_
              refine AllReady.cons rfl (fun K hK => ?_) (AllReady.cons rfl (fun K hK => ?_) AllReady.nil)
              · go_simp
                refine hK _ _ ?_
                clear hK K
                refine wpAny_ready (rs := [5]) (by kernel_rfl) (by simp) ?_
                refine AllReady.cons rfl (fun K hK => ?_) AllReady.nil
                go_simp
                go_wp2_with (go_at_call 42; go_must (refine (callsIn_wide.1 (clone_in Fence.wide 0 trivial rfl w.heap.size x.1.1.a x.1.1.len x.1.1.cap x.1.1.zs _ hbx hzl hsW)).mono ?_); rintro e W2 ⟨a2, c2, rfl, hrow2, hB2d, hK2d⟩; obtain ⟨hB2, hK2⟩ := undrew hB2d hK2d; clear hB2d hK2d; have cv2 := (boxed_below hv hB2).cell; have cX02 := cell_two_0 ((hB2.block Bx hBxl).trans bX))
                refine wpAny_ready (rs := [6]) (by kernel_rfl) (by simp) ?_
                refine AllReady.cons rfl (fun K hK => ?_) AllReady.nil
                go_simp
                refine hK _ _ ?_
                clear hK K
                refine wpAny_ready (rs := [7]) (by kernel_rfl) (by simp) ?_
                refine AllReady.cons rfl (fun K hK => ?_) AllReady.nil
                go_simp
                refine hK _ _ ?_
                clear hK K
                have cv3 := cell_kept_alloc cv2 (.cells #[.int .i64 x.1.1.tag, .slice a2 x.1.1.zs.length c2] 55)
                refine wpAny_ready (rs := [8]) (by kernel_rfl) (by simp) ?_
                refine AllReady.cons rfl (fun K hK => ?_) AllReady.nil
                rw [if_pos (by rfl)]
                refine wp_append_field (.tmp 18) (.tmp 25) rfl _ _ rfl rfl w.heap.size xs ⟨x.1.1.tag, a2, x.1.1.zs.length, c2, x.1.1.zs⟩ ((hrr.kept (below_grown hB2) (by simp [Value.ownBlock])).alloc _) (cells_new W2 _) (by omega) (by have := hB2.size; simp; omega) ?_
                intro v5 w5 hr5 hg5 hf5
                obtain ⟨k1, k2, k3, k4, hv5⟩ := dec_step (y := x) (by omega) hsW hv hrr hok hsd hp hx2 hB2 hK2 hrow2 hr5 hg5 hf5
                obtain ⟨g5, c5, rfl⟩ := ownsRow_pos hr5 (by omega)
                have cv5 := hv5.cell
                have fv5 := hv5.frozen
                refine hK _ _ ?_
                clear hK K
                refine wpAny_ready (rs := [9]) (by kernel_rfl) (by simp) ?_
                refine AllReady.cons rfl (fun K hK => ?_) AllReady.nil
                go_simp
                refine hK _ _ ?_
                clear hK K
                refine wpAny_done (by kernel_rfl) ?_ _
                exact ⟨k1.from _, k2, ⟨⟨⟨k3, by simp; omega⟩, k4 _ _ _ bR1 (by omega) (by decide)⟩, k4 _ _ _ bE1 (by omega) (by decide), hB1.trans k2.1⟩⟩
              · go_simp
                go_wp2_with (go_at_call 42; go_must (refine (callsIn_wide.1 (clone_in Fence.wide 0 trivial rfl w.heap.size x.1.1.a x.1.1.len x.1.1.cap x.1.1.zs _ hbx hzl hsW)).mono ?_); rintro e W2 ⟨a2, c2, rfl, hrow2, hB2d, hK2d⟩; obtain ⟨hB2, hK2⟩ := undrew hB2d hK2d; clear hB2d hK2d; have cv2 := (boxed_below hv hB2).cell; have cX02 := cell_two_0 ((hB2.block Bx hBxl).trans bX))
                refine wpAny_ready (rs := [2]) (by kernel_rfl) (by simp) ?_
                refine AllReady.cons rfl (fun K hK => ?_) AllReady.nil
                go_simp
                refine hK _ _ ?_
                clear hK K
                refine wpAny_ready (rs := [6]) (by kernel_rfl) (by simp) ?_
                refine AllReady.cons rfl (fun K hK => ?_) AllReady.nil
                go_simp
                refine hK _ _ ?_
                clear hK K
                refine wpAny_ready (rs := [7]) (by kernel_rfl) (by simp) ?_
                refine AllReady.cons rfl (fun K hK => ?_) AllReady.nil
                go_simp
                refine hK _ _ ?_
                clear hK K
                have cv3 := cell_kept_alloc cv2 (.cells #[.int .i64 x.1.1.tag, .slice a2 x.1.1.zs.length c2] 55)
                refine wpAny_ready (rs := [8]) (by kernel_rfl) (by simp) ?_
                refine AllReady.cons rfl (fun K hK => ?_) AllReady.nil
                rw [if_pos (by rfl)]
                refine wp_append_field (.tmp 18) (.tmp 25) rfl _ _ rfl rfl w.heap.size xs ⟨x.1.1.tag, a2, x.1.1.zs.length, c2, x.1.1.zs⟩ ((hrr.kept (below_grown hB2) (by simp [Value.ownBlock])).alloc _) (cells_new W2 _) (by omega) (by have := hB2.size; simp; omega) ?_
                intro v5 w5 hr5 hg5 hf5
                obtain ⟨k1, k2, k3, k4, hv5⟩ := dec_step (y := x) (by omega) hsW hv hrr hok hsd hp hx2 hB2 hK2 hrow2 hr5 hg5 hf5
                obtain ⟨g5, c5, rfl⟩ := ownsRow_pos hr5 (by omega)
                have cv5 := hv5.cell
                have fv5 := hv5.frozen
                refine hK _ _ ?_
                clear hK K
                refine wpAny_ready (rs := [9]) (by kernel_rfl) (by simp) ?_
                refine AllReady.cons rfl (fun K hK => ?_) AllReady.nil
                go_simp
                refine hK _ _ ?_
                clear hK K
                refine wpAny_done (by kernel_rfl) ?_ _
                exact ⟨k1.from _, k2, ⟨⟨⟨k3, by simp; omega⟩, k4 _ _ _ bR1 (by omega) (by decide)⟩, k4 _ _ _ bE1 (by omega) (by decide), hB1.trans k2.1⟩⟩
          · go_simp
            refine hK _ _ ?_
            clear hK K
            refine wpAny_ready (rs := [0, 4]) (by kernel_rfl) (by simp) ?_
            refine AllReady.cons rfl (fun K hK => ?_) (AllReady.cons rfl (fun K hK => ?_) AllReady.nil)
            · go_simp
              refine hK _ _ ?_
              clear hK K
              refine wpAny_ready (rs := [4]) (by kernel_rfl) (by simp) ?_
              refine AllReady.cons rfl (fun K hK => ?_) AllReady.nil
              go_simp
              refine hK _ _ ?_
              clear hK K
              refine wpAny_ready (rs := [5]) (by kernel_rfl) (by simp) ?_
              refine AllReady.cons rfl (fun K hK => ?_) AllReady.nil
              go_simp
              go_wp2_with (go_at_call 42; go_must (refine (callsIn_wide.1 (clone_in Fence.wide 0 trivial rfl w.heap.size x.1.1.a x.1.1.len x.1.1.cap x.1.1.zs _ hbx hzl hsW)).mono ?_); rintro e W2 ⟨a2, c2, rfl, hrow2, hB2d, hK2d⟩; obtain ⟨hB2, hK2⟩ := undrew hB2d hK2d; clear hB2d hK2d; have cv2 := (boxed_below hv hB2).cell; have cX02 := cell_two_0 ((hB2.block Bx hBxl).trans bX))
              refine wpAny_ready (rs := [6]) (by kernel_rfl) (by simp) ?_
              refine AllReady.cons rfl (fun K hK => ?_) AllReady.nil
              go_simp
              refine hK _ _ ?_
              clear hK K
              refine wpAny_ready (rs := [7]) (by kernel_rfl) (by simp) ?_
              refine AllReady.cons rfl (fun K hK => ?_) AllReady.nil
              go_simp
              refine hK _ _ ?_
              clear hK K
              have cv3 := cell_kept_alloc cv2 (.cells #[.int .i64 x.1.1.tag, .slice a2 x.1.1.zs.length c2] 55)
              refine wpAny_ready (rs := [8]) (by kernel_rfl) (by simp) ?_
              refine AllReady.cons rfl (fun K hK => ?_) AllReady.nil
              rw [if_pos (by rfl)]
              refine wp_append_field (.tmp 18) (.tmp 25) rfl _ _ rfl rfl w.heap.size xs ⟨x.1.1.tag, a2, x.1.1.zs.length, c2, x.1.1.zs⟩ ((hrr.kept (below_grown hB2) (by simp [Value.ownBlock])).alloc _) (cells_new W2 _) (by omega) (by have := hB2.size; simp; omega) ?_
              intro v5 w5 hr5 hg5 hf5
              obtain ⟨k1, k2, k3, k4, hv5⟩ := dec_step (y := x) (by omega) hsW hv hrr hok hsd hp hx2 hB2 hK2 hrow2 hr5 hg5 hf5
              obtain ⟨g5, c5, rfl⟩ := ownsRow_pos hr5 (by omega)
              have cv5 := hv5.cell
              have fv5 := hv5.frozen
              refine hK _ _ ?_
              clear hK K
              refine wpAny_ready (rs := [9]) (by kernel_rfl) (by simp) ?_
              refine AllReady.cons rfl (fun K hK => ?_) AllReady.nil
              go_simp
              refine hK _ _ ?_
              clear hK K
              refine wpAny_done (by kernel_rfl) ?_ _
              exact ⟨k1.from _, k2, ⟨⟨⟨k3, by simp; omega⟩, k4 _ _ _ bR1 (by omega) (by decide)⟩, k4 _ _ _ bE1 (by omega) (by decide), hB1.trans k2.1⟩⟩
            · go_simp
              refine hK _ _ ?_
              clear hK K
              refine wpAny_ready (rs := [0, 5]) (by kernel_rfl) (by simp) ?_
              refine AllReady.cons rfl (fun K hK => ?_) (AllReady.cons rfl (fun K hK => ?_) AllReady.nil)
              · go_simp
                refine hK _ _ ?_
                clear hK K
                refine wpAny_ready (rs := [5]) (by kernel_rfl) (by simp) ?_
                refine AllReady.cons rfl (fun K hK => ?_) AllReady.nil
                go_simp
                go_wp2_with (go_at_call 42; go_must (refine (callsIn_wide.1 (clone_in Fence.wide 0 trivial rfl w.heap.size x.1.1.a x.1.1.len x.1.1.cap x.1.1.zs _ hbx hzl hsW)).mono ?_); rintro e W2 ⟨a2, c2, rfl, hrow2, hB2d, hK2d⟩; obtain ⟨hB2, hK2⟩ := undrew hB2d hK2d; clear hB2d hK2d; have cv2 := (boxed_below hv hB2).cell; have cX02 := cell_two_0 ((hB2.block Bx hBxl).trans bX))
                refine wpAny_ready (rs := [6]) (by kernel_rfl) (by simp) ?_
                refine AllReady.cons rfl (fun K hK => ?_) AllReady.nil
                go_simp
                refine hK _ _ ?_
                clear hK K
                refine wpAny_ready (rs := [7]) (by kernel_rfl) (by simp) ?_
                refine AllReady.cons rfl (fun K hK => ?_) AllReady.nil
                go_simp
                refine hK _ _ ?_
                clear hK K
                have cv3 := cell_kept_alloc cv2 (.cells #[.int .i64 x.1.1.tag, .slice a2 x.1.1.zs.length c2] 55)
                refine wpAny_ready (rs := [8]) (by kernel_rfl) (by simp) ?_
                refine AllReady.cons rfl (fun K hK => ?_) AllReady.nil
                rw [if_pos (by rfl)]
                refine wp_append_field (.tmp 18) (.tmp 25) rfl _ _ rfl rfl w.heap.size xs ⟨x.1.1.tag, a2, x.1.1.zs.length, c2, x.1.1.zs⟩ ((hrr.kept (below_grown hB2) (by simp [Value.ownBlock])).alloc _) (cells_new W2 _) (by omega) (by have := hB2.size; simp; omega) ?_
                intro v5 w5 hr5 hg5 hf5
                obtain ⟨k1, k2, k3, k4, hv5⟩ := dec_step (y := x) (by omega) hsW hv hrr hok hsd hp hx2 hB2 hK2 hrow2 hr5 hg5 hf5
                obtain ⟨g5, c5, rfl⟩ := ownsRow_pos hr5 (by omega)
                have cv5 := hv5.cell
                have fv5 := hv5.frozen
                refine hK _ _ ?_
                clear hK K
                refine wpAny_ready (rs := [9]) (by kernel_rfl) (by simp) ?_
                refine AllReady.cons rfl (fun K hK => ?_) AllReady.nil
                go_simp
                refine hK _ _ ?_
                clear hK K
                refine wpAny_done (by kernel_rfl) ?_ _
                exact ⟨k1.from _, k2, ⟨⟨⟨k3, by simp; omega⟩, k4 _ _ _ bR1 (by omega) (by decide)⟩, k4 _ _ _ bE1 (by omega) (by decide), hB1.trans k2.1⟩⟩
              · go_simp
                go_wp2_with (go_at_call 42; go_must (refine (callsIn_wide.1 (clone_in Fence.wide 0 trivial rfl w.heap.size x.1.1.a x.1.1.len x.1.1.cap x.1.1.zs _ hbx hzl hsW)).mono ?_); rintro e W2 ⟨a2, c2, rfl, hrow2, hB2d, hK2d⟩; obtain ⟨hB2, hK2⟩ := undrew hB2d hK2d; clear hB2d hK2d; have cv2 := (boxed_below hv hB2).cell; have cX02 := cell_two_0 ((hB2.block Bx hBxl).trans bX))
                refine wpAny_ready (rs := [0, 6]) (by kernel_rfl) (by simp) ?_
                refine AllReady.cons rfl (fun K hK => ?_) (AllReady.cons rfl (fun K hK => ?_) AllReady.nil)
                · go_simp
                  refine hK _ _ ?_
                  clear hK K
                  refine wpAny_ready (rs := [6]) (by kernel_rfl) (by simp) ?_
                  refine AllReady.cons rfl (fun K hK => ?_) AllReady.nil
                  go_simp
                  refine hK _ _ ?_
                  clear hK K
                  refine wpAny_ready (rs := [7]) (by kernel_rfl) (by simp) ?_
                  refine AllReady.cons rfl (fun K hK => ?_) AllReady.nil
                  go_simp
                  refine hK _ _ ?_
                  clear hK K
                  have cv3 := cell_kept_alloc cv2 (.cells #[.int .i64 x.1.1.tag, .slice a2 x.1.1.zs.length c2] 55)
                  refine wpAny_ready (rs := [8]) (by kernel_rfl) (by simp) ?_
                  refine AllReady.cons rfl (fun K hK => ?_) AllReady.nil
                  rw [if_pos (by rfl)]
                  refine wp_append_field (.tmp 18) (.tmp 25) rfl _ _ rfl rfl w.heap.size xs ⟨x.1.1.tag, a2, x.1.1.zs.length, c2, x.1.1.zs⟩ ((hrr.kept (below_grown hB2) (by simp [Value.ownBlock])).alloc _) (cells_new W2 _) (by omega) (by have := hB2.size; simp; omega) ?_
                  intro v5 w5 hr5 hg5 hf5
                  obtain ⟨k1, k2, k3, k4, hv5⟩ := dec_step (y := x) (by omega) hsW hv hrr hok hsd hp hx2 hB2 hK2 hrow2 hr5 hg5 hf5
                  obtain ⟨g5, c5, rfl⟩ := ownsRow_pos hr5 (by omega)
                  have cv5 := hv5.cell
                  have fv5 := hv5.frozen
                  refine hK _ _ ?_
                  clear hK K
                  refine wpAny_ready (rs := [9]) (by kernel_rfl) (by simp) ?_
                  refine AllReady.cons rfl (fun K hK => ?_) AllReady.nil
                  go_simp
                  refine hK _ _ ?_
                  clear hK K
                  refine wpAny_done (by kernel_rfl) ?_ _
                  exact ⟨k1.from _, k2, ⟨⟨⟨k3, by simp; omega⟩, k4 _ _ _ bR1 (by omega) (by decide)⟩, k4 _ _ _ bE1 (by omega) (by decide), hB1.trans k2.1⟩⟩
                · go_simp
                  refine hK _ _ ?_
                  clear hK K
                  refine wpAny_ready (rs := [0, 7]) (by kernel_rfl) (by simp) ?_
                  refine AllReady.cons rfl (fun K hK => ?_) (AllReady.cons rfl (fun K hK => ?_) AllReady.nil)
                  · go_simp
                    refine hK _ _ ?_
                    clear hK K
                    refine wpAny_ready (rs := [7]) (by kernel_rfl) (by simp) ?_
                    refine AllReady.cons rfl (fun K hK => ?_) AllReady.nil
                    go_simp
                    refine hK _ _ ?_
                    clear hK K
                    have cv3 := cell_kept_alloc cv2 (.cells #[.int .i64 x.1.1.tag, .slice a2 x.1.1.zs.length c2] 55)
                    refine wpAny_ready (rs := [8]) (by kernel_rfl) (by simp) ?_
                    refine AllReady.cons rfl (fun K hK => ?_) AllReady.nil
                    rw [if_pos (by rfl)]
                    refine wp_append_field (.tmp 18) (.tmp 25) rfl _ _ rfl rfl w.heap.size xs ⟨x.1.1.tag, a2, x.1.1.zs.length, c2, x.1.1.zs⟩ ((hrr.kept (below_grown hB2) (by simp [Value.ownBlock])).alloc _) (cells_new W2 _) (by omega) (by have := hB2.size; simp; omega) ?_
                    intro v5 w5 hr5 hg5 hf5
                    obtain ⟨k1, k2, k3, k4, hv5⟩ := dec_step (y := x) (by omega) hsW hv hrr hok hsd hp hx2 hB2 hK2 hrow2 hr5 hg5 hf5
                    obtain ⟨g5, c5, rfl⟩ := ownsRow_pos hr5 (by omega)
                    have cv5 := hv5.cell
                    have fv5 := hv5.frozen
                    refine hK _ _ ?_
                    clear hK K
                    refine wpAny_ready (rs := [9]) (by kernel_rfl) (by simp) ?_
                    refine AllReady.cons rfl (fun K hK => ?_) AllReady.nil
                    go_simp
                    refine hK _ _ ?_
                    clear hK K
                    refine wpAny_done (by kernel_rfl) ?_ _
                    exact ⟨k1.from _, k2, ⟨⟨⟨k3, by simp; omega⟩, k4 _ _ _ bR1 (by omega) (by decide)⟩, k4 _ _ _ bE1 (by omega) (by decide), hB1.trans k2.1⟩⟩
                  · go_simp
                    refine hK _ _ ?_
                    clear hK K
                    have cv3 := cell_kept_alloc cv2 (.cells #[.int .i64 x.1.1.tag, .slice a2 x.1.1.zs.length c2] 55)
                    refine wpAny_ready (rs := [0]) (by kernel_rfl) (by simp) ?_
                    refine AllReady.cons rfl (fun K hK => ?_) AllReady.nil
                    go_simp
                    refine hK _ _ ?_
                    clear hK K
                    refine wpAny_ready (rs := [8]) (by kernel_rfl) (by simp) ?_
                    refine AllReady.cons rfl (fun K hK => ?_) AllReady.nil
                    rw [if_pos (by rfl)]
                    refine wp_append_field (.tmp 18) (.tmp 25) rfl _ _ rfl rfl w.heap.size xs ⟨x.1.1.tag, a2, x.1.1.zs.length, c2, x.1.1.zs⟩ ((hrr.kept (below_grown hB2) (by simp [Value.ownBlock])).alloc _) (cells_new W2 _) (by omega) (by have := hB2.size; simp; omega) ?_
                    intro v5 w5 hr5 hg5 hf5
                    obtain ⟨k1, k2, k3, k4, hv5⟩ := dec_step (y := x) (by omega) hsW hv hrr hok hsd hp hx2 hB2 hK2 hrow2 hr5 hg5 hf5
                    obtain ⟨g5, c5, rfl⟩ := ownsRow_pos hr5 (by omega)
                    have cv5 := hv5.cell
                    have fv5 := hv5.frozen
                    refine hK _ _ ?_
                    clear hK K
                    refine wpAny_ready (rs := [9]) (by kernel_rfl) (by simp) ?_
                    refine AllReady.cons rfl (fun K hK => ?_) AllReady.nil
                    go_simp
                    refine hK _ _ ?_
                    clear hK K
                    refine wpAny_done (by kernel_rfl) ?_ _
                    exact ⟨k1.from _, k2, ⟨⟨⟨k3, by simp; omega⟩, k4 _ _ _ bR1 (by omega) (by decide)⟩, k4 _ _ _ bE1 (by omega) (by decide), hB1.trans k2.1⟩⟩
          · go_simp
            refine hK _ _ ?_
            clear hK K
            refine wpAny_ready (rs := [0, 2, 5]) (by kernel_rfl) (by simp) ?_
            refine AllReady.cons rfl (fun K hK => ?_) (AllReady.cons rfl (fun K hK => ?_) (AllReady.cons rfl (fun K hK => ?_) AllReady.nil))
            · go_simp
              refine hK _ _ ?_
              clear hK K
              refine wpAny_ready (rs := [2, 5]) (by kernel_rfl) (by simp) ?_
              refine AllReady.cons rfl (fun K hK => ?_) (AllReady.cons rfl (fun K hK => ?_) AllReady.nil)
              · go_simp
                refine hK _ _ ?_
                clear hK K
                refine wpAny_ready (rs := [5]) (by kernel_rfl) (by simp) ?_
                refine AllReady.cons rfl (fun K hK => ?_) AllReady.nil
                go_simp
                go_wp2_with (go_at_call 42; go_must (refine (callsIn_wide.1 (clone_in Fence.wide 0 trivial rfl w.heap.size x.1.1.a x.1.1.len x.1.1.cap x.1.1.zs _ hbx hzl hsW)).mono ?_); rintro e W2 ⟨a2, c2, rfl, hrow2, hB2d, hK2d⟩; obtain ⟨hB2, hK2⟩ := undrew hB2d hK2d; clear hB2d hK2d; have cv2 := (boxed_below hv hB2).cell; have cX02 := cell_two_0 ((hB2.block Bx hBxl).trans bX))
                refine wpAny_ready (rs := [6]) (by kernel_rfl) (by simp) ?_
                refine AllReady.cons rfl (fun K hK => ?_) AllReady.nil
                go_simp
                refine hK _ _ ?_
                clear hK K
                refine wpAny_ready (rs := [7]) (by kernel_rfl) (by simp) ?_
                refine AllReady.cons rfl (fun K hK => ?_) AllReady.nil
                go_simp
                refine hK _ _ ?_
                clear hK K
                have cv3 := cell_kept_alloc cv2 (.cells #[.int .i64 x.1.1.tag, .slice a2 x.1.1.zs.length c2] 55)
                refine wpAny_ready (rs := [8]) (by kernel_rfl) (by simp) ?_
                refine AllReady.cons rfl (fun K hK => ?_) AllReady.nil
                rw [if_pos (by rfl)]
                refine wp_append_field (.tmp 18) (.tmp 25) rfl _ _ rfl rfl w.heap.size xs ⟨x.1.1.tag, a2, x.1.1.zs.length, c2, x.1.1.zs⟩ ((hrr.kept (below_grown hB2) (by simp [Value.ownBlock])).alloc _) (cells_new W2 _) (by omega) (by have := hB2.size; simp; omega) ?_
                intro v5 w5 hr5 hg5 hf5
                obtain ⟨k1, k2, k3, k4, hv5⟩ := dec_step (y := x) (by omega) hsW hv hrr hok hsd hp hx2 hB2 hK2 hrow2 hr5 hg5 hf5
                obtain ⟨g5, c5, rfl⟩ := ownsRow_pos hr5 (by omega)
                have cv5 := hv5.cell
                have fv5 := hv5.frozen
                refine hK _ _ ?_
                clear hK K
                refine wpAny_ready (rs := [9]) (by kernel_rfl) (by simp) ?_
                refine AllReady.cons rfl (fun K hK => ?_) AllReady.nil
                go_simp
                refine hK _ _ ?_
                clear hK K
                refine wpAny_done (by kernel_rfl) ?_ _
                exact ⟨k1.from _, k2, ⟨⟨⟨k3, by simp; omega⟩, k4 _ _ _ bR1 (by omega) (by decide)⟩, k4 _ _ _ bE1 (by omega) (by decide), hB1.trans k2.1⟩⟩
              · go_simp
                go_wp2_with (go_at_call 42; go_must (refine (callsIn_wide.1 (clone_in Fence.wide 0 trivial rfl w.heap.size x.1.1.a x.1.1.len x.1.1.cap x.1.1.zs _ hbx hzl hsW)).mono ?_); rintro e W2 ⟨a2, c2, rfl, hrow2, hB2d, hK2d⟩; obtain ⟨hB2, hK2⟩ := undrew hB2d hK2d; clear hB2d hK2d; have cv2 := (boxed_below hv hB2).cell; have cX02 := cell_two_0 ((hB2.block Bx hBxl).trans bX))
                refine wpAny_ready (rs := [2]) (by kernel_rfl) (by simp) ?_
                refine AllReady.cons rfl (fun K hK => ?_) AllReady.nil
                go_simp
                refine hK _ _ ?_
                clear hK K
                refine wpAny_ready (rs := [6]) (by kernel_rfl) (by simp) ?_
                refine AllReady.cons rfl (fun K hK => ?_) AllReady.nil
                go_simp
                refine hK _ _ ?_
                clear hK K
                refine wpAny_ready (rs := [7]) (by kernel_rfl) (by simp) ?_
                refine AllReady.cons rfl (fun K hK => ?_) AllReady.nil
                go_simp
                refine hK _ _ ?_
                clear hK K
                have cv3 := cell_kept_alloc cv2 (.cells #[.int .i64 x.1.1.tag, .slice a2 x.1.1.zs.length c2] 55)
                refine wpAny_ready (rs := [8]) (by kernel_rfl) (by simp) ?_
                refine AllReady.cons rfl (fun K hK => ?_) AllReady.nil
                rw [if_pos (by rfl)]
                refine wp_append_field (.tmp 18) (.tmp 25) rfl _ _ rfl rfl w.heap.size xs ⟨x.1.1.tag, a2, x.1.1.zs.length, c2, x.1.1.zs⟩ ((hrr.kept (below_grown hB2) (by simp [Value.ownBlock])).alloc _) (cells_new W2 _) (by omega) (by have := hB2.size; simp; omega) ?_
                intro v5 w5 hr5 hg5 hf5
                obtain ⟨k1, k2, k3, k4, hv5⟩ := dec_step (y := x) (by omega) hsW hv hrr hok hsd hp hx2 hB2 hK2 hrow2 hr5 hg5 hf5
                obtain ⟨g5, c5, rfl⟩ := ownsRow_pos hr5 (by omega)
                have cv5 := hv5.cell
                have fv5 := hv5.frozen
                refine hK _ _ ?_
                clear hK K
                refine wpAny_ready (rs := [9]) (by kernel_rfl) (by simp) ?_
                refine AllReady.cons rfl (fun K hK => ?_) AllReady.nil
                go_simp
                refine hK _ _ ?_
                clear hK K
                refine wpAny_done (by kernel_rfl) ?_ _
                exact ⟨k1.from _, k2, ⟨⟨⟨k3, by simp; omega⟩, k4 _ _ _ bR1 (by omega) (by decide)⟩, k4 _ _ _ bE1 (by omega) (by decide), hB1.trans k2.1⟩⟩
            · go_simp
              refine hK _ _ ?_
              clear hK K
              refine wpAny_ready (rs := [0, 5]) (by kernel_rfl) (by simp) ?_
              refine AllReady.cons rfl (fun K hK => ?_) (AllReady.cons rfl (fun K hK => ?_) AllReady.nil)
              · go_simp
                refine hK _ _ ?_
                clear hK K
                refine wpAny_ready (rs := [5]) (by kernel_rfl) (by simp) ?_
                refine AllReady.cons rfl (fun K hK => ?_) AllReady.nil
                go_simp
                go_wp2_with (go_at_call 42; go_must (refine (callsIn_wide.1 (clone_in Fence.wide 0 trivial rfl w.heap.size x.1.1.a x.1.1.len x.1.1.cap x.1.1.zs _ hbx hzl hsW)).mono ?_); rintro e W2 ⟨a2, c2, rfl, hrow2, hB2d, hK2d⟩; obtain ⟨hB2, hK2⟩ := undrew hB2d hK2d; clear hB2d hK2d; have cv2 := (boxed_below hv hB2).cell; have cX02 := cell_two_0 ((hB2.block Bx hBxl).trans bX))
                refine wpAny_ready (rs := [6]) (by kernel_rfl) (by simp) ?_
                refine AllReady.cons rfl (fun K hK => ?_) AllReady.nil
                go_simp
                refine hK _ _ ?_
                clear hK K
                refine wpAny_ready (rs := [7]) (by kernel_rfl) (by simp) ?_
                refine AllReady.cons rfl (fun K hK => ?_) AllReady.nil
                go_simp
                refine hK _ _ ?_
                clear hK K
                have cv3 := cell_kept_alloc cv2 (.cells #[.int .i64 x.1.1.tag, .slice a2 x.1.1.zs.length c2] 55)
                refine wpAny_ready (rs := [8]) (by kernel_rfl) (by simp) ?_
                refine AllReady.cons rfl (fun K hK => ?_) AllReady.nil
                rw [if_pos (by rfl)]
                refine wp_append_field (.tmp 18) (.tmp 25) rfl _ _ rfl rfl w.heap.size xs ⟨x.1.1.tag, a2, x.1.1.zs.length, c2, x.1.1.zs⟩ ((hrr.kept (below_grown hB2) (by simp [Value.ownBlock])).alloc _) (cells_new W2 _) (by omega) (by have := hB2.size; simp; omega) ?_
                intro v5 w5 hr5 hg5 hf5
                obtain ⟨k1, k2, k3, k4, hv5⟩ := dec_step (y := x) (by omega) hsW hv hrr hok hsd hp hx2 hB2 hK2 hrow2 hr5 hg5 hf5
                obtain ⟨g5, c5, rfl⟩ := ownsRow_pos hr5 (by omega)
                have cv5 := hv5.cell
                have fv5 := hv5.frozen
                refine hK _ _ ?_
                clear hK K
                refine wpAny_ready (rs := [9]) (by kernel_rfl) (by simp) ?_
                refine AllReady.cons rfl (fun K hK => ?_) AllReady.nil
                go_simp
                refine hK _ _ ?_
                clear hK K
                refine wpAny_done (by kernel_rfl) ?_ _
                exact ⟨k1.from _, k2, ⟨⟨⟨k3, by simp; omega⟩, k4 _ _ _ bR1 (by omega) (by decide)⟩, k4 _ _ _ bE1 (by omega) (by decide), hB1.trans k2.1⟩⟩
              · go_simp
                go_wp2_with (go_at_call 42; go_must (refine (callsIn_wide.1 (clone_in Fence.wide 0 trivial rfl w.heap.size x.1.1.a x.1.1.len x.1.1.cap x.1.1.zs _ hbx hzl hsW)).mono ?_); rintro e W2 ⟨a2, c2, rfl, hrow2, hB2d, hK2d⟩; obtain ⟨hB2, hK2⟩ := undrew hB2d hK2d; clear hB2d hK2d; have cv2 := (boxed_below hv hB2).cell; have cX02 := cell_two_0 ((hB2.block Bx hBxl).trans bX))
                refine wpAny_ready (rs := [0, 6]) (by kernel_rfl) (by simp) ?_
                refine AllReady.cons rfl (fun K hK => ?_) (AllReady.cons rfl (fun K hK => ?_) AllReady.nil)
                · go_simp
                  refine hK _ _ ?_
                  clear hK K
                  refine wpAny_ready (rs := [6]) (by kernel_rfl) (by simp) ?_
                  refine AllReady.cons rfl (fun K hK => ?_) AllReady.nil
                  go_simp
                  refine hK _ _ ?_
                  clear hK K
                  refine wpAny_ready (rs := [7]) (by kernel_rfl) (by simp) ?_
                  refine AllReady.cons rfl (fun K hK => ?_) AllReady.nil
                  go_simp
                  refine hK _ _ ?_
                  clear hK K
                  have cv3 := cell_kept_alloc cv2 (.cells #[.int .i64 x.1.1.tag, .slice a2 x.1.1.zs.length c2] 55)
                  refine wpAny_ready (rs := [8]) (by kernel_rfl) (by simp) ?_
                  refine AllReady.cons rfl (fun K hK => ?_) AllReady.nil
                  rw [if_pos (by rfl)]
                  refine wp_append_field (.tmp 18) (.tmp 25) rfl _ _ rfl rfl w.heap.size xs ⟨x.1.1.tag, a2, x.1.1.zs.length, c2, x.1.1.zs⟩ ((hrr.kept (below_grown hB2) (by simp [Value.ownBlock])).alloc _) (cells_new W2 _) (by omega) (by have := hB2.size; simp; omega) ?_
                  intro v5 w5 hr5 hg5 hf5
                  obtain ⟨k1, k2, k3, k4, hv5⟩ := dec_step (y := x) (by omega) hsW hv hrr hok hsd hp hx2 hB2 hK2 hrow2 hr5 hg5 hf5
                  obtain ⟨g5, c5, rfl⟩ := ownsRow_pos hr5 (by omega)
                  have cv5 := hv5.cell
                  have fv5 := hv5.frozen
                  refine hK _ _ ?_
                  clear hK K
                  refine wpAny_ready (rs := [9]) (by kernel_rfl) (by simp) ?_
                  refine AllReady.cons rfl (fun K hK => ?_) AllReady.nil
                  go_simp
                  refine hK _ _ ?_
                  clear hK K
                  refine wpAny_done (by kernel_rfl) ?_ _
                  exact ⟨k1.from _, k2, ⟨⟨⟨k3, by simp; omega⟩, k4 _ _ _ bR1 (by omega) (by decide)⟩, k4 _ _ _ bE1 (by omega) (by decide), hB1.trans k2.1⟩⟩
                · go_simp
                  refine hK _ _ ?_
                  clear hK K
                  refine wpAny_ready (rs := [0, 7]) (by kernel_rfl) (by simp) ?_
                  refine AllReady.cons rfl (fun K hK => ?_) (AllReady.cons rfl (fun K hK => ?_) AllReady.nil)
                  · go_simp
                    refine hK _ _ ?_
                    clear hK K
                    refine wpAny_ready (rs := [7]) (by kernel_rfl) (by simp) ?_
                    refine AllReady.cons rfl (fun K hK => ?_) AllReady.nil
                    go_simp
                    refine hK _ _ ?_
                    clear hK K
                    have cv3 := cell_kept_alloc cv2 (.cells #[.int .i64 x.1.1.tag, .slice a2 x.1.1.zs.length c2] 55)
                    refine wpAny_ready (rs := [8]) (by kernel_rfl) (by simp) ?_
                    refine AllReady.cons rfl (fun K hK => ?_) AllReady.nil
                    rw [if_pos (by rfl)]
                    refine wp_append_field (.tmp 18) (.tmp 25) rfl _ _ rfl rfl w.heap.size xs ⟨x.1.1.tag, a2, x.1.1.zs.length, c2, x.1.1.zs⟩ ((hrr.kept (below_grown hB2) (by simp [Value.ownBlock])).alloc _) (cells_new W2 _) (by omega) (by have := hB2.size; simp; omega) ?_
                    intro v5 w5 hr5 hg5 hf5
                    obtain ⟨k1, k2, k3, k4, hv5⟩ := dec_step (y := x) (by omega) hsW hv hrr hok hsd hp hx2 hB2 hK2 hrow2 hr5 hg5 hf5
                    obtain ⟨g5, c5, rfl⟩ := ownsRow_pos hr5 (by omega)
                    have cv5 := hv5.cell
                    have fv5 := hv5.frozen
                    refine hK _ _ ?_
                    clear hK K
                    refine wpAny_ready (rs := [9]) (by kernel_rfl) (by simp) ?_
                    refine AllReady.cons rfl (fun K hK => ?_) AllReady.nil
                    go_simp
                    refine hK _ _ ?_
                    clear hK K
                    refine wpAny_done (by kernel_rfl) ?_ _
                    exact ⟨k1.from _, k2, ⟨⟨⟨k3, by simp; omega⟩, k4 _ _ _ bR1 (by omega) (by decide)⟩, k4 _ _ _ bE1 (by omega) (by decide), hB1.trans k2.1⟩⟩
                  · go_simp
                    refine hK _ _ ?_
                    clear hK K
                    have cv3 := cell_kept_alloc cv2 (.cells #[.int .i64 x.1.1.tag, .slice a2 x.1.1.zs.length c2] 55)
                    refine wpAny_ready (rs := [0]) (by kernel_rfl) (by simp) ?_
                    refine AllReady.cons rfl (fun K hK => ?_) AllReady.nil
                    go_simp
                    refine hK _ _ ?_
                    clear hK K
                    refine wpAny_ready (rs := [8]) (by kernel_rfl) (by simp) ?_
                    refine AllReady.cons rfl (fun K hK => ?_) AllReady.nil
                    rw [if_pos (by rfl)]
                    refine wp_append_field (.tmp 18) (.tmp 25) rfl _ _ rfl rfl w.heap.size xs ⟨x.1.1.tag, a2, x.1.1.zs.length, c2, x.1.1.zs⟩ ((hrr.kept (below_grown hB2) (by simp [Value.ownBlock])).alloc _) (cells_new W2 _) (by omega) (by have := hB2.size; simp; omega) ?_
                    intro v5 w5 hr5 hg5 hf5
                    obtain ⟨k1, k2, k3, k4, hv5⟩ := dec_step (y := x) (by omega) hsW hv hrr hok hsd hp hx2 hB2 hK2 hrow2 hr5 hg5 hf5
                    obtain ⟨g5, c5, rfl⟩ := ownsRow_pos hr5 (by omega)
                    have cv5 := hv5.cell
                    have fv5 := hv5.frozen
                    refine hK _ _ ?_
                    clear hK K
                    refine wpAny_ready (rs := [9]) (by kernel_rfl) (by simp) ?_
                    refine AllReady.cons rfl (fun K hK => ?_) AllReady.nil
                    go_simp
                    refine hK _ _ ?_
                    clear hK K
                    refine wpAny_done (by kernel_rfl) ?_ _
                    exact ⟨k1.from _, k2, ⟨⟨⟨k3, by simp; omega⟩, k4 _ _ _ bR1 (by omega) (by decide)⟩, k4 _ _ _ bE1 (by omega) (by decide), hB1.trans k2.1⟩⟩
            · go_simp
              go_wp2_with (go_at_call 42; go_must (refine (callsIn_wide.1 (clone_in Fence.wide 0 trivial rfl w.heap.size x.1.1.a x.1.1.len x.1.1.cap x.1.1.zs _ hbx hzl hsW)).mono ?_); rintro e W2 ⟨a2, c2, rfl, hrow2, hB2d, hK2d⟩; obtain ⟨hB2, hK2⟩ := undrew hB2d hK2d; clear hB2d hK2d; have cv2 := (boxed_below hv hB2).cell; have cX02 := cell_two_0 ((hB2.block Bx hBxl).trans bX))
              refine wpAny_ready (rs := [0, 2]) (by kernel_rfl) (by simp) ?_
              refine AllReady.cons rfl (fun K hK => ?_) (AllReady.cons rfl (fun K hK => ?_) AllReady.nil)
              · go_simp
                refine hK _ _ ?_
                clear hK K
                refine wpAny_ready (rs := [2]) (by kernel_rfl) (by simp) ?_
                refine AllReady.cons rfl (fun K hK => ?_) AllReady.nil
                go_simp
                refine hK _ _ ?_
                clear hK K
                refine wpAny_ready (rs := [6]) (by kernel_rfl) (by simp) ?_
                refine AllReady.cons rfl (fun K hK => ?_) AllReady.nil
                go_simp
                refine hK _ _ ?_
                clear hK K
                refine wpAny_ready (rs := [7]) (by kernel_rfl) (by simp) ?_
                refine AllReady.cons rfl (fun K hK => ?_) AllReady.nil
                go_simp
                refine hK _ _ ?_
                clear hK K
                have cv3 := cell_kept_alloc cv2 (.cells #[.int .i64 x.1.1.tag, .slice a2 x.1.1.zs.length c2] 55)
                refine wpAny_ready (rs := [8]) (by kernel_rfl) (by simp) ?_
                refine AllReady.cons rfl (fun K hK => ?_) AllReady.nil
                rw [if_pos (by rfl)]
                refine wp_append_field (.tmp 18) (.tmp 25) rfl _ _ rfl rfl w.heap.size xs ⟨x.1.1.tag, a2, x.1.1.zs.length, c2, x.1.1.zs⟩ ((hrr.kept (below_grown hB2) (by simp [Value.ownBlock])).alloc _) (cells_new W2 _) (by omega) (by have := hB2.size; simp; omega) ?_
                intro v5 w5 hr5 hg5 hf5
                obtain ⟨k1, k2, k3, k4, hv5⟩ := dec_step (y := x) (by omega) hsW hv hrr hok hsd hp hx2 hB2 hK2 hrow2 hr5 hg5 hf5
                obtain ⟨g5, c5, rfl⟩ := ownsRow_pos hr5 (by omega)
                have cv5 := hv5.cell
                have fv5 := hv5.frozen
                refine hK _ _ ?_
                clear hK K
                refine wpAny_ready (rs := [9]) (by kernel_rfl) (by simp) ?_
                refine AllReady.cons rfl (fun K hK => ?_) AllReady.nil
                go_simp
                refine hK _ _ ?_
                clear hK K
                refine wpAny_done (by kernel_rfl) ?_ _
                exact ⟨k1.from _, k2, ⟨⟨⟨k3, by simp; omega⟩, k4 _ _ _ bR1 (by omega) (by decide)⟩, k4 _ _ _ bE1 (by omega) (by decide), hB1.trans k2.1⟩⟩
              · go_simp
                refine hK _ _ ?_
                clear hK K
                refine wpAny_ready (rs := [0, 6]) (by kernel_rfl) (by simp) ?_
                refine AllReady.cons rfl (fun K hK => ?_) (AllReady.cons rfl (fun K hK => ?_) AllReady.nil)
                · go_simp
                  refine hK _ _ ?_
                  clear hK K
                  refine wpAny_ready (rs := [6]) (by kernel_rfl) (by simp) ?_
                  refine AllReady.cons rfl (fun K hK => ?_) AllReady.nil
                  go_simp
                  refine hK _ _ ?_
                  clear hK K
                  refine wpAny_ready (rs := [7]) (by kernel_rfl) (by simp) ?_
                  refine AllReady.cons rfl (fun K hK => ?_) AllReady.nil
                  go_simp
                  refine hK _ _ ?_
                  clear hK K
                  have cv3 := cell_kept_alloc cv2 (.cells #[.int .i64 x.1.1.tag, .slice a2 x.1.1.zs.length c2] 55)
                  refine wpAny_ready (rs := [8]) (by kernel_rfl) (by simp) ?_
                  refine AllReady.cons rfl (fun K hK => ?_) AllReady.nil
                  rw [if_pos (by rfl)]
                  refine wp_append_field (.tmp 18) (.tmp 25) rfl _ _ rfl rfl w.heap.size xs ⟨x.1.1.tag, a2, x.1.1.zs.length, c2, x.1.1.zs⟩ ((hrr.kept (below_grown hB2) (by simp [Value.ownBlock])).alloc _) (cells_new W2 _) (by omega) (by have := hB2.size; simp; omega) ?_
                  intro v5 w5 hr5 hg5 hf5
                  obtain ⟨k1, k2, k3, k4, hv5⟩ := dec_step (y := x) (by omega) hsW hv hrr hok hsd hp hx2 hB2 hK2 hrow2 hr5 hg5 hf5
                  obtain ⟨g5, c5, rfl⟩ := ownsRow_pos hr5 (by omega)
                  have cv5 := hv5.cell
                  have fv5 := hv5.frozen
                  refine hK _ _ ?_
                  clear hK K
                  refine wpAny_ready (rs := [9]) (by kernel_rfl) (by simp) ?_
                  refine AllReady.cons rfl (fun K hK => ?_) AllReady.nil
                  go_simp
                  refine hK _ _ ?_
                  clear hK K
                  refine wpAny_done (by kernel_rfl) ?_ _
                  exact ⟨k1.from _, k2, ⟨⟨⟨k3, by simp; omega⟩, k4 _ _ _ bR1 (by omega) (by decide)⟩, k4 _ _ _ bE1 (by omega) (by decide), hB1.trans k2.1⟩⟩
                · go_simp
                  refine hK _ _ ?_
                  clear hK K
                  refine wpAny_ready (rs := [0, 7]) (by kernel_rfl) (by simp) ?_
                  refine AllReady.cons rfl (fun K hK => ?_) (AllReady.cons rfl (fun K hK => ?_) AllReady.nil)
                  · go_simp
                    refine hK _ _ ?_
                    clear hK K
                    refine wpAny_ready (rs := [7]) (by kernel_rfl) (by simp) ?_
                    refine AllReady.cons rfl (fun K hK => ?_) AllReady.nil
                    go_simp
                    refine hK _ _ ?_
                    clear hK K
                    have cv3 := cell_kept_alloc cv2 (.cells #[.int .i64 x.1.1.tag, .slice a2 x.1.1.zs.length c2] 55)
                    refine wpAny_ready (rs := [8]) (by kernel_rfl) (by simp) ?_
                    refine AllReady.cons rfl (fun K hK => ?_) AllReady.nil
                    rw [if_pos (by rfl)]
                    refine wp_append_field (.tmp 18) (.tmp 25) rfl _ _ rfl rfl w.heap.size xs ⟨x.1.1.tag, a2, x.1.1.zs.length, c2, x.1.1.zs⟩ ((hrr.kept (below_grown hB2) (by simp [Value.ownBlock])).alloc _) (cells_new W2 _) (by omega) (by have := hB2.size; simp; omega) ?_
                    intro v5 w5 hr5 hg5 hf5
                    obtain ⟨k1, k2, k3, k4, hv5⟩ := dec_step (y := x) (by omega) hsW hv hrr hok hsd hp hx2 hB2 hK2 hrow2 hr5 hg5 hf5
                    obtain ⟨g5, c5, rfl⟩ := ownsRow_pos hr5 (by omega)
                    have cv5 := hv5.cell
                    have fv5 := hv5.frozen
                    refine hK _ _ ?_
                    clear hK K
                    refine wpAny_ready (rs := [9]) (by kernel_rfl) (by simp) ?_
                    refine AllReady.cons rfl (fun K hK => ?_) AllReady.nil
                    go_simp
                    refine hK _ _ ?_
                    clear hK K
                    refine wpAny_done (by kernel_rfl) ?_ _
                    exact ⟨k1.from _, k2, ⟨⟨⟨k3, by simp; omega⟩, k4 _ _ _ bR1 (by omega) (by decide)⟩, k4 _ _ _ bE1 (by omega) (by decide), hB1.trans k2.1⟩⟩
                  · go_simp
                    refine hK _ _ ?_
                    clear hK K
                    have cv3 := cell_kept_alloc cv2 (.cells #[.int .i64 x.1.1.tag, .slice a2 x.1.1.zs.length c2] 55)
                    refine wpAny_ready (rs := [0]) (by kernel_rfl) (by simp) ?_
                    refine AllReady.cons rfl (fun K hK => ?_) AllReady.nil
                    go_simp
                    refine hK _ _ ?_
                    clear hK K
                    refine wpAny_ready (rs := [8]) (by kernel_rfl) (by simp) ?_
                    refine AllReady.cons rfl (fun K hK => ?_) AllReady.nil
                    rw [if_pos (by rfl)]
                    refine wp_append_field (.tmp 18) (.tmp 25) rfl _ _ rfl rfl w.heap.size xs ⟨x.1.1.tag, a2, x.1.1.zs.length, c2, x.1.1.zs⟩ ((hrr.kept (below_grown hB2) (by simp [Value.ownBlock])).alloc _) (cells_new W2 _) (by omega) (by have := hB2.size; simp; omega) ?_
                    intro v5 w5 hr5 hg5 hf5
                    obtain ⟨k1, k2, k3, k4, hv5⟩ := dec_step (y := x) (by omega) hsW hv hrr hok hsd hp hx2 hB2 hK2 hrow2 hr5 hg5 hf5
                    obtain ⟨g5, c5, rfl⟩ := ownsRow_pos hr5 (by omega)
                    have cv5 := hv5.cell
                    have fv5 := hv5.frozen
                    refine hK _ _ ?_
                    clear hK K
                    refine wpAny_ready (rs := [9]) (by kernel_rfl) (by simp) ?_
                    refine AllReady.cons rfl (fun K hK => ?_) AllReady.nil
                    go_simp
                    refine hK _ _ ?_
                    clear hK K
                    refine wpAny_done (by kernel_rfl) ?_ _
                    exact ⟨k1.from _, k2, ⟨⟨⟨k3, by simp; omega⟩, k4 _ _ _ bR1 (by omega) (by decide)⟩, k4 _ _ _ bE1 (by omega) (by decide), hB1.trans k2.1⟩⟩
        · gi_wp2_with fail
          refine region_round hfol (by kernel_rfl) (by rintro ⟨a, w, h⟩; exact h) ?_
          change wpAny _ _ _ _ _ _ _ (World.drew _)
          refine wpAny_take (i := 1) (v := ?_) rfl (by kernel_rfl) (by kernel_rfl) (by kernel_rfl) (fun _ _ _ h => h) (Or.inl ⟨by rfl, ?_⟩) ?_
          rotate_left
          · intro w; go_simp; with_reducible rfl
          refine wpAny_take (i := 3) (v := ?_) rfl (by kernel_rfl) (by kernel_rfl) (by kernel_rfl) (fun _ _ _ h => h) (Or.inl ⟨by rfl, ?_⟩) ?_
          rotate_left
          · intro w; go_simp; with_reducible rfl
          refine wpAny_ready (rs := [0, 2, 4]) (by kernel_rfl) (by simp) ?_
          refine AllReady.cons rfl (fun K hK => ?_) (AllReady.cons rfl (fun K hK => ?_) (AllReady.cons rfl (fun K hK => ?_) AllReady.nil))
          · go_simp
            refine hK _ _ ?_
            clear hK K
            refine wpAny_ready (rs := [2, 4]) (by kernel_rfl) (by simp) ?_
            refine AllReady.cons rfl (fun K hK => ?_) (AllReady.cons rfl (fun K hK => ?_) AllReady.nil)
            · go_simp
              refine hK _ _ ?_
              clear hK K
              refine wpAny_ready (rs := [4]) (by kernel_rfl) (by simp) ?_
              refine AllReady.cons rfl (fun K hK => ?_) AllReady.nil
              go_simp
              refine hK _ _ ?_
              clear hK K
              refine wpAny_ready (rs := [5]) (by kernel_rfl) (by simp) ?_
              refine AllReady.cons rfl (fun K hK => ?_) AllReady.nil
              go_simp
              go_wp2_with (go_at_call 42; go_must (refine (callsIn_wide.1 (clone_in Fence.wide 0 trivial rfl w.heap.size x.1.1.a x.1.1.len x.1.1.cap x.1.1.zs _ hbx hzl hsW)).mono ?_); rintro e W2 ⟨a2, c2, rfl, hrow2, hB2d, hK2d⟩; obtain ⟨hB2, hK2⟩ := undrew hB2d hK2d; clear hB2d hK2d; have cv2 := (boxed_below hv hB2).cell; have cX02 := cell_two_0 ((hB2.block Bx hBxl).trans bX))
              refine wpAny_ready (rs := [6]) (by kernel_rfl) (by simp) ?_
              refine AllReady.cons rfl (fun K hK => ?_) AllReady.nil
              go_simp
              refine hK _ _ ?_
              clear hK K
              refine wpAny_ready (rs := [7]) (by kernel_rfl) (by simp) ?_
              refine AllReady.cons rfl (fun K hK => ?_) AllReady.nil
              go_simp
              refine hK _ _ ?_
              clear hK K
              have cv3 := cell_kept_alloc cv2 (.cells #[.int .i64 x.1.1.tag, .slice a2 x.1.1.zs.length c2] 55)
              refine wpAny_ready (rs := [8]) (by kernel_rfl) (by simp) ?_
              refine AllReady.cons rfl (fun K hK => ?_) AllReady.nil
              rw [if_pos (by rfl)]
              refine wp_append_field (.tmp 18) (.tmp 25) rfl _ _ rfl rfl w.heap.size xs ⟨x.1.1.tag, a2, x.1.1.zs.length, c2, x.1.1.zs⟩ ((hrr.kept (below_grown hB2) (by simp [Value.ownBlock])).alloc _) (cells_new W2 _) (by omega) (by have := hB2.size; simp; omega) ?_
              intro v5 w5 hr5 hg5 hf5
              obtain ⟨k1, k2, k3, k4, hv5⟩ := dec_step (y := x) (by omega) hsW hv hrr hok hsd hp hx2 hB2 hK2 hrow2 hr5 hg5 hf5
              obtain ⟨g5, c5, rfl⟩ := ownsRow_pos hr5 (by omega)
              have cv5 := hv5.cell
              have fv5 := hv5.frozen
              refine hK _ _ ?_
              clear hK K
              refine wpAny_ready (rs := [9]) (by kernel_rfl) (by simp) ?_
              refine AllReady.cons rfl (fun K hK => ?_) AllReady.nil
              go_simp
              refine hK _ _ ?_
              clear hK K
              refine wpAny_done (by kernel_rfl) ?_ _
              exact ⟨k1.from _, k2, ⟨⟨⟨k3, by simp; omega⟩, k4 _ _ _ bR1 (by omega) (by decide)⟩, k4 _ _ _ bE1 (by omega) (by decide), hB1.trans k2.1⟩⟩
            · go_simp
              refine hK _ _ ?_
              clear hK K
              refine wpAny_ready (rs := [2, 5]) (by kernel_rfl) (by simp) ?_
              refine AllReady.cons rfl (fun K hK => ?_) (AllReady.cons rfl (fun K hK => ?_) AllReady.nil)
              · go_simp
                refine hK _ _ ?_
                clear hK K
                refine wpAny_ready (rs := [5]) (by kernel_rfl) (by simp) ?_
                refine AllReady.cons rfl (fun K hK => ?_) AllReady.nil
                go_simp
                go_wp2_with (go_at_call 42; go_must (refine (callsIn_wide.1 (clone_in Fence.wide 0 trivial rfl w.heap.size x.1.1.a x.1.1.len x.1.1.cap x.1.1.zs _ hbx hzl hsW)).mono ?_); rintro e W2 ⟨a2, c2, rfl, hrow2, hB2d, hK2d⟩; obtain ⟨hB2, hK2⟩ := undrew hB2d hK2d; clear hB2d hK2d; have cv2 := (boxed_below hv hB2).cell; have cX02 := cell_two_0 ((hB2.block Bx hBxl).trans bX))
                refine wpAny_ready (rs := [6]) (by kernel_rfl) (by simp) ?_
                refine AllReady.cons rfl (fun K hK => ?_) AllReady.nil
                go_simp
                refine hK _ _ ?_
                clear hK K
                refine wpAny_ready (rs := [7]) (by kernel_rfl) (by simp) ?_
                refine AllReady.cons rfl (fun K hK => ?_) AllReady.nil
                go_simp
                refine hK _ _ ?_
                clear hK K
                have cv3 := cell_kept_alloc cv2 (.cells #[.int .i64 x.1.1.tag, .slice a2 x.1.1.zs.length c2] 55)
                refine wpAny_ready (rs := [8]) (by kernel_rfl) (by simp) ?_
                refine AllReady.cons rfl (fun K hK => ?_) AllReady.nil
                rw [if_pos (by rfl)]
                refine wp_append_field (.tmp 18) (.tmp 25) rfl _ _ rfl rfl w.heap.size xs ⟨x.1.1.tag, a2, x.1.1.zs.length, c2, x.1.1.zs⟩ ((hrr.kept (below_grown hB2) (by simp [Value.ownBlock])).alloc _) (cells_new W2 _) (by omega) (by have := hB2.size; simp; omega) ?_
                intro v5 w5 hr5 hg5 hf5
                obtain ⟨k1, k2, k3, k4, hv5⟩ := dec_step (y := x) (by omega) hsW hv hrr hok hsd hp hx2 hB2 hK2 hrow2 hr5 hg5 hf5
                obtain ⟨g5, c5, rfl⟩ := ownsRow_pos hr5 (by omega)
                have cv5 := hv5.cell
                have fv5 := hv5.frozen
                refine hK _ _ ?_
                clear hK K
                refine wpAny_ready (rs := [9]) (by kernel_rfl) (by simp) ?_
                refine AllReady.cons rfl (fun K hK => ?_) AllReady.nil
                go_simp
                refine hK _ _ ?_
                clear hK K
                refine wpAny_done (by kernel_rfl) ?_ _
                exact ⟨k1.from _, k2, ⟨⟨⟨k3, by simp; omega⟩, k4 _ _ _ bR1 (by omega) (by decide)⟩, k4 _ _ _ bE1 (by omega) (by decide), hB1.trans k2.1⟩⟩
              · go_simp
                go_wp2_with (go_at_call 42; go_must (refine (callsIn_wide.1 (clone_in Fence.wide 0 trivial rfl w.heap.size x.1.1.a x.1.1.len x.1.1.cap x.1.1.zs _ hbx hzl hsW)).mono ?_); rintro e W2 ⟨a2, c2, rfl, hrow2, hB2d, hK2d⟩; obtain ⟨hB2, hK2⟩ := undrew hB2d hK2d; clear hB2d hK2d; have cv2 := (boxed_below hv hB2).cell; have cX02 := cell_two_0 ((hB2.block Bx hBxl).trans bX))
                refine wpAny_ready (rs := [2]) (by kernel_rfl) (by simp) ?_
                refine AllReady.cons rfl (fun K hK => ?_) AllReady.nil
                go_simp
                refine hK _ _ ?_
                clear hK K
                refine wpAny_ready (rs := [6]) (by kernel_rfl) (by simp) ?_
                refine AllReady.cons rfl (fun K hK => ?_) AllReady.nil
                go_simp
                refine hK _ _ ?_
                clear hK K
                refine wpAny_ready (rs := [7]) (by kernel_rfl) (by simp) ?_
                refine AllReady.cons rfl (fun K hK => ?_) AllReady.nil
                go_simp
                refine hK _ _ ?_
                clear hK K
                have cv3 := cell_kept_alloc cv2 (.cells #[.int .i64 x.1.1.tag, .slice a2 x.1.1.zs.length c2] 55)
                refine wpAny_ready (rs := [8]) (by kernel_rfl) (by simp) ?_
                refine AllReady.cons rfl (fun K hK => ?_) AllReady.nil
                rw [if_pos (by rfl)]
                refine wp_append_field (.tmp 18) (.tmp 25) rfl _ _ rfl rfl w.heap.size xs ⟨x.1.1.tag, a2, x.1.1.zs.length, c2, x.1.1.zs⟩ ((hrr.kept (below_grown hB2) (by simp [Value.ownBlock])).alloc _) (cells_new W2 _) (by omega) (by have := hB2.size; simp; omega) ?_
                intro v5 w5 hr5 hg5 hf5
                obtain ⟨k1, k2, k3, k4, hv5⟩ := dec_step (y := x) (by omega) hsW hv hrr hok hsd hp hx2 hB2 hK2 hrow2 hr5 hg5 hf5
                obtain ⟨g5, c5, rfl⟩ := ownsRow_pos hr5 (by omega)
                have cv5 := hv5.cell
                have fv5 := hv5.frozen
                refine hK _ _ ?_
                clear hK K
                refine wpAny_ready (rs := [9]) (by kernel_rfl) (by simp) ?_
                refine AllReady.cons rfl (fun K hK => ?_) AllReady.nil
                go_simp
                refine hK _ _ ?_
                clear hK K
                refine wpAny_done (by kernel_rfl) ?_ _
                exact ⟨k1.from _, k2, ⟨⟨⟨k3, by simp; omega⟩, k4 _ _ _ bR1 (by omega) (by decide)⟩, k4 _ _ _ bE1 (by omega) (by decide), hB1.trans k2.1⟩⟩
          · go_simp
            refine hK _ _ ?_
            clear hK K
            refine wpAny_ready (rs := [0, 4]) (by kernel_rfl) (by simp) ?_
            refine AllReady.cons rfl (fun K hK => ?_) (AllReady.cons rfl (fun K hK => ?_) AllReady.nil)
            · go_simp
              refine hK _ _ ?_
              clear hK K
              refine wpAny_ready (rs := [4]) (by kernel_rfl) (by simp) ?_
              refine AllReady.cons rfl (fun K hK => ?_) AllReady.nil
              go_simp
              refine hK _ _ ?_
              clear hK K
              refine wpAny_ready (rs := [5]) (by kernel_rfl) (by simp) ?_
              refine AllReady.cons rfl (fun K hK => ?_) AllReady.nil
              go_simp
              go_wp2_with (go_at_call 42; go_must (refine (callsIn_wide.1 (clone_in Fence.wide 0 trivial rfl w.heap.size x.1.1.a x.1.1.len x.1.1.cap x.1.1.zs _ hbx hzl hsW)).mono ?_); rintro e W2 ⟨a2, c2, rfl, hrow2, hB2d, hK2d⟩; obtain ⟨hB2, hK2⟩ := undrew hB2d hK2d; clear hB2d hK2d; have cv2 := (boxed_below hv hB2).cell; have cX02 := cell_two_0 ((hB2.block Bx hBxl).trans bX))
              refine wpAny_ready (rs := [6]) (by kernel_rfl) (by simp) ?_
              refine AllReady.cons rfl (fun K hK => ?_) AllReady.nil
              go_simp
              refine hK _ _ ?_
              clear hK K
              refine wpAny_ready (rs := [7]) (by kernel_rfl) (by simp) ?_
              refine AllReady.cons rfl (fun K hK => ?_) AllReady.nil
              go_simp
              refine hK _ _ ?_
              clear hK K
              have cv3 := cell_kept_alloc cv2 (.cells #[.int .i64 x.1.1.tag, .slice a2 x.1.1.zs.length c2] 55)
              refine wpAny_ready (rs := [8]) (by kernel_rfl) (by simp) ?_
              refine AllReady.cons rfl (fun K hK => ?_) AllReady.nil
              rw [if_pos (by rfl)]
              refine wp_append_field (.tmp 18) (.tmp 25) rfl _ _ rfl rfl w.heap.size xs ⟨x.1.1.tag, a2, x.1.1.zs.length, c2, x.1.1.zs⟩ ((hrr.kept (below_grown hB2) (by simp [Value.ownBlock])).alloc _) (cells_new W2 _) (by omega) (by have := hB2.size; simp; omega) ?_
              intro v5 w5 hr5 hg5 hf5
              obtain ⟨k1, k2, k3, k4, hv5⟩ := dec_step (y := x) (by omega) hsW hv hrr hok hsd hp hx2 hB2 hK2 hrow2 hr5 hg5 hf5
              obtain ⟨g5, c5, rfl⟩ := ownsRow_pos hr5 (by omega)
              have cv5 := hv5.cell
              have fv5 := hv5.frozen
              refine hK _ _ ?_
              clear hK K
              refine wpAny_ready (rs := [9]) (by kernel_rfl) (by simp) ?_
              refine AllReady.cons rfl (fun K hK => ?_) AllReady.nil
              go_simp
              refine hK _ _ ?_
              clear hK K
              refine wpAny_done (by kernel_rfl) ?_ _
              exact ⟨k1.from _, k2, ⟨⟨⟨k3, by simp; omega⟩, k4 _ _ _ bR1 (by omega) (by decide)⟩, k4 _ _ _ bE1 (by omega) (by decide), hB1.trans k2.1⟩⟩
            · go_simp
              refine hK _ _ ?_
              clear hK K
              refine wpAny_ready (rs := [0, 5]) (by kernel_rfl) (by simp) ?_
              refine AllReady.cons rfl (fun K hK => ?_) (AllReady.cons rfl (fun K hK => ?_) AllReady.nil)
              · go_simp
                refine hK _ _ ?_
                clear hK K
                refine wpAny_ready (rs := [5]) (by kernel_rfl) (by simp) ?_
                refine AllReady.cons rfl (fun K hK => ?_) AllReady.nil
                go_simp
                go_wp2_with (go_at_call 42; go_must (refine (callsIn_wide.1 (clone_in Fence.wide 0 trivial rfl w.heap.size x.1.1.a x.1.1.len x.1.1.cap x.1.1.zs _ hbx hzl hsW)).mono ?_); rintro e W2 ⟨a2, c2, rfl, hrow2, hB2d, hK2d⟩; obtain ⟨hB2, hK2⟩ := undrew hB2d hK2d; clear hB2d hK2d; have cv2 := (boxed_below hv hB2).cell; have cX02 := cell_two_0 ((hB2.block Bx hBxl).trans bX))
                refine wpAny_ready (rs := [6]) (by kernel_rfl) (by simp) ?_
                refine AllReady.cons rfl (fun K hK => ?_) AllReady.nil
                go_simp
                refine hK _ _ ?_
                clear hK K
                refine wpAny_ready (rs := [7]) (by kernel_rfl) (by simp) ?_
                refine AllReady.cons rfl (fun K hK => ?_) AllReady.nil
                go_simp
                refine hK _ _ ?_
                clear hK K
                have cv3 := cell_kept_alloc cv2 (.cells #[.int .i64 x.1.1.tag, .slice a2 x.1.1.zs.length c2] 55)
                refine wpAny_ready (rs := [8]) (by kernel_rfl) (by simp) ?_
                refine AllReady.cons rfl (fun K hK => ?_) AllReady.nil
                rw [if_pos (by rfl)]
                refine wp_append_field (.tmp 18) (.tmp 25) rfl _ _ rfl rfl w.heap.size xs ⟨x.1.1.tag, a2, x.1.1.zs.length, c2, x.1.1.zs⟩ ((hrr.kept (below_grown hB2) (by simp [Value.ownBlock])).alloc _) (cells_new W2 _) (by omega) (by have := hB2.size; simp; omega) ?_
                intro v5 w5 hr5 hg5 hf5
                obtain ⟨k1, k2, k3, k4, hv5⟩ := dec_step (y := x) (by omega) hsW hv hrr hok hsd hp hx2 hB2 hK2 hrow2 hr5 hg5 hf5
                obtain ⟨g5, c5, rfl⟩ := ownsRow_pos hr5 (by omega)
                have cv5 := hv5.cell
                have fv5 := hv5.frozen
                refine hK _ _ ?_
                clear hK K
                refine wpAny_ready (rs := [9]) (by kernel_rfl) (by simp) ?_
                refine AllReady.cons rfl (fun K hK => ?_) AllReady.nil
                go_simp
                refine hK _ _ ?_
                clear hK K
                refine wpAny_done (by kernel_rfl) ?_ _
                exact ⟨k1.from _, k2, ⟨⟨⟨k3, by simp; omega⟩, k4 _ _ _ bR1 (by omega) (by decide)⟩, k4 _ _ _ bE1 (by omega) (by decide), hB1.trans k2.1⟩⟩
              · go_simp
                go_wp2_with (go_at_call 42; go_must (refine (callsIn_wide.1 (clone_in Fence.wide 0 trivial rfl w.heap.size x.1.1.a x.1.1.len x.1.1.cap x.1.1.zs _ hbx hzl hsW)).mono ?_); rintro e W2 ⟨a2, c2, rfl, hrow2, hB2d, hK2d⟩; obtain ⟨hB2, hK2⟩ := undrew hB2d hK2d; clear hB2d hK2d; have cv2 := (boxed_below hv hB2).cell; have cX02 := cell_two_0 ((hB2.block Bx hBxl).trans bX))
                refine wpAny_ready (rs := [0, 6]) (by kernel_rfl) (by simp) ?_
                refine AllReady.cons rfl (fun K hK => ?_) (AllReady.cons rfl (fun K hK => ?_) AllReady.nil)
                · go_simp
                  refine hK _ _ ?_
                  clear hK K
                  refine wpAny_ready (rs := [6]) (by kernel_rfl) (by simp) ?_
                  refine AllReady.cons rfl (fun K hK => ?_) AllReady.nil
                  go_simp
                  refine hK _ _ ?_
                  clear hK K
                  refine wpAny_ready (rs := [7]) (by kernel_rfl) (by simp) ?_
                  refine AllReady.cons rfl (fun K hK => ?_) AllReady.nil
                  go_simp
                  refine hK _ _ ?_
                  clear hK K
                  have cv3 := cell_kept_alloc cv2 (.cells #[.int .i64 x.1.1.tag, .slice a2 x.1.1.zs.length c2] 55)
                  refine wpAny_ready (rs := [8]) (by kernel_rfl) (by simp) ?_
                  refine AllReady.cons rfl (fun K hK => ?_) AllReady.nil
                  rw [if_pos (by rfl)]
                  refine wp_append_field (.tmp 18) (.tmp 25) rfl _ _ rfl rfl w.heap.size xs ⟨x.1.1.tag, a2, x.1.1.zs.length, c2, x.1.1.zs⟩ ((hrr.kept (below_grown hB2) (by simp [Value.ownBlock])).alloc _) (cells_new W2 _) (by omega) (by have := hB2.size; simp; omega) ?_
                  intro v5 w5 hr5 hg5 hf5
                  obtain ⟨k1, k2, k3, k4, hv5⟩ := dec_step (y := x) (by omega) hsW hv hrr hok hsd hp hx2 hB2 hK2 hrow2 hr5 hg5 hf5
                  obtain ⟨g5, c5, rfl⟩ := ownsRow_pos hr5 (by omega)
                  have cv5 := hv5.cell
                  have fv5 := hv5.frozen
                  refine hK _ _ ?_
                  clear hK K
                  refine wpAny_ready (rs := [9]) (by kernel_rfl) (by simp) ?_
                  refine AllReady.cons rfl (fun K hK => ?_) AllReady.nil
                  go_simp
                  refine hK _ _ ?_
                  clear hK K
                  refine wpAny_done (by kernel_rfl) ?_ _
                  exact ⟨k1.from _, k2, ⟨⟨⟨k3, by simp; omega⟩, k4 _ _ _ bR1 (by omega) (by decide)⟩, k4 _ _ _ bE1 (by omega) (by decide), hB1.trans k2.1⟩⟩
                · go_simp
                  refine hK _ _ ?_
                  clear hK K
                  refine wpAny_ready (rs := [0, 7]) (by kernel_rfl) (by simp) ?_
                  refine AllReady.cons rfl (fun K hK => ?_) (AllReady.cons rfl (fun K hK => ?_) AllReady.nil)
                  · go_simp
                    refine hK _ _ ?_
                    clear hK K
                    refine wpAny_ready (rs := [7]) (by kernel_rfl) (by simp) ?_
                    refine AllReady.cons rfl (fun K hK => ?_) AllReady.nil
                    go_simp
                    refine hK _ _ ?_
                    clear hK K
                    have cv3 := cell_kept_alloc cv2 (.cells #[.int .i64 x.1.1.tag, .slice a2 x.1.1.zs.length c2] 55)
                    refine wpAny_ready (rs := [8]) (by kernel_rfl) (by simp) ?_
                    refine AllReady.cons rfl (fun K hK => ?_) AllReady.nil
                    rw [if_pos (by rfl)]
                    refine wp_append_field (.tmp 18) (.tmp 25) rfl _ _ rfl rfl w.heap.size xs ⟨x.1.1.tag, a2, x.1.1.zs.length, c2, x.1.1.zs⟩ ((hrr.kept (below_grown hB2) (by simp [Value.ownBlock])).alloc _) (cells_new W2 _) (by omega) (by have := hB2.size; simp; omega) ?_
                    intro v5 w5 hr5 hg5 hf5
                    obtain ⟨k1, k2, k3, k4, hv5⟩ := dec_step (y := x) (by omega) hsW hv hrr hok hsd hp hx2 hB2 hK2 hrow2 hr5 hg5 hf5
                    obtain ⟨g5, c5, rfl⟩ := ownsRow_pos hr5 (by omega)
                    have cv5 := hv5.cell
                    have fv5 := hv5.frozen
                    refine hK _ _ ?_
                    clear hK K
                    refine wpAny_ready (rs := [9]) (by kernel_rfl) (by simp) ?_
                    refine AllReady.cons rfl (fun K hK => ?_) AllReady.nil
                    go_simp
                    refine hK _ _ ?_
                    clear hK K
                    refine wpAny_done (by kernel_rfl) ?_ _
                    exact ⟨k1.from _, k2, ⟨⟨⟨k3, by simp; omega⟩, k4 _ _ _ bR1 (by omega) (by decide)⟩, k4 _ _ _ bE1 (by omega) (by decide), hB1.trans k2.1⟩⟩
                  · go_simp
                    refine hK _ _ ?_
                    clear hK K
                    have cv3 := cell_kept_alloc cv2 (.cells #[.int .i64 x.1.1.tag, .slice a2 x.1.1.zs.length c2] 55)
                    refine wpAny_ready (rs := [0]) (by kernel_rfl) (by simp) ?_
                    refine AllReady.cons rfl (fun K hK => ?_) AllReady.nil
                    go_simp
                    refine hK _ _ ?_
                    clear hK K
                    refine wpAny_ready (rs := [8]) (by kernel_rfl) (by simp) ?_
                    refine AllReady.cons rfl (fun K hK => ?_) AllReady.nil
                    rw [if_pos (by rfl)]
                    refine wp_append_field (.tmp 18) (.tmp 25) rfl _ _ rfl rfl w.heap.size xs ⟨x.1.1.tag, a2, x.1.1.zs.length, c2, x.1.1.zs⟩ ((hrr.kept (below_grown hB2) (by simp [Value.ownBlock])).alloc _) (cells_new W2 _) (by omega) (by have := hB2.size; simp; omega) ?_
                    intro v5 w5 hr5 hg5 hf5
                    obtain ⟨k1, k2, k3, k4, hv5⟩ := dec_step (y := x) (by omega) hsW hv hrr hok hsd hp hx2 hB2 hK2 hrow2 hr5 hg5 hf5
                    obtain ⟨g5, c5, rfl⟩ := ownsRow_pos hr5 (by omega)
                    have cv5 := hv5.cell
                    have fv5 := hv5.frozen
                    refine hK _ _ ?_
                    clear hK K
                    refine wpAny_ready (rs := [9]) (by kernel_rfl) (by simp) ?_
                    refine AllReady.cons rfl (fun K hK => ?_) AllReady.nil
                    go_simp
                    refine hK _ _ ?_
                    clear hK K
                    refine wpAny_done (by kernel_rfl) ?_ _
                    exact ⟨k1.from _, k2, ⟨⟨⟨k3, by simp; omega⟩, k4 _ _ _ bR1 (by omega) (by decide)⟩, k4 _ _ _ bE1 (by omega) (by decide), hB1.trans k2.1⟩⟩
          · go_simp
            refine hK _ _ ?_
            clear hK K
            refine wpAny_ready (rs := [0, 2, 5]) (by kernel_rfl) (by simp) ?_
            refine AllReady.cons rfl (fun K hK => ?_) (AllReady.cons rfl (fun K hK => ?_) (AllReady.cons rfl (fun K hK => ?_) AllReady.nil))
            · go_simp
              refine hK _ _ ?_
              clear hK K
              refine wpAny_ready (rs := [2, 5]) (by kernel_rfl) (by simp) ?_
              refine AllReady.cons rfl (fun K hK => ?_) (AllReady.cons rfl (fun K hK => ?_) AllReady.nil)
              · go_simp
                refine hK _ _ ?_
                clear hK K
                refine wpAny_ready (rs := [5]) (by kernel_rfl) (by simp) ?_
                refine AllReady.cons rfl (fun K hK => ?_) AllReady.nil
                go_simp
                go_wp2_with (go_at_call 42; go_must (refine (callsIn_wide.1 (clone_in Fence.wide 0 trivial rfl w.heap.size x.1.1.a x.1.1.len x.1.1.cap x.1.1.zs _ hbx hzl hsW)).mono ?_); rintro e W2 ⟨a2, c2, rfl, hrow2, hB2d, hK2d⟩; obtain ⟨hB2, hK2⟩ := undrew hB2d hK2d; clear hB2d hK2d; have cv2 := (boxed_below hv hB2).cell; have cX02 := cell_two_0 ((hB2.block Bx hBxl).trans bX))
                refine wpAny_ready (rs := [6]) (by kernel_rfl) (by simp) ?_
                refine AllReady.cons rfl (fun K hK => ?_) AllReady.nil
                go_simp
                refine hK _ _ ?_
                clear hK K
                refine wpAny_ready (rs := [7]) (by kernel_rfl) (by simp) ?_
                refine AllReady.cons rfl (fun K hK => ?_) AllReady.nil
                go_simp
                refine hK _ _ ?_
                clear hK K
                have cv3 := cell_kept_alloc cv2 (.cells #[.int .i64 x.1.1.tag, .slice a2 x.1.1.zs.length c2] 55)
                refine wpAny_ready (rs := [8]) (by kernel_rfl) (by simp) ?_
                refine AllReady.cons rfl (fun K hK => ?_) AllReady.nil
                rw [if_pos (by rfl)]
                refine wp_append_field (.tmp 18) (.tmp 25) rfl _ _ rfl rfl w.heap.size xs ⟨x.1.1.tag, a2, x.1.1.zs.length, c2, x.1.1.zs⟩ ((hrr.kept (below_grown hB2) (by simp [Value.ownBlock])).alloc _) (cells_new W2 _) (by omega) (by have := hB2.size; simp; omega) ?_
                intro v5 w5 hr5 hg5 hf5
                obtain ⟨k1, k2, k3, k4, hv5⟩ := dec_step (y := x) (by omega) hsW hv hrr hok hsd hp hx2 hB2 hK2 hrow2 hr5 hg5 hf5
                obtain ⟨g5, c5, rfl⟩ := ownsRow_pos hr5 (by omega)
                have cv5 := hv5.cell
                have fv5 := hv5.frozen
                refine hK _ _ ?_
                clear hK K
                refine wpAny_ready (rs := [9]) (by kernel_rfl) (by simp) ?_
                refine AllReady.cons rfl (fun K hK => ?_) AllReady.nil
                go_simp
                refine hK _ _ ?_
                clear hK K
                refine wpAny_done (by kernel_rfl) ?_ _
                exact ⟨k1.from _, k2, ⟨⟨⟨k3, by simp; omega⟩, k4 _ _ _ bR1 (by omega) (by decide)⟩, k4 _ _ _ bE1 (by omega) (by decide), hB1.trans k2.1⟩⟩
              · go_simp
                go_wp2_with (go_at_call 42; go_must (refine (callsIn_wide.1 (clone_in Fence.wide 0 trivial rfl w.heap.size x.1.1.a x.1.1.len x.1.1.cap x.1.1.zs _ hbx hzl hsW)).mono ?_); rintro e W2 ⟨a2, c2, rfl, hrow2, hB2d, hK2d⟩; obtain ⟨hB2, hK2⟩ := undrew hB2d hK2d; clear hB2d hK2d; have cv2 := (boxed_below hv hB2).cell; have cX02 := cell_two_0 ((hB2.block Bx hBxl).trans bX))
                refine wpAny_ready (rs := [2]) (by kernel_rfl) (by simp) ?_
                refine AllReady.cons rfl (fun K hK => ?_) AllReady.nil
                go_simp
                refine hK _ _ ?_
                clear hK K
                refine wpAny_ready (rs := [6]) (by kernel_rfl) (by simp) ?_
                refine AllReady.cons rfl (fun K hK => ?_) AllReady.nil
                go_simp
                refine hK _ _ ?_
                clear hK K
                refine wpAny_ready (rs := [7]) (by kernel_rfl) (by simp) ?_
                refine AllReady.cons rfl (fun K hK => ?_) AllReady.nil
                go_simp
                refine hK _ _ ?_
                clear hK K
                have cv3 := cell_kept_alloc cv2 (.cells #[.int .i64 x.1.1.tag, .slice a2 x.1.1.zs.length c2] 55)
                refine wpAny_ready (rs := [8]) (by kernel_rfl) (by simp) ?_
                refine AllReady.cons rfl (fun K hK => ?_) AllReady.nil
                rw [if_pos (by rfl)]
                refine wp_append_field (.tmp 18) (.tmp 25) rfl _ _ rfl rfl w.heap.size xs ⟨x.1.1.tag, a2, x.1.1.zs.length, c2, x.1.1.zs⟩ ((hrr.kept (below_grown hB2) (by simp [Value.ownBlock])).alloc _) (cells_new W2 _) (by omega) (by have := hB2.size; simp; omega) ?_
                intro v5 w5 hr5 hg5 hf5
                obtain ⟨k1, k2, k3, k4, hv5⟩ := dec_step (y := x) (by omega) hsW hv hrr hok hsd hp hx2 hB2 hK2 hrow2 hr5 hg5 hf5
                obtain ⟨g5, c5, rfl⟩ := ownsRow_pos hr5 (by omega)
                have cv5 := hv5.cell
                have fv5 := hv5.frozen
                refine hK _ _ ?_
                clear hK K
                refine wpAny_ready (rs := [9]) (by kernel_rfl) (by simp) ?_
                refine AllReady.cons rfl (fun K hK => ?_) AllReady.nil
                go_simp
                refine hK _ _ ?_
                clear hK K
                refine wpAny_done (by kernel_rfl) ?_ _
                exact ⟨k1.from _, k2, ⟨⟨⟨k3, by simp; omega⟩, k4 _ _ _ bR1 (by omega) (by decide)⟩, k4 _ _ _ bE1 (by omega) (by decide), hB1.trans k2.1⟩⟩
            · go_simp
              refine hK _ _ ?_
              clear hK K
              refine wpAny_ready (rs := [0, 5]) (by kernel_rfl) (by simp) ?_
              refine AllReady.cons rfl (fun K hK => ?_) (AllReady.cons rfl (fun K hK => ?_) AllReady.nil)
              · go_simp
                refine hK _ _ ?_
                clear hK K
                refine wpAny_ready (rs := [5]) (by kernel_rfl) (by simp) ?_
                refine AllReady.cons rfl (fun K hK => ?_) AllReady.nil
                go_simp
                go_wp2_with (go_at_call 42; go_must (refine (callsIn_wide.1 (clone_in Fence.wide 0 trivial rfl w.heap.size x.1.1.a x.1.1.len x.1.1.cap x.1.1.zs _ hbx hzl hsW)).mono ?_); rintro e W2 ⟨a2, c2, rfl, hrow2, hB2d, hK2d⟩; obtain ⟨hB2, hK2⟩ := undrew hB2d hK2d; clear hB2d hK2d; have cv2 := (boxed_below hv hB2).cell; have cX02 := cell_two_0 ((hB2.block Bx hBxl).trans bX))
                refine wpAny_ready (rs := [6]) (by kernel_rfl) (by simp) ?_
                refine AllReady.cons rfl (fun K hK => ?_) AllReady.nil
                go_simp
                refine hK _ _ ?_
                clear hK K
                refine wpAny_ready (rs := [7]) (by kernel_rfl) (by simp) ?_
                refine AllReady.cons rfl (fun K hK => ?_) AllReady.nil
                go_simp
                refine hK _ _ ?_
                clear hK K
                have cv3 := cell_kept_alloc cv2 (.cells #[.int .i64 x.1.1.tag, .slice a2 x.1.1.zs.length c2] 55)
                refine wpAny_ready (rs := [8]) (by kernel_rfl) (by simp) ?_
                refine AllReady.cons rfl (fun K hK => ?_) AllReady.nil
                rw [if_pos (by rfl)]
                refine wp_append_field (.tmp 18) (.tmp 25) rfl _ _ rfl rfl w.heap.size xs ⟨x.1.1.tag, a2, x.1.1.zs.length, c2, x.1.1.zs⟩ ((hrr.kept (below_grown hB2) (by simp [Value.ownBlock])).alloc _) (cells_new W2 _) (by omega) (by have := hB2.size; simp; omega) ?_
                intro v5 w5 hr5 hg5 hf5
                obtain ⟨k1, k2, k3, k4, hv5⟩ := dec_step (y := x) (by omega) hsW hv hrr hok hsd hp hx2 hB2 hK2 hrow2 hr5 hg5 hf5
                obtain ⟨g5, c5, rfl⟩ := ownsRow_pos hr5 (by omega)
                have cv5 := hv5.cell
                have fv5 := hv5.frozen
                refine hK _ _ ?_
                clear hK K
                refine wpAny_ready (rs := [9]) (by kernel_rfl) (by simp) ?_
                refine AllReady.cons rfl (fun K hK => ?_) AllReady.nil
                go_simp
                refine hK _ _ ?_
                clear hK K
                refine wpAny_done (by kernel_rfl) ?_ _
                exact ⟨k1.from _, k2, ⟨⟨⟨k3, by simp; omega⟩, k4 _ _ _ bR1 (by omega) (by decide)⟩, k4 _ _ _ bE1 (by omega) (by decide), hB1.trans k2.1⟩⟩
              · go_simp
                go_wp2_with (go_at_call 42; go_must (refine (callsIn_wide.1 (clone_in Fence.wide 0 trivial rfl w.heap.size x.1.1.a x.1.1.len x.1.1.cap x.1.1.zs _ hbx hzl hsW)).mono ?_); rintro e W2 ⟨a2, c2, rfl, hrow2, hB2d, hK2d⟩; obtain ⟨hB2, hK2⟩ := undrew hB2d hK2d; clear hB2d hK2d; have cv2 := (boxed_below hv hB2).cell; have cX02 := cell_two_0 ((hB2.block Bx hBxl).trans bX))
                refine wpAny_ready (rs := [0, 6]) (by kernel_rfl) (by simp) ?_
                refine AllReady.cons rfl (fun K hK => ?_) (AllReady.cons rfl (fun K hK => ?_) AllReady.nil)
                · go_simp
                  refine hK _ _ ?_
                  clear hK K
                  refine wpAny_ready (rs := [6]) (by kernel_rfl) (by simp) ?_
                  refine AllReady.cons rfl (fun K hK => ?_) AllReady.nil
                  go_simp
                  refine hK _ _ ?_
                  clear hK K
                  refine wpAny_ready (rs := [7]) (by kernel_rfl) (by simp) ?_
                  refine AllReady.cons rfl (fun K hK => ?_) AllReady.nil
                  go_simp
                  refine hK _ _ ?_
                  clear hK K
                  have cv3 := cell_kept_alloc cv2 (.cells #[.int .i64 x.1.1.tag, .slice a2 x.1.1.zs.length c2] 55)
                  refine wpAny_ready (rs := [8]) (by kernel_rfl) (by simp) ?_
                  refine AllReady.cons rfl (fun K hK => ?_) AllReady.nil
                  rw [if_pos (by rfl)]
                  refine wp_append_field (.tmp 18) (.tmp 25) rfl _ _ rfl rfl w.heap.size xs ⟨x.1.1.tag, a2, x.1.1.zs.length, c2, x.1.1.zs⟩ ((hrr.kept (below_grown hB2) (by simp [Value.ownBlock])).alloc _) (cells_new W2 _) (by omega) (by have := hB2.size; simp; omega) ?_
                  intro v5 w5 hr5 hg5 hf5
                  obtain ⟨k1, k2, k3, k4, hv5⟩ := dec_step (y := x) (by omega) hsW hv hrr hok hsd hp hx2 hB2 hK2 hrow2 hr5 hg5 hf5
                  obtain ⟨g5, c5, rfl⟩ := ownsRow_pos hr5 (by omega)
                  have cv5 := hv5.cell
                  have fv5 := hv5.frozen
                  refine hK _ _ ?_
                  clear hK K
                  refine wpAny_ready (rs := [9]) (by kernel_rfl) (by simp) ?_
                  refine AllReady.cons rfl (fun K hK => ?_) AllReady.nil
                  go_simp
                  refine hK _ _ ?_
                  clear hK K
                  refine wpAny_done (by kernel_rfl) ?_ _
                  exact ⟨k1.from _, k2, ⟨⟨⟨k3, by simp; omega⟩, k4 _ _ _ bR1 (by omega) (by decide)⟩, k4 _ _ _ bE1 (by omega) (by decide), hB1.trans k2.1⟩⟩
                · go_simp
                  refine hK _ _ ?_
                  clear hK K
                  refine wpAny_ready (rs := [0, 7]) (by kernel_rfl) (by simp) ?_
                  refine AllReady.cons rfl (fun K hK => ?_) (AllReady.cons rfl (fun K hK => ?_) AllReady.nil)
                  · go_simp
                    refine hK _ _ ?_
                    clear hK K
                    refine wpAny_ready (rs := [7]) (by kernel_rfl) (by simp) ?_
                    refine AllReady.cons rfl (fun K hK => ?_) AllReady.nil
                    go_simp
                    refine hK _ _ ?_
                    clear hK K
                    have cv3 := cell_kept_alloc cv2 (.cells #[.int .i64 x.1.1.tag, .slice a2 x.1.1.zs.length c2] 55)
                    refine wpAny_ready (rs := [8]) (by kernel_rfl) (by simp) ?_
                    refine AllReady.cons rfl (fun K hK => ?_) AllReady.nil
                    rw [if_pos (by rfl)]
                    refine wp_append_field (.tmp 18) (.tmp 25) rfl _ _ rfl rfl w.heap.size xs ⟨x.1.1.tag, a2, x.1.1.zs.length, c2, x.1.1.zs⟩ ((hrr.kept (below_grown hB2) (by simp [Value.ownBlock])).alloc _) (cells_new W2 _) (by omega) (by have := hB2.size; simp; omega) ?_
                    intro v5 w5 hr5 hg5 hf5
                    obtain ⟨k1, k2, k3, k4, hv5⟩ := dec_step (y := x) (by omega) hsW hv hrr hok hsd hp hx2 hB2 hK2 hrow2 hr5 hg5 hf5
                    obtain ⟨g5, c5, rfl⟩ := ownsRow_pos hr5 (by omega)
                    have cv5 := hv5.cell
                    have fv5 := hv5.frozen
                    refine hK _ _ ?_
                    clear hK K
                    refine wpAny_ready (rs := [9]) (by kernel_rfl) (by simp) ?_
                    refine AllReady.cons rfl (fun K hK => ?_) AllReady.nil
                    go_simp
                    refine hK _ _ ?_
                    clear hK K
                    refine wpAny_done (by kernel_rfl) ?_ _
                    exact ⟨k1.from _, k2, ⟨⟨⟨k3, by simp; omega⟩, k4 _ _ _ bR1 (by omega) (by decide)⟩, k4 _ _ _ bE1 (by omega) (by decide), hB1.trans k2.1⟩⟩
                  · go_simp
                    refine hK _ _ ?_
                    clear hK K
                    have cv3 := cell_kept_alloc cv2 (.cells #[.int .i64 x.1.1.tag, .slice a2 x.1.1.zs.length c2] 55)
                    refine wpAny_ready (rs := [0]) (by kernel_rfl) (by simp) ?_
                    refine AllReady.cons rfl (fun K hK => ?_) AllReady.nil
                    go_simp
                    refine hK _ _ ?_
                    clear hK K
                    refine wpAny_ready (rs := [8]) (by kernel_rfl) (by simp) ?_
                    refine AllReady.cons rfl (fun K hK => ?_) AllReady.nil
                    rw [if_pos (by rfl)]
                    refine wp_append_field (.tmp 18) (.tmp 25) rfl _ _ rfl rfl w.heap.size xs ⟨x.1.1.tag, a2, x.1.1.zs.length, c2, x.1.1.zs⟩ ((hrr.kept (below_grown hB2) (by simp [Value.ownBlock])).alloc _) (cells_new W2 _) (by omega) (by have := hB2.size; simp; omega) ?_
                    intro v5 w5 hr5 hg5 hf5
                    obtain ⟨k1, k2, k3, k4, hv5⟩ := dec_step (y := x) (by omega) hsW hv hrr hok hsd hp hx2 hB2 hK2 hrow2 hr5 hg5 hf5
                    obtain ⟨g5, c5, rfl⟩ := ownsRow_pos hr5 (by omega)
                    have cv5 := hv5.cell
                    have fv5 := hv5.frozen
                    refine hK _ _ ?_
                    clear hK K
                    refine wpAny_ready (rs := [9]) (by kernel_rfl) (by simp) ?_
                    refine AllReady.cons rfl (fun K hK => ?_) AllReady.nil
                    go_simp
                    refine hK _ _ ?_
                    clear hK K
                    refine wpAny_done (by kernel_rfl) ?_ _
                    exact ⟨k1.from _, k2, ⟨⟨⟨k3, by simp; omega⟩, k4 _ _ _ bR1 (by omega) (by decide)⟩, k4 _ _ _ bE1 (by omega) (by decide), hB1.trans k2.1⟩⟩
            · go_simp
              go_wp2_with (go_at_call 42; go_must (refine (callsIn_wide.1 (clone_in Fence.wide 0 trivial rfl w.heap.size x.1.1.a x.1.1.len x.1.1.cap x.1.1.zs _ hbx hzl hsW)).mono ?_); rintro e W2 ⟨a2, c2, rfl, hrow2, hB2d, hK2d⟩; obtain ⟨hB2, hK2⟩ := undrew hB2d hK2d; clear hB2d hK2d; have cv2 := (boxed_below hv hB2).cell; have cX02 := cell_two_0 ((hB2.block Bx hBxl).trans bX))
              refine wpAny_ready (rs := [0, 2]) (by kernel_rfl) (by simp) ?_
              refine AllReady.cons rfl (fun K hK => ?_) (AllReady.cons rfl (fun K hK => ?_) AllReady.nil)
              · go_simp
                refine hK _ _ ?_
                clear hK K
                refine wpAny_ready (rs := [2]) (by kernel_rfl) (by simp) ?_
                refine AllReady.cons rfl (fun K hK => ?_) AllReady.nil
                go_simp
                refine hK _ _ ?_
                clear hK K
                refine wpAny_ready (rs := [6]) (by kernel_rfl) (by simp) ?_
                refine AllReady.cons rfl (fun K hK => ?_) AllReady.nil
                go_simp
                refine hK _ _ ?_
                clear hK K
                refine wpAny_ready (rs := [7]) (by kernel_rfl) (by simp) ?_
                refine AllReady.cons rfl (fun K hK => ?_) AllReady.nil
                go_simp
                refine hK _ _ ?_
                clear hK K
                have cv3 := cell_kept_alloc cv2 (.cells #[.int .i64 x.1.1.tag, .slice a2 x.1.1.zs.length c2] 55)
                refine wpAny_ready (rs := [8]) (by kernel_rfl) (by simp) ?_
                refine AllReady.cons rfl (fun K hK => ?_) AllReady.nil
                rw [if_pos (by rfl)]
                refine wp_append_field (.tmp 18) (.tmp 25) rfl _ _ rfl rfl w.heap.size xs ⟨x.1.1.tag, a2, x.1.1.zs.length, c2, x.1.1.zs⟩ ((hrr.kept (below_grown hB2) (by simp [Value.ownBlock])).alloc _) (cells_new W2 _) (by omega) (by have := hB2.size; simp; omega) ?_
                intro v5 w5 hr5 hg5 hf5
                obtain ⟨k1, k2, k3, k4, hv5⟩ := dec_step (y := x) (by omega) hsW hv hrr hok hsd hp hx2 hB2 hK2 hrow2 hr5 hg5 hf5
                obtain ⟨g5, c5, rfl⟩ := ownsRow_pos hr5 (by omega)
                have cv5 := hv5.cell
                have fv5 := hv5.frozen
                refine hK _ _ ?_
                clear hK K
                refine wpAny_ready (rs := [9]) (by kernel_rfl) (by simp) ?_
                refine AllReady.cons rfl (fun K hK => ?_) AllReady.nil
                go_simp
                refine hK _ _ ?_
                clear hK K
                refine wpAny_done (by kernel_rfl) ?_ _
                exact ⟨k1.from _, k2, ⟨⟨⟨k3, by simp; omega⟩, k4 _ _ _ bR1 (by omega) (by decide)⟩, k4 _ _ _ bE1 (by omega) (by decide), hB1.trans k2.1⟩⟩
              · go_simp
                refine hK _ _ ?_
                clear hK K
                refine wpAny_ready (rs := [0, 6]) (by kernel_rfl) (by simp) ?_
                refine AllReady.cons rfl (fun K hK => ?_) (AllReady.cons rfl (fun K hK => ?_) AllReady.nil)
                · go_simp
                  refine hK _ _ ?_
                  clear hK K
                  refine wpAny_ready (rs := [6]) (by kernel_rfl) (by simp) ?_
                  refine AllReady.cons rfl (fun K hK => ?_) AllReady.nil
                  go_simp
                  refine hK _ _ ?_
                  clear hK K
                  refine wpAny_ready (rs := [7]) (by kernel_rfl) (by simp) ?_
                  refine AllReady.cons rfl (fun K hK => ?_) AllReady.nil
                  go_simp
                  refine hK _ _ ?_
                  clear hK K
                  have cv3 := cell_kept_alloc cv2 (.cells #[.int .i64 x.1.1.tag, .slice a2 x.1.1.zs.length c2] 55)
                  refine wpAny_ready (rs := [8]) (by kernel_rfl) (by simp) ?_
                  refine AllReady.cons rfl (fun K hK => ?_) AllReady.nil
                  rw [if_pos (by rfl)]
                  refine wp_append_field (.tmp 18) (.tmp 25) rfl _ _ rfl rfl w.heap.size xs ⟨x.1.1.tag, a2, x.1.1.zs.length, c2, x.1.1.zs⟩ ((hrr.kept (below_grown hB2) (by simp [Value.ownBlock])).alloc _) (cells_new W2 _) (by omega) (by have := hB2.size; simp; omega) ?_
                  intro v5 w5 hr5 hg5 hf5
                  obtain ⟨k1, k2, k3, k4, hv5⟩ := dec_step (y := x) (by omega) hsW hv hrr hok hsd hp hx2 hB2 hK2 hrow2 hr5 hg5 hf5
                  obtain ⟨g5, c5, rfl⟩ := ownsRow_pos hr5 (by omega)
                  have cv5 := hv5.cell
                  have fv5 := hv5.frozen
                  refine hK _ _ ?_
                  clear hK K
                  refine wpAny_ready (rs := [9]) (by kernel_rfl) (by simp) ?_
                  refine AllReady.cons rfl (fun K hK => ?_) AllReady.nil
                  go_simp
                  refine hK _ _ ?_
                  clear hK K
                  refine wpAny_done (by kernel_rfl) ?_ _
                  exact ⟨k1.from _, k2, ⟨⟨⟨k3, by simp; omega⟩, k4 _ _ _ bR1 (by omega) (by decide)⟩, k4 _ _ _ bE1 (by omega) (by decide), hB1.trans k2.1⟩⟩
                · go_simp
                  refine hK _ _ ?_
                  clear hK K
                  refine wpAny_ready (rs := [0, 7]) (by kernel_rfl) (by simp) ?_
                  refine AllReady.cons rfl (fun K hK => ?_) (AllReady.cons rfl (fun K hK => ?_) AllReady.nil)
                  · go_simp
                    refine hK _ _ ?_
                    clear hK K
                    refine wpAny_ready (rs := [7]) (by kernel_rfl) (by simp) ?_
                    refine AllReady.cons rfl (fun K hK => ?_) AllReady.nil
                    go_simp
                    refine hK _ _ ?_
                    clear hK K
                    have cv3 := cell_kept_alloc cv2 (.cells #[.int .i64 x.1.1.tag, .slice a2 x.1.1.zs.length c2] 55)
                    refine wpAny_ready (rs := [8]) (by kernel_rfl) (by simp) ?_
                    refine AllReady.cons rfl (fun K hK => ?_) AllReady.nil
                    rw [if_pos (by rfl)]
                    refine wp_append_field (.tmp 18) (.tmp 25) rfl _ _ rfl rfl w.heap.size xs ⟨x.1.1.tag, a2, x.1.1.zs.length, c2, x.1.1.zs⟩ ((hrr.kept (below_grown hB2) (by simp [Value.ownBlock])).alloc _) (cells_new W2 _) (by omega) (by have := hB2.size; simp; omega) ?_
                    intro v5 w5 hr5 hg5 hf5
                    obtain ⟨k1, k2, k3, k4, hv5⟩ := dec_step (y := x) (by omega) hsW hv hrr hok hsd hp hx2 hB2 hK2 hrow2 hr5 hg5 hf5
                    obtain ⟨g5, c5, rfl⟩ := ownsRow_pos hr5 (by omega)
                    have cv5 := hv5.cell
                    have fv5 := hv5.frozen
                    refine hK _ _ ?_
                    clear hK K
                    refine wpAny_ready (rs := [9]) (by kernel_rfl) (by simp) ?_
                    refine AllReady.cons rfl (fun K hK => ?_) AllReady.nil
                    go_simp
                    refine hK _ _ ?_
                    clear hK K
                    refine wpAny_done (by kernel_rfl) ?_ _
                    exact ⟨k1.from _, k2, ⟨⟨⟨k3, by simp; omega⟩, k4 _ _ _ bR1 (by omega) (by decide)⟩, k4 _ _ _ bE1 (by omega) (by decide), hB1.trans k2.1⟩⟩
                  · go_simp
                    refine hK _ _ ?_
                    clear hK K
                    have cv3 := cell_kept_alloc cv2 (.cells #[.int .i64 x.1.1.tag, .slice a2 x.1.1.zs.length c2] 55)
                    refine wpAny_ready (rs := [0]) (by kernel_rfl) (by simp) ?_
                    refine AllReady.cons rfl (fun K hK => ?_) AllReady.nil
                    go_simp
                    refine hK _ _ ?_
                    clear hK K
                    refine wpAny_ready (rs := [8]) (by kernel_rfl) (by simp) ?_
                    refine AllReady.cons rfl (fun K hK => ?_) AllReady.nil
                    rw [if_pos (by rfl)]
                    refine wp_append_field (.tmp 18) (.tmp 25) rfl _ _ rfl rfl w.heap.size xs ⟨x.1.1.tag, a2, x.1.1.zs.length, c2, x.1.1.zs⟩ ((hrr.kept (below_grown hB2) (by simp [Value.ownBlock])).alloc _) (cells_new W2 _) (by omega) (by have := hB2.size; simp; omega) ?_
                    intro v5 w5 hr5 hg5 hf5
                    obtain ⟨k1, k2, k3, k4, hv5⟩ := dec_step (y := x) (by omega) hsW hv hrr hok hsd hp hx2 hB2 hK2 hrow2 hr5 hg5 hf5
                    obtain ⟨g5, c5, rfl⟩ := ownsRow_pos hr5 (by omega)
                    have cv5 := hv5.cell
                    have fv5 := hv5.frozen
                    refine hK _ _ ?_
                    clear hK K
                    refine wpAny_ready (rs := [9]) (by kernel_rfl) (by simp) ?_
                    refine AllReady.cons rfl (fun K hK => ?_) AllReady.nil
                    go_simp
                    refine hK _ _ ?_
                    clear hK K
                    refine wpAny_done (by kernel_rfl) ?_ _
                    exact ⟨k1.from _, k2, ⟨⟨⟨k3, by simp; omega⟩, k4 _ _ _ bR1 (by omega) (by decide)⟩, k4 _ _ _ bE1 (by omega) (by decide), hB1.trans k2.1⟩⟩
    · have hxf : x.1.2 = false := Bool.eq_false_iff.2 hx2
      rw [hxf]
      gi_wp2
      exact ⟨((KeepsOthers.setCell _ _ _).trans (KeepsOthers.setCell _ _ _)).from _, ⟨⟨rfl, pre, x, rfl, hp, .inl hxf⟩, (bR1.set _).other (by omega) _⟩, (bE1.other (B' := w.heap.size) (by omega) _).set _, (hB1.setCell (p := ⟨w.heap.size, 0, none⟩) (Nat.le_refl _) _).setCell (p := ⟨w.heap.size + 1, 0, none⟩) (by simp) _⟩
  case done =>
    rintro D ys W hD hS ⟨⟨⟨hL, hpl⟩, bR1⟩, bE1, hB1⟩ hK
    obtain ⟨v, xs, hv, hrr, hok, hsd, hp⟩ := hL
    have cR := bR1.cell
    have fR := bR1.frozen
    have cE := bE1.cell
    have fE := bE1.frozen
    have hPS : Part zs ys [] := by
      rcases hS with h | ⟨ini, x, rest, rfl, hxf, _⟩
      · exact h
      · have := hp x (by simp)
        rw [hxf] at this; cases this
    have hk4 := (KeepsOthers.setCell W ⟨w.heap.size, 0, none⟩ v).trans (KeepsOthers.setCell _ ⟨w.heap.size + 1, 0, none⟩ (.int .i64 0))
    have hK' := hk4.same D _ hK rfl
    have b3 := (bR1.set v).other (B' := w.heap.size + 1) (by omega) (.int .i64 0)
    have b4 := (bE1.other (B' := w.heap.size) (by omega) v).set (.int .i64 0)
    have c1 := cell_kept b3.cell (grownBy_putObj' _ D (.deferred none)) (fun r e => by cases e; exact ⟨_, hK', rfl⟩)
    have c2 := cell_kept b4.cell (grownBy_putObj' _ D (.deferred none)) (fun r e => by cases e; exact ⟨_, hK', rfl⟩)
    have hLf : Lst' w.heap.size v ys (((W.setCell ⟨w.heap.size, 0, none⟩ v).setCell ⟨w.heap.size + 1, 0, none⟩ (.int .i64 0)).putObj D (.deferred none)) := lst_end hv hrr hok hsd bR1 bE1 v _ hK'
    have hBf : Below w.heap.size w (((W.setCell ⟨w.heap.size, 0, none⟩ v).setCell ⟨w.heap.size + 1, 0, none⟩ (.int .i64 0)).putObj D (.deferred none)) := ((hB1.setCell (p := ⟨w.heap.size, 0, none⟩) (Nat.le_refl _) _).setCell (p := ⟨w.heap.size + 1, 0, none⟩) (by simp) _).trans (belowK_b (w := w) (Nat.le_refl _) _ D _ _ (by omega) hK' rfl rfl)
    rcases Joins.ownsRow_forms hrr with ⟨rfl, h0⟩ | ⟨g, c, rfl⟩
    all_goals
      have cv := hv.cell
      gi_wp2
      refine ⟨by simp, .inl ⟨_, _, rfl, run_takeDeferred hK', ?_⟩⟩
      refine ⟨.tuple #[_, .int .i64 0], ?_, .inl ⟨_, ys, rfl, hPS, hLf, hpl⟩, hBf⟩
      simp [results, go_sem, c1, c2]
  case stop =>
    rintro D c pre W hD hS ⟨⟨⟨rfl, hbad⟩, bR1⟩, bE1, hB1⟩ hK
    gi_wp2
    refine ⟨by simp, .inl ⟨_, _, rfl, run_takeDeferred hK, ?_⟩⟩
    have c1 := cell_kept bR1.cell (grownBy_putObj' _ D (.deferred none)) (fun r e => by cases e; exact ⟨_, hK, rfl⟩)
    have c2 := cell_kept bE1.cell (grownBy_putObj' _ D (.deferred none)) (fun r e => by cases e; exact ⟨_, hK, rfl⟩)
    refine ⟨.tuple #[.slice none 0 0, .int .i64 12], ?_, .inr ⟨rfl, pre, hbad, hS⟩, hB1.trans (belowK_b (w := w) (Nat.le_refl _) W D _ _ (by omega) hK rfl rfl)⟩
    simp [results, go_sem, c1, c2]
end Go.Proofs.YtmahpceokpajgaaDoor.C
