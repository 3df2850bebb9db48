/- What wal.measure answers. -/
import Derived.Test.YtgblekdllcngnaaFri
namespace Go.Proofs.Ytgblekdllcngnaa
open Go.RowKit Go.Shelf Plain Go.IntWalk
set_option linter.unusedVariables false
attribute [local go_sem] Oper.semAt_some

def tot {n₀ : Nat} {W : World} (ys : List (FrOk n₀ W)) : Nat := (fby ys).flatten.length
theorem tot_snoc {n₀ : Nat} {W : World} (ys : List (FrOk n₀ W)) (x : FrOk n₀ W) : tot (ys ++ [x]) = tot ys + x.1.2.length := by unfold tot; rw [fby_snoc]; simp
theorem tot_le {n₀ : Nat} {W : World} (ys : List (FrOk n₀ W)) : tot ys ≤ 1006 * ys.length := by
  induction ys with
  | nil => simp [tot, fby]
  | cons y ys ih =>
    have := y.2.2.2
    simp only [tot, fby, List.map_cons, List.flatten_cons, List.length_append, List.length_cons] at ih ⊢
    omega
theorem takeWhile_all {l : List (List Int)} (h : ∀ y ∈ l, rgt y = true) : l.takeWhile rgt = l := by
  induction l with
  | nil => rfl
  | cons x l ih => rw [List.takeWhile_cons, if_pos (h x (by simp)), ih fun y hy => h y (by simp [hy])]
theorem takeWhile_stop {l ini : List (List Int)} {x : List Int} (hp : ini ++ [x] <+: l) (h : ∀ y ∈ ini, rgt y = true) (hx : rgt x = false) : l.takeWhile rgt = ini := by
  obtain ⟨q, rfl⟩ := hp
  rw [List.append_assoc]
  induction ini with
  | nil => simp [hx]
  | cons y l ih => rw [List.cons_append, List.takeWhile_cons, if_pos (h y (by simp)), ih fun z hz => h z (by simp [hz])]

theorem keeps_below {W W' : World} (h : Below W.heap.size W W') : KeepsOthers W W' := ⟨h.size, fun k o hk _ => (h.block k (Array.getElem?_eq_some_iff.1 hk).1).trans hk⟩
set_option maxRecDepth 100000 in
set_option maxHeartbeats 4000000 in
theorem measure_t (a : Option Addr) (len cap : Nat) (zs : List Int) (w : World) (hz : Bts w.heap.size w (.slice a len cap) zs) (hzl : zs.length ≤ 100000) :
    CallsIn Fence.wide 9 Try.prog 48 #[.slice a len cap] w fun e W' => e = .returned (.tuple #[.int .i64 (cnt zs), .int .i64 (msz zs)]) ∧ Below w.heap.size w W' := by
  have hfol : Try.prog.follows .mixedOrders = true := by kernel_rfl
  refine callsIn_of_wp_marks Try.func48 rfl trivial ?_ rfl
  simp only [Try.ntmps48, List.size_toArray, List.length_cons, List.length_nil, Nat.reduceAdd, Nat.reduceSub, Array.replicate_succ, Array.replicate_zero, List.push_toArray, List.append_toArray, List.nil_append, List.cons_append]
  gi_wp2_with fail
  refine ⟨trivial, ?_⟩
  refine (frames_in 8 _ _ _ _).mono ?_
  rintro e w' ⟨rfl, rfl⟩
  gi_wp2_with fail
  have bC := ((Boxed.new w 3 (.int .i64 0)).alloc (.cells #[.int .i64 0] 3)).alloc (.cells #[.slice a len cap] 32)
  have bS := (Boxed.new (w.alloc (.cells #[.int .i64 0] 3)) 3 (.int .i64 0)).alloc (.cells #[.slice a len cap] 32)
  have bV := Boxed.new ((w.alloc (.cells #[.int .i64 0] 3)).alloc (.cells #[.int .i64 0] 3)) 32 (.slice a len cap)
  simp only [World.size_alloc] at bS bV
  have hB0 : Below w.heap.size w (((w.alloc (.cells #[.int .i64 0] 3)).alloc (.cells #[.int .i64 0] 3)).alloc (.cells #[.slice a len cap] 32)) := (((Below.refl _ w).alloc (Nat.le_refl _) _).alloc (by simp) _).alloc (by simp; omega) _
  have hsz : (((w.alloc (.cells #[.int .i64 0] 3)).alloc (.cells #[.int .i64 0] 3)).alloc (.cells #[.slice a len cap] 32)).heap.size = w.heap.size + 3 := by simp
  obtain ⟨W0, hW0⟩ : ∃ W0, (((w.alloc (.cells #[.int .i64 0] 3)).alloc (.cells #[.int .i64 0] 3)).alloc (.cells #[.slice a len cap] 32)) = W0 := ⟨_, rfl⟩
  rw [hW0] at bC bS bV hB0 hsz ⊢
  clear hW0
  refine wpIn_rangeFunc_ownH rfl (by omega) (gf := 57) (lb := #[.pointer (some ⟨w.heap.size + 1 + 1, 0, none⟩)]) rfl trivial (enters_of Try.func57 (by kernel_rfl) rfl)
    (frames_stops (9 - 1) (by omega) (w.heap.size + 1 + 1) w.heap.size w _ zs W0 (by omega) (by omega) hB0 bV.cell (hz.below hB0)) belowK_t (belowK_b (by omega)) (Below.refl _ _) (fun _ => rfl)
    (fun (pre : List (FrOk w.heap.size w)) W => ((∀ y ∈ fby pre, rgt y = true) ∧ Boxed W w.heap.size 3 (.int .i64 pre.length)) ∧ Boxed W (w.heap.size + 1) 3 (.int .i64 (tot pre)) ∧ Below w.heap.size w W)
    (fun c (pre : List (FrOk w.heap.size w)) W => ((c = .exit 0 ∧ ∃ ini x, pre = ini ++ [x] ∧ (∀ y ∈ fby ini, rgt y = true) ∧ rgt x.1.2 = false) ∧ Boxed W w.heap.size 3 (.int .i64 (pre.dropLast.length))) ∧ Boxed W (w.heap.size + 1) 3 (.int .i64 (tot pre.dropLast)) ∧ Below w.heap.size w W)
    (OwnFrom.and (OwnFrom.and (ownFrom_pure _ _) (Own.from (boxed_own _ _ _) _)) (OwnFrom.and (Own.from (boxed_own _ _ _) _) (ownFrom_below (Nat.le_refl _) (by omega))))
    (fun c => OwnFrom.and (OwnFrom.and (ownFrom_pure _ _) (Own.from (boxed_own _ _ _) _)) (OwnFrom.and (Own.from (boxed_own _ _ _) _) (ownFrom_below (Nat.le_refl _) (by omega))))
    ⟨⟨(fun y hy => by cases hy), bC⟩, bS, hB0⟩
    (fun (x : FrOk w.heap.size w) a' W => a' = { tmps := #[.slice a len cap, undef, .pointer (some ⟨w.heap.size, 0, none⟩), .pointer (some ⟨w.heap.size + 1, 0, none⟩), x.1.1, .slice a len cap, .func (.func 57) #[] #[.pointer (some ⟨w.heap.size + 1 + 1, 0, none⟩)], x.1.1, undef, undef, undef, undef, undef, undef, undef, undef, undef, undef, undef], defers := [] })
    (fun x a' _ X Y row hs hg hr => hs)
    ?assign ?body ?done ?stop
  case assign =>
    rintro l pre x W K ⟨⟨hall, bC1⟩, bS1, hB1⟩ hK
    gi_wp2
    exact hK _ _ ((KeepsOthers.refl _).from _) (Below.refl _ _) ⟨⟨hall, bC1⟩, bS1, hB1⟩ rfl
  case body =>
    rintro l pre x a' W hlw _ ⟨⟨hall, bC1⟩, bS1, hB1⟩ rfl hlt
    obtain ⟨⟨v, f⟩, hx⟩ := x
    obtain ⟨sa, sl, sc, hv, hl⟩ := hx.1.form
    dsimp only at hv hl hx
    subst hv
    have hsW := hB1.size
    have hbx := (hx.1.below hB1).mono hsW
    have hl6 : 6 ≤ f.length := by omega
    have hxl := hx.2.2
    have htl := tot_le pre
    have HL : Hid (sl = f.length) := hl
    have hsl : sl ≤ 1006 := by omega
    have hpl : pre.length ≤ 100000 := by omega
    clear hl
    cases hr : rgt f with
    | true =>
      gi_wp2_with fail
      refine ⟨trivial, ?_⟩
      refine (CallsIn.inRound l (callsIn_wide.2 (right_any sa sl sc f _ hbx hl6))).mono ?_
      rintro e W2 ⟨rfl, hB2⟩
      rw [hr]
      have bC2 := boxed_below bC1 hB2
      have bS2 := boxed_below bS1 hB2
      have cC2 := bC2.cell
      have fC2 := bC2.frozen
      have cS2 := bS2.cell
      have fS2 := bS2.frozen
      gi_wp2
      refine ⟨((keeps_below hB2).trans ((KeepsOthers.setCell _ _ _).trans (KeepsOthers.setCell _ _ _))).from _, ((hB2.mono hsW).setCell (p := ⟨w.heap.size, 0, none⟩) (Nat.le_refl _) _).setCell (p := ⟨w.heap.size + 1, 0, none⟩) (by simp) _, ⟨?_, ?_⟩, ?_, ?_⟩
      · intro y hy
        rw [fby_snoc] at hy
        rcases List.mem_append.1 hy with h | h
        · exact hall y h
        · obtain rfl : y = f := by simpa using h
          exact hr
      · rw [List.length_append, List.length_singleton]
        exact (bC2.set _).other (by omega) _
      · rw [tot_snoc, Int.natCast_add]
        show Boxed _ _ _ (.int .i64 ((tot pre : Int) + (f.length : Int)))
        rw [← HL.out]
        exact (bS2.other (B' := w.heap.size) (by omega) (.int .i64 ((pre.length : Int) + 1))).set _
      · exact ((hB1.trans (hB2.mono hsW)).setCell (p := ⟨w.heap.size, 0, none⟩) (Nat.le_refl _) _).setCell (p := ⟨w.heap.size + 1, 0, none⟩) (by simp) _
    | false =>
      gi_wp2_with fail
      refine ⟨trivial, ?_⟩
      refine (CallsIn.inRound l (callsIn_wide.2 (right_any sa sl sc f _ hbx hl6))).mono ?_
      rintro e W2 ⟨rfl, hB2⟩
      rw [hr]
      have bC2 := boxed_below bC1 hB2
      have bS2 := boxed_below bS1 hB2
      gi_wp2
      refine ⟨(keeps_below hB2).from _, ⟨⟨rfl, pre, _, rfl, hall, hr⟩, ?_⟩, ?_, hB1.trans (hB2.mono hsW)⟩
      · rw [List.dropLast_concat]; exact bC2
      · rw [List.dropLast_concat]; exact bS2
  case done =>
    rintro D ys W hD hys ⟨⟨hall, bC1⟩, bS1, hB1⟩ hK
    have cC := bC1.cell
    have fC := bC1.frozen
    have cS := bS1.cell
    have fS := bS1.frozen
    gi_wp2_with fail
    gi_region
    all_goals
      gi_wp2
      have hk4 := ((KeepsOthers.setCell W ⟨w.heap.size, 0, none⟩ (.int .i64 ys.length)).trans (KeepsOthers.setCell _ ⟨w.heap.size + 1, 0, none⟩ (.int .i64 (tot ys)))).trans (KeepsOthers.drew _)
      have hK' := hk4.same D _ hK rfl
      refine ⟨by simp, .inl ⟨_, _, rfl, run_takeDeferred hK', ?_⟩⟩
      have b3 := boxed_below ((bC1.set (.int .i64 ys.length)).other (B' := w.heap.size + 1) (by omega) (.int .i64 (tot ys))) ((Below.refl _ _).drew)
      have b4 := boxed_below ((bS1.other (B' := w.heap.size) (by omega) (.int .i64 ys.length)).set (.int .i64 (tot ys))) ((Below.refl _ _).drew)
      have c1 := cell_kept b3.cell (grownBy_putObj' _ D (.deferred none)) (fun r e => by cases e; exact ⟨_, hK', rfl⟩)
      have c2 := cell_kept b4.cell (grownBy_putObj' _ D (.deferred none)) (fun r e => by cases e; exact ⟨_, hK', rfl⟩)
      refine ⟨.tuple #[.int .i64 ys.length, .int .i64 (tot ys)], ?_, ?_, ?_⟩
      · simp [results, go_sem, c1, c2]
      · have e1 : cnt zs = ys.length := by unfold cnt; rw [← hys, takeWhile_all hall]; simp [fby]
        have e2 : msz zs = tot ys := by unfold msz tot; rw [← hys, takeWhile_all hall]
        rw [e1, e2]
      · exact ((hB1.setCell (p := ⟨w.heap.size, 0, none⟩) (Nat.le_refl _) _).setCell (p := ⟨w.heap.size + 1, 0, none⟩) (by simp) _).drew.trans (belowK_b (w := w) (Nat.le_refl _) _ D _ _ (by omega) hK' rfl rfl)
  case stop =>
    rintro D c pre W hD hpre ⟨⟨⟨rfl, ini, x, rfl, hall, hx⟩, bC1⟩, bS1, hB1⟩ hK
    rw [List.dropLast_concat] at bC1 bS1
    rw [fby_snoc] at hpre
    have cC := bC1.cell
    have fC := bC1.frozen
    have cS := bS1.cell
    have fS := bS1.frozen
    gi_wp2_with fail
    gi_region
    all_goals
      gi_wp2
      have hk4 := ((KeepsOthers.setCell W ⟨w.heap.size, 0, none⟩ (.int .i64 ini.length)).trans (KeepsOthers.setCell _ ⟨w.heap.size + 1, 0, none⟩ (.int .i64 (tot ini)))).trans (KeepsOthers.drew _)
      have hK' := hk4.same D _ hK rfl
      refine ⟨by simp, .inl ⟨_, _, rfl, run_takeDeferred hK', ?_⟩⟩
      have b3 := boxed_below ((bC1.set (.int .i64 ini.length)).other (B' := w.heap.size + 1) (by omega) (.int .i64 (tot ini))) ((Below.refl _ _).drew)
      have b4 := boxed_below ((bS1.other (B' := w.heap.size) (by omega) (.int .i64 ini.length)).set (.int .i64 (tot ini))) ((Below.refl _ _).drew)
      have c1 := cell_kept b3.cell (grownBy_putObj' _ D (.deferred none)) (fun r e => by cases e; exact ⟨_, hK', rfl⟩)
      have c2 := cell_kept b4.cell (grownBy_putObj' _ D (.deferred none)) (fun r e => by cases e; exact ⟨_, hK', rfl⟩)
      refine ⟨.tuple #[.int .i64 ini.length, .int .i64 (tot ini)], ?_, ?_, ?_⟩
      · simp [results, go_sem, c1, c2]
      · have e1 : cnt zs = ini.length := by unfold cnt; rw [takeWhile_stop hpre hall hx]; simp [fby]
        have e2 : msz zs = tot ini := by unfold msz tot; rw [takeWhile_stop hpre hall hx]
        rw [e1, e2]
      · exact ((hB1.setCell (p := ⟨w.heap.size, 0, none⟩) (Nat.le_refl _) _).setCell (p := ⟨w.heap.size + 1, 0, none⟩) (by simp) _).drew.trans (belowK_b (w := w) (Nat.le_refl _) _ D _ _ (by omega) hK' rfl rfl)
/-- wal.measure. -/
theorem measure_any (a : Option Addr) (len cap : Nat) (zs : List Int) (w : World) (hz : Bts w.heap.size w (.slice a len cap) zs) (hzl : zs.length ≤ 100000) :
    Calls Try.prog 48 #[.slice a len cap] w fun e W' => e = .returned (.tuple #[.int .i64 (cnt zs), .int .i64 (msz zs)]) ∧ Below w.heap.size w W' := callsIn_wide.1 (measure_t a len cap zs w hz hzl)
end Go.Proofs.Ytgblekdllcngnaa
