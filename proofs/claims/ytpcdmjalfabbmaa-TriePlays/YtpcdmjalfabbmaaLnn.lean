/- .. of no trie. -/
import Derived.Test.YtpcdmjalfabbmaaLow
namespace Go.Proofs.Ytpcdmjalfabbmaa
open Go.RowKit Go.Shelf Go.IntWalk Go.Maps
set_option linter.unusedVariables false
attribute [local go_sem] Oper.semAt_some
set_option maxRecDepth 100000 in
set_option maxHeartbeats 1000000 in
theorem alongnone_stops (n : Nat) (hn : 3 ≤ n) (Bt Bk n₀ : Nat) (k : K) (w : World) (hBt : Bt < w.heap.size) (hct : w.cell? ⟨Bt, 0, none⟩ = some (.pointer none)) :
    SeqStopsK Fence.wide n Try.prog 45 #[ptr Bt, ptr Bk] (fun x : Empty => #[x.elim, x.elim]) (Below n₀) (fun ys => ys = []) (fun _ => True) (k.length + 2) w := fun l J Jx W hW hJ _ hY h0 => by
  have hc := (hW.cell (p := ⟨Bt, 0, none⟩) hBt).trans hct
  refine callsIn_of_wp Try.func45 rfl trivial ?_ rfl
  simp only [List.append_toArray, List.cons_append, List.nil_append, Try.ntmps45, List.size_toArray, List.length_cons, List.length_nil, Nat.reduceAdd, Nat.reduceSub, Array.replicate_succ, Array.replicate_zero, List.push_toArray]
  gi_wp2
  refine bodyPost_ret (results_none rfl _ _ _) rfl ?_
  exact ⟨⟨_, rfl⟩, .inl h0⟩
set_option maxRecDepth 100000 in
set_option maxHeartbeats 2000000 in
theorem longestnil_in (w : World) (k : K) :
    CallsIn Fence.wide 9 Try.prog 25 #[.pointer none, .string (bt k)] w fun r w' => r = .returned (.tuple #[.agg #[.string (bt (ek none)), .string (ev none)], .bool (none : Option E).isSome]) ∧ Below w.heap.size w w' := by
  refine callsIn_of_wp_marks Try.func25 rfl trivial ?_ rfl
  simp only [Try.ntmps25, List.size_toArray, List.length_cons, List.length_nil, Nat.reduceAdd, Nat.reduceSub, Array.replicate_succ, Array.replicate_zero, List.push_toArray, List.append_toArray, List.nil_append, List.cons_append]
  refine wpIn_wide.2 ?_
  generalize hQ0 : bodyPostM Fence.wide 9 Try.prog Try.f25 _ = Q0
  have HQ0 : Hid (_ = Q0) := ⟨hQ0⟩
  clear hQ0
  go_wp2_with fail
  refine (callsIn_wide.1 (along_in 8 _ _ _)).mono ?_
  rintro e' w' ⟨rfl, rfl⟩
  obtain ⟨N, hN⟩ : ∃ N, w.heap.size = N := ⟨_, rfl⟩
  have b0 := ((((((Boxed.new w 9 (.string (bt k))).alloc (.cells #[.string ⟨#[]⟩, .string ⟨#[]⟩] 46)).alloc (.cells #[.string ⟨#[]⟩, .string ⟨#[]⟩] 46)).alloc (.cells #[.bool false] 4)).alloc (.cells #[Value.pointer none] 25)).alloc (.cells #[.string (bt k)] 9))
  have b1 := (((((Boxes.new (w.alloc (.cells #[.string (bt k)] 9)) 46 #[.string ⟨#[]⟩, .string ⟨#[]⟩]).alloc (.cells #[.string ⟨#[]⟩, .string ⟨#[]⟩] 46)).alloc (.cells #[.bool false] 4)).alloc (.cells #[Value.pointer none] 25)).alloc (.cells #[.string (bt k)] 9))
  have b2 := ((((Boxes.new ((w.alloc (.cells #[.string (bt k)] 9)).alloc (.cells #[.string ⟨#[]⟩, .string ⟨#[]⟩] 46)) 46 #[.string ⟨#[]⟩, .string ⟨#[]⟩]).alloc (.cells #[.bool false] 4)).alloc (.cells #[Value.pointer none] 25)).alloc (.cells #[.string (bt k)] 9))
  have b3 := (((Boxed.new (((w.alloc (.cells #[.string (bt k)] 9)).alloc (.cells #[.string ⟨#[]⟩, .string ⟨#[]⟩] 46)).alloc (.cells #[.string ⟨#[]⟩, .string ⟨#[]⟩] 46)) 4 (.bool false)).alloc (.cells #[Value.pointer none] 25)).alloc (.cells #[.string (bt k)] 9))
  have b4 := ((Boxed.new ((((w.alloc (.cells #[.string (bt k)] 9)).alloc (.cells #[.string ⟨#[]⟩, .string ⟨#[]⟩] 46)).alloc (.cells #[.string ⟨#[]⟩, .string ⟨#[]⟩] 46)).alloc (.cells #[.bool false] 4)) 25 (Value.pointer none)).alloc (.cells #[.string (bt k)] 9))
  have b5 := (Boxed.new (((((w.alloc (.cells #[.string (bt k)] 9)).alloc (.cells #[.string ⟨#[]⟩, .string ⟨#[]⟩] 46)).alloc (.cells #[.string ⟨#[]⟩, .string ⟨#[]⟩] 46)).alloc (.cells #[.bool false] 4)).alloc (.cells #[Value.pointer none] 25)) 9 (.string (bt k)))
  have g0 : w.grownBy ((((((w.alloc (.cells #[.string (bt k)] 9)).alloc (.cells #[.string ⟨#[]⟩, .string ⟨#[]⟩] 46)).alloc (.cells #[.string ⟨#[]⟩, .string ⟨#[]⟩] 46)).alloc (.cells #[.bool false] 4)).alloc (.cells #[Value.pointer none] 25)).alloc (.cells #[.string (bt k)] 9)) none := (grown_none (grown_none (grown_none (grown_none (grown_none (World.grownBy_alloc _ _ none) (World.grownBy_alloc _ _ none)) (World.grownBy_alloc _ _ none)) (World.grownBy_alloc _ _ none)) (World.grownBy_alloc _ _ none)) (World.grownBy_alloc _ _ none))
  have hsz : ((((((w.alloc (.cells #[.string (bt k)] 9)).alloc (.cells #[.string ⟨#[]⟩, .string ⟨#[]⟩] 46)).alloc (.cells #[.string ⟨#[]⟩, .string ⟨#[]⟩] 46)).alloc (.cells #[.bool false] 4)).alloc (.cells #[Value.pointer none] 25)).alloc (.cells #[.string (bt k)] 9)).heap.size = N + 6 := by simp [hN]
  simp only [World.size_alloc, hN] at b0 b1 b2 b3 b4 b5
  go_wp2_with fail
  obtain ⟨W0, hW0⟩ : ∃ W0, ((((((w.alloc (.cells #[.string (bt k)] 9)).alloc (.cells #[.string ⟨#[]⟩, .string ⟨#[]⟩] 46)).alloc (.cells #[.string ⟨#[]⟩, .string ⟨#[]⟩] 46)).alloc (.cells #[.bool false] 4)).alloc (.cells #[Value.pointer none] 25)).alloc (.cells #[.string (bt k)] 9)) = W0 := ⟨_, rfl⟩
  rw [hW0] at b0 b1 b2 b3 b4 b5 g0 hsz ⊢
  clear hW0
  have hB0 : Below N w W0 := ⟨g0.os, g0.tape, g0.output, g0.size, fun j hj => g0.block j (by omega) (by simp)⟩
  have tl := bt_take k
  refine (wpIn_wide (n := 9)).1 ?_
  refine wpIn_rangeFunc_ownH rfl (by omega) (gf := 45) (lb := #[ptr (N + 4), ptr (N + 5)]) rfl trivial (enters_of Try.func45 (by kernel_rfl) rfl)
    (alongnone_stops (9 - 1) (by omega) (N + 4) (N + 5) N k W0 (by omega) b4.cell) belowK_t (belowK_b (by omega)) (Below.refl _ _) (fun x => x.elim)
    (fun (pre : List Empty) W => (Boxed W N 9 (.string (bt k)) ∧ Boxes W (N + 1) 46 #[.string (bt []), .string (bt [])] ∧ Boxes W (N + 2) 46 #[.string (bt []), .string (bt [])] ∧ Boxed W (N + 3) 4 (.bool false)) ∧ Below N w W)
    (fun _ (pre : List Empty) W => False)
    (OwnFrom.and (OwnFrom.and (Own.from (boxed_own _ _ _) _) (OwnFrom.and (Own.from (boxes_own _ _ _) _) (OwnFrom.and (Own.from (boxes_own _ _ _) _) (Own.from (boxed_own _ _ _) _)))) (ownFrom_below (by omega) (by omega)))
    (fun c => ownFrom_pure _ _)
    ⟨⟨b0, b1, b2, b3⟩, hB0⟩
    (fun (x : Empty) a' W => False)
    (fun x a' _ X Y row hs hg hr => hs)
    ?assign ?body ?done ?stop
  case assign =>
    rintro l pre x W K ⟨b, hB1⟩ hK
    exact x.elim
  case body =>
    rintro l pre x a' W hlw _ _ _ _
    exact x.elim
  case done =>
    rintro D ys W hD hys ⟨⟨b0, b1, b2, b3⟩, hB1⟩ hK
    have c1 := b1.c (i := 0) rfl
    have c1' := b1.c (i := 1) rfl
    have f1 := b1.f
    have c2 := b2.c (i := 0) rfl
    have c2' := b2.c (i := 1) rfl
    have f2 := b2.f
    have c3 := b3.cell
    go_wp2_with fail
    go_region
    go_wp2
    have gs : W.grownBy ((W.setCell ⟨N + 1, 0, none⟩ (Value.string (bt []))).setCell ⟨N + 1, 1, none⟩ (Value.string (bt []))).drew (some (N + 1)) := ((grown_setCell W ⟨N + 1, 0, none⟩ (Value.string (bt []))).trans (grown_setCell _ ⟨N + 1, 1, none⟩ (Value.string (bt [])))).andThen (grown_drew _) (by simp)
    have q1 : Boxes ((W.setCell ⟨N + 1, 0, none⟩ (Value.string (bt []))).setCell ⟨N + 1, 1, none⟩ (Value.string (bt []))).drew (N + 1) 46 #[.string (bt []), .string (bt [])] := heap_set (heap_set (show W.heap[N + 1]? = _ from b1) 0 _) 1 _
    have hB5 : Below N w ((W.setCell ⟨N + 1, 0, none⟩ (Value.string (bt []))).setCell ⟨N + 1, 1, none⟩ (Value.string (bt []))).drew := ((hB1.setCell (p := ⟨N + 1, 0, none⟩) (by simp) _).setCell (p := ⟨N + 1, 1, none⟩) (by simp) _).drew
    have hKs : ((W.setCell ⟨N + 1, 0, none⟩ (Value.string (bt []))).setCell ⟨N + 1, 1, none⟩ (Value.string (bt []))).drew.heap[D]? = some (.deferred (some [])) := by
      have hDl := (Array.getElem?_eq_some_iff.1 hK).1
      rw [gs.block D hDl (by simp; omega)]
      exact hK
    generalize ((W.setCell ⟨N + 1, 0, none⟩ (Value.string (bt []))).setCell ⟨N + 1, 1, none⟩ (Value.string (bt []))).drew = W5 at *
    rw [← HQ0.out]
    refine ⟨by simp, .inl ⟨_, _, rfl, run_takeDeferred hKs, ?_⟩⟩
    have x1 := cell_kept (q1.c (i := 0) rfl) (grownBy_putObj' _ D (.deferred none)) (fun r e => by cases e; exact ⟨_, hKs, rfl⟩)
    have x2 := cell_kept (q1.c (i := 1) rfl) (grownBy_putObj' _ D (.deferred none)) (fun r e => by cases e; exact ⟨_, hKs, rfl⟩)
    refine ⟨.tuple #[.agg #[.string (bt []), .string (bt [])], .bool false], ?_, ⟨rfl, ?_⟩⟩
    · simp [results, go_sem, x1, x2]
    · rw [hN]
      exact hB5.trans (belowK_b (w := W0) (by omega) W5 D _ _ hD hKs rfl rfl)
  case stop =>
    rintro D c pre W hD _ hF hK
    exact hF.elim
theorem longest_nil (w : World) (k : K) : Calls Try.prog 25 #[.pointer none, .string (bt k)] w fun r w' => r = .returned (.tuple #[.agg #[.string (bt []), .string (bt [])], .bool false]) ∧ w.grownBy w' none := by
  refine (callsIn_wide.1 (longestnil_in w k)).mono ?_
  rintro r w' ⟨rfl, hB⟩
  exact ⟨rfl, below_grown hB⟩
end Go.Proofs.Ytpcdmjalfabbmaa
