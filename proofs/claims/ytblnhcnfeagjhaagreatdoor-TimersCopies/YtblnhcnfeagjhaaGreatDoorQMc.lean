/- Queue.Due. -/
import Derived.Test.YtblnhcnfeagjhaaGreatDoorQMb
namespace Go.Proofs.YtblnhcnfeagjhaaGreatDoor.Q
open Go.RowKit Go.IntWalk Go.Maps
set_option linter.unusedVariables false
/-- What is due, and what is not. -/
def tkN (now : Int) (L : List E) : List E := L.takeWhile fun x => decide (x.at_ ≤ now)
def drN (now : Int) (L : List E) : List E := L.dropWhile fun x => decide (x.at_ ≤ now)
theorem tk_dr (now : Int) (L : List E) : tkN now L ++ drN now L = L := List.takeWhile_append_dropWhile
theorem tk_split {now : Int} {L T M : List E} (h : L = T ++ M) (hT : ∀ x ∈ T, x.at_ ≤ now) (hM : ∀ f M', M = f :: M' → ¬ f.at_ ≤ now) : tkN now L = T ∧ drN now L = M := by
  subst h
  induction T with
  | nil =>
    cases M with
    | nil => exact ⟨rfl, rfl⟩
    | cons f M' =>
      have := hM f M' rfl
      simp [tkN, drN, this]
  | cons a T ih =>
    have ha := hT a (by simp)
    obtain ⟨h1, h2⟩ := ih fun x hx => hT x (by simp [hx])
    simp only [tkN, drN] at h1 h2 ⊢
    simp [ha, h1, h2]
set_option maxRecDepth 100000 in
set_option maxHeartbeats 1000000 in
/-- tick.reaches. -/
theorem reaches_any (w : World) (now : Int) (e : E) : Calls Tryz.prog 75 #[.int .u64 now, .agg #[.string e.n, .int .u64 e.at_]] w fun r w' => r = .returned (.bool (decide (e.at_ ≤ now))) ∧ w.grownBy w' none := by
  go_enter Tryz.func75, Tryz.ntmps75
  go_wp2
  go_ret
  exact ⟨rfl, World.grownBy_alloc w _ none⟩
theorem take_q (w : World) {S : Nat → Prop} {qb : Nat} {f : E} {L : List E} (h : Qu S w qb (f :: L)) :
    Calls Tryz.prog 98 #[.pointer (some ⟨qb, 0, none⟩)] w fun r w' => r = .returned (.agg #[.string f.n, .int .u64 f.at_]) ∧ Qu (Gw S w w') w' qb L ∧ Kp S w w' := by
  obtain ⟨⟨bm, rv, es, hL, hH, hm, hS⟩, hs⟩ := h
  refine (takeFront_any w hL hH (heap_first hH hm hs)).mono ?_
  rintro r w1 ⟨rfl, rv1, es1, hL1, hT1, hH1, hm1⟩
  refine ⟨rfl, Qu.turn hS hL1 hT1 hH1 (fun x => ?_) hs.head.2.1⟩
  have h4 := mem_delN (n := f.n) (L := f :: L) (x := x)
  rw [hs.head.2.2] at h4
  rw [hm1 x, hm x, h4]
/-- How long a queue is, by its memory. -/
def qlen (qb : Nat) (w : World) : Nat := match w.cell? ⟨qb, 0, none⟩ with | some (.slice _ n _) => n | _ => 0
theorem Qu.qlen {S : Nat → Prop} {w : World} {qb : Nat} {L : List E} (h : Qu S w qb L) : qlen qb w = L.length := by
  obtain ⟨⟨bm, rv, es, hL, hH, hm, hS⟩, hs⟩ := h
  obtain ⟨a, cap, rfl⟩ := hL.shape
  unfold YtblnhcnfeagjhaaGreatDoor.Q.qlen
  rw [hL.c0]
  exact Qu.len (S := S) hL hm hs
theorem Qu.lenb {S : Nat → Prop} {w : World} {qb : Nat} {L : List E} (h : Qu S w qb L) : L.length ≤ 100000 := by
  obtain ⟨⟨bm, rv, es, hL, hH, hm, hS⟩, hs⟩ := h
  rw [← Qu.len (S := S) hL hm hs]
  exact hL.len
theorem wpList_append_run {ops : Array Oper} {rest : List Oper} {o : Oper} {a : Act} {w : World} {Q : Exit → Act → World → Prop} (hg : o.guard = none) (sl x : Operand) (t : TypeId) (hop : o.op = Op.call { callee := Callee.builtin Builtin.append, args := #[sl, x], argTypes := #[t, t] })
    (v u : Value) (hs : a.eval sl = v) (hx : a.eval x = u) {v' : Value} {w' : World} (hrun : (Builtin.append_ #[t, t] o.type #[v, u]).run Tryz.prog w = .ok v' w') (hK : wpList Tryz.prog ops Q rest (a.put o.dst v') w') :
    wpList Tryz.prog ops Q (o :: rest) a w := by
  refine wpList_plain hg fun K hK' => ?_
  unfold Oper.wp
  simp [execOp, hop, resolve, invoke, builtin, hs, hx, hrun, Result.andThen]
  exact hK' _ _ hK
/-- The loop of takeWhile. -/
structure Tw (S : Nat → Prop) (w wr : World) (qb eb : Nat) (now : Int) (L T M : List E) (tv : Value) : Prop where
  eq : L = T ++ M
  le : ∀ x ∈ T, x.at_ ≤ now
  row : Rw 91 wr tv T
  new : ∀ k, tv.ownBlock = some k → w.heap.size ≤ k
  qu : Qu (fun k => Gw S w wr k ∧ tv.ownBlock ≠ some k ∧ k ≠ eb) wr qb M
  kp : Kp S w wr
  ebl : w.heap.size ≤ eb ∧ eb < wr.heap.size
  ne : tv.ownBlock ≠ some eb
  cur : ∀ f M', M = f :: M' → wr.heap[eb]? = some (.cells #[.string f.n, .int .u64 f.at_] 91 (0, 0))
theorem Gw.more {S : Nat → Prop} {w w1 w2 : World} (h : w1.heap.size ≤ w2.heap.size) {k : Nat} (hk : Gw S w w1 k) : Gw S w w2 k := by
  rcases hk with h1 | h1
  · exact .inl h1
  · exact .inr ⟨h1.1, by omega⟩
theorem Tw.grown {S : Nat → Prop} {w wr w1 : World} {qb eb : Nat} {now : Int} {L T M : List E} {tv : Value} (h : Tw S w wr qb eb now L T M tv) (hg : wr.grownBy w1 none) : Tw S w w1 qb eb now L T M tv :=
  ⟨h.eq, h.le, World.ownsRow.kept h.row hg (Classical.em _), h.new, (h.qu.kept fun k _ hk => hg.block k hk (by simp)).mono fun k hk => ⟨hk.1.more hg.size, hk.2⟩, h.kp.trans (Kp.of0 hg) (fun _ _ h => h), ⟨h.ebl.1, Nat.lt_of_lt_of_le h.ebl.2 hg.size⟩, h.ne, fun f M' e => (hg.block eb h.ebl.2 (by simp)).trans (h.cur f M' e)⟩
/-- One round of it. -/
theorem Tw.step {S : Nat → Prop} {w w1 w2 w3 w6 : World} {qb eb eb' : Nat} {now : Int} {L T M : List E} {f : E} {tv tv' : Value} (h : Tw S w w1 qb eb now L T (f :: M) tv) (hSl : ∀ k, S k → k < w.heap.size) (hle : f.at_ ≤ now)
    (hq2 : Qu (Gw (fun k => Gw S w w1 k ∧ tv.ownBlock ≠ some k ∧ k ≠ eb) w1 w2) w2 qb M) (hk2 : Kp (fun k => Gw S w w1 k ∧ tv.ownBlock ≠ some k ∧ k ≠ eb) w1 w2)
    (hg3 : w2.grownBy w3 tv.ownBlock) (hr3 : Rw 91 w3 tv' (T ++ [f])) (ho : tv'.ownBlock = tv.ownBlock ∨ ∃ k, tv'.ownBlock = some k ∧ w2.heap.size ≤ k)
    (hebn : w3.heap.size ≤ eb') (hebl : eb' < w6.heap.size) (hg6 : w3.grownBy w6 none) (hcur : ∀ g M', M = g :: M' → w6.heap[eb']? = some (.cells #[.string g.n, .int .u64 g.at_] 91 (0, 0))) : Tw S w w6 qb eb' now L (T ++ [f]) M tv' := by
  have hw1 := h.kp.size
  have hw2 := hk2.size
  have hw3 := hg3.size
  have hw6 := hg6.size
  have htl : ∀ k, tv.ownBlock = some k → k < w1.heap.size := fun k hk => (h.row.lt k hk).2
  have htl' : ∀ k, tv'.ownBlock = some k → k < w3.heap.size := fun k hk => (hr3.lt k hk).2
  have hfo : ∀ k, Gw (fun k => Gw S w w1 k ∧ tv.ownBlock ≠ some k ∧ k ≠ eb) w1 w2 k → tv.ownBlock ≠ some k := by
    rintro k (hk | hk) e
    · exact hk.2.1 e
    · have := htl k e; omega
  refine ⟨by rw [h.eq]; simp, fun x hx => ?_, World.ownsRow.kept hr3 hg6 (Classical.em _), fun k hk => ?_, ?_, ?_, ⟨by omega, hebl⟩, fun e => by have := htl' _ e; omega, hcur⟩
  · rcases List.mem_append.1 hx with hx | hx
    · exact h.le x hx
    · simp at hx; subst hx; exact hle
  · rcases ho with ho | ⟨j, hj, hjl⟩
    · exact h.new k (by rw [← ho]; exact hk)
    · rw [hj] at hk; cases hk; omega
  · have hq2' := hq2.fpb
    refine ((hq2'.kept fun k hk hkl => hg3.block k hkl (fun e => hfo k hk.1 e.symm)).kept fun k _ hkl => hg6.block k hkl (by simp)).mono ?_
    rintro k ⟨hk, hkl⟩
    refine ⟨?_, ?_, by omega⟩
    · rcases hk with hk | hk
      · exact hk.1.more (by omega)
      · exact .inr ⟨by omega, by omega⟩
    · intro e
      rcases ho with ho | ⟨j, hj, hjl⟩
      · exact hfo k hk (by rw [← ho]; exact e)
      · rw [hj] at e; cases e; omega
  · refine ((h.kp.trans hk2 ?_).trans (Kp.of hg3 (C := fun k => tv.ownBlock = some k) (fun k hk => hk)) ?_).trans (Kp.of0 (C := S) hg6) (fun _ _ h => h)
    · rintro i hi ⟨h1 | h1, _⟩
      · exact h1
      · omega
    · intro i hi e
      have := h.new i e
      omega
end Go.Proofs.YtblnhcnfeagjhaaGreatDoor.Q

/- Queue.Due: the walk. -/
namespace Go.Proofs.YtblnhcnfeagjhaaGreatDoor.Q
open Go.RowKit Go.IntWalk Go.Maps
set_option linter.unusedVariables false
/-- What Front tells of what is left. -/
def fr (M : List E) : E × Bool := match M with | f :: _ => (f, true) | [] => (⟨⟨#[]⟩, 0⟩, false)
theorem front_q (w : World) {S : Nat → Prop} {qb : Nat} {M : List E} (h : Qu S w qb M) :
    Calls Tryz.prog 97 #[.pointer (some ⟨qb, 0, none⟩)] w fun r w' => r = .returned (.tuple #[.agg #[.string (fr M).1.n, .int .u64 (fr M).1.at_], .bool (fr M).2]) ∧ w.grownBy w' none := by
  cases M with
  | nil => exact front_none w h
  | cons f M => exact front_some w h
set_option maxRecDepth 100000 in
set_option maxHeartbeats 4000000 in
theorem takeWhile_any (w : World) {S : Nat → Prop} {qb : Nat} {L : List E} (h : Qu S w qb L) (hSl : ∀ k, S k → k < w.heap.size) (now : Int) :
    Calls Tryz.prog 74 #[.pointer (some ⟨qb, 0, none⟩), .func (.func 75) #[.int .u64 now] #[]] w fun r w' => ∃ v, r = .returned v ∧ Rw 91 w' v (tkN now L) ∧ (∀ k, v.ownBlock = some k → w.heap.size ≤ k) ∧ Qu (fun k => Gw S w w' k ∧ v.ownBlock ≠ some k) w' qb (drN now L) ∧ Kp S w w' := by
  go_enter Tryz.func74, Tryz.ntmps74
  go_wp2_with fail
  refine (front_q w h).mono ?_
  rintro r w1 ⟨rfl, hg1⟩
  obtain ⟨fn, fa, fb, hfr⟩ : ∃ fn fa fb, fr L = (⟨fn, fa⟩, fb) := ⟨_, _, _, rfl⟩
  rw [hfr]
  dsimp only
  have h1 : Qu S w1 qb L := h.kept fun k _ hk => hg1.block k hk (by simp)
  have hb1 := heap_alloc_new w1 (.cells #[.string fn, .int .u64 fa] 91)
  have hg2 := World.grownBy_alloc w1 (.cells #[.string fn, .int .u64 fa] 91) none
  have hcur : ∀ f M', L = f :: M' → (⟨fn, fa⟩ : E) = f := fun f M' e => by
    subst e
    have := congrArg Prod.fst hfr
    exact this.symm
  go_wp2_with fail
  have hnn : (Value.slice none 0 0).ownBlock = none := rfl
  have hst : Tw S w (w1.alloc (.cells #[.string fn, .int .u64 fa] 91)) qb w1.heap.size now L [] L (.slice none 0 0) := by
    have hsz := hg1.size
    refine ⟨rfl, by simp, World.ownsRow_nil _ _ _ _, by simp [hnn], ?_, Kp.of0 (grown_none hg1 hg2), ⟨hsz, by simp⟩, by simp [hnn], fun f M' e => ?_⟩
    · refine (h.fpb.kept fun k _ hk => (hg2.block k (by omega) (by simp)).trans (hg1.block k hk (by simp))).mono fun k hk => ⟨.inl hk.1, by simp [hnn], ?_⟩
      have := hk.2
      omega
    · rw [← hcur f M' e]
      exact hb1
  replace hst : Hid _ := ⟨hst⟩
  have hfb : Hid (fb = (fr L).2) := ⟨by rw [hfr]⟩
  have hLb : Hid (L.length ≤ 100000) := ⟨h.lenb⟩
  clear h1 hb1 hg1 hg2 hcur h hfr
  go_loopw [5, 6, 7] (fun v5 v6 v7 wr => ∃ (eb : Nat) (T M : List E), v6 = .pointer (some ⟨eb, 0, none⟩) ∧ v7 = .bool (fr M).2 ∧ Hid (Tw S w wr qb eb now L T M v5))
    (fun _ _ _ wr => qlen qb wr)
  case atStart =>
    exact ⟨w1.heap.size, [], L, rfl, by rw [hfb.out], hst⟩
  case round =>
    clear hst
    obtain ⟨eb, T, M, rfl, rfl, hTw⟩ := hrel
    obtain ⟨ta, tcap, rfl⟩ := hTw.out.row.shape
    have hlen : Hid (T.length ≤ 100000) := by
      have h1 := hLb.out
      rw [hTw.out.eq, List.length_append] at h1
      exact ⟨by omega⟩
    cases M with
    | nil =>
      have hf2 : (fr []).2 = false := rfl
      rw [hf2]
      go_wp2_with fail
      go_ret
      have hT := hTw.out
      obtain ⟨e1, e2⟩ := tk_split hT.eq hT.le (fun f M' e => by cases e)
      refine ⟨_, rfl, by rw [e1]; exact hT.row, hT.new, ?_, hT.kp⟩
      rw [e2]
      exact hT.qu.mono fun k hk => ⟨hk.1, hk.2.1⟩
    | cons f M =>
      have hf2 : (fr (f :: M)).2 = true := rfl
      rw [hf2]
      have hcb := hTw.out.cur f M rfl
      have d0 : wr.cell? ⟨eb, 0, none⟩ = some (.string f.n) := by simp [World.cell?, hcb]
      have d1 : wr.cell? ⟨eb, 1, none⟩ = some (.int .u64 f.at_) := by simp [World.cell?, hcb]
      clear hcb
      by_cases hle : f.at_ ≤ now
      · have hd : decide (f.at_ ≤ now) = true := by simpa using hle
        go_wp2_with fail
        refine (reaches_any wr now f).mono ?_
        rintro r w3 ⟨rfl, hg3⟩
        go_wp2_with fail
        have hT3 := hTw.out.grown hg3
        refine (take_q w3 hT3.qu).mono ?_
        rintro r w4 ⟨rfl, hq4, hk4⟩
        have hr4 : Rw 91 w4 (.slice ta T.length tcap) T := hT3.row.kept fun k hk => hk4.block k (hT3.row.lt k hk).2 (fun e => e.2.1 hk)
        obtain ⟨ta', tcap', w5, hrun, hr5, hg5, ho5⟩ := run_append_entry w4 _ T f hr4 hlen.out 89
        have hcb5 : w5.heap[eb]? = some (.cells #[.string f.n, .int .u64 f.at_] 91 (0, 0)) := by
          rw [hg5.block eb (Nat.lt_of_lt_of_le hT3.ebl.2 hk4.size) (fun e => hT3.ne e.symm), hk4.block eb hT3.ebl.2 (fun e => e.2.2 rfl)]
          exact hT3.cur f M rfl
        have d0 : w5.cell? ⟨eb, 0, none⟩ = some (.string f.n) := by simp [World.cell?, hcb5]
        have d1 : w5.cell? ⟨eb, 1, none⟩ = some (.int .u64 f.at_) := by simp [World.cell?, hcb5]
        replace hq4 : Hid _ := ⟨hq4⟩
        replace hk4 : Hid _ := ⟨hk4⟩
        replace hT3 : Hid _ := ⟨hT3⟩
        replace ho5 : Hid _ := ⟨ho5⟩
        replace hle : Hid _ := ⟨hle⟩
        have hTw0 := hTw
        clear hTw hcb5
        go_wp2_with (at_builtin; refine wpList_append_run rfl _ _ 89 rfl _ _ rfl rfl hrun ?_)
        have hg6 := World.grownBy_alloc w5 (.cells #[.string f.n, .int .u64 f.at_] 91) none
        have hq5 : Qu _ (w5.alloc (.cells #[.string f.n, .int .u64 f.at_] 91)) qb M := (hq4.out.kept fun k hk hkl => hg5.block k hkl (fun e => by
          rcases hk with hk | hk
          · exact hk.2.1 e.symm
          · have := (hT3.out.row.lt k e.symm).2; omega)).kept fun k _ hkl => hg6.block k hkl (by simp)
        refine (front_q _ hq5).mono ?_
        rintro r w7 ⟨rfl, hg7⟩
        obtain ⟨gn, ga, gb, hgr⟩ : ∃ gn ga gb, fr M = (⟨gn, ga⟩, gb) := ⟨_, _, _, rfl⟩
        have hgb : Hid (gb = (fr M).2) := ⟨by rw [hgr]⟩
        have hb7 : w7.heap[w5.heap.size]? = some (.cells #[.string f.n, .int .u64 f.at_] 91 (0, 0)) := by
          rw [hg7.block w5.heap.size (by simp) (by simp)]
          simpa using heap_alloc_new w5 (.cells #[.string f.n, .int .u64 f.at_] 91)
        obtain ⟨d2, d3, f2⟩ := own_two (w := w5) (w1 := w7) hb7
        have hq7 : Qu _ w7 qb M := hq5.kept fun k _ hkl => hg7.block k hkl (by simp)
        have hg8 := set_two w7 w5.heap.size (.string gn) (.int .u64 ga)
        have hbl8 : ((w7.setCell ⟨w5.heap.size, 0, none⟩ (.string gn)).setCell ⟨w5.heap.size, 1, none⟩ (.int .u64 ga)).heap[w5.heap.size]? = some (.cells #[.string gn, .int .u64 ga] 91 (0, 0)) := by
          rw [heap_set (heap_set hb7 0 _) 1 _]; rfl
        have hgc : w5.grownBy ((w7.setCell ⟨w5.heap.size, 0, none⟩ (.string gn)).setCell ⟨w5.heap.size, 1, none⟩ (.int .u64 ga)) none := grown_new (grown_none hg6 hg7) hg8 (Nat.le_refl _)
        have hnx := Tw.step hT3.out hSl hle.out hq4.out hk4.out hg5 hr5 ho5.out (Nat.le_refl _) (by have := hg7.size; simp at this ⊢; omega) hgc (fun g M' e => by
          subst e
          have e2 : (⟨gn, ga⟩ : E) = g := (congrArg Prod.fst hgr).symm
          rw [← e2]
          exact hbl8)
        rw [hgr]
        replace hnx : Hid _ := ⟨hnx⟩
        replace hq7 : Hid _ := ⟨hq7⟩
        have hql : Hid (qlen qb wr = M.length + 1) := ⟨by rw [hTw0.out.qu.qlen]; rfl⟩
        have hql' : Hid (qlen qb ((w7.setCell ⟨w5.heap.size, 0, none⟩ (.string gn)).setCell ⟨w5.heap.size, 1, none⟩ (.int .u64 ga)) = M.length) := ⟨hnx.out.qu.qlen⟩
        clear hbl8 hgc hg8 hq5 hb7 hgr
        dsimp only
        go_wp2_with fail
        go_roundw
        case rel => exact ⟨_, _, M, rfl, by rw [hgb.out], hnx⟩
        case measure => rw [hql.out, hql'.out]; omega
      · have hd : decide (f.at_ ≤ now) = false := by simpa using hle
        go_wp2_with fail
        refine (reaches_any wr now f).mono ?_
        rintro r w3 ⟨rfl, hg3⟩
        go_wp2_with fail
        go_ret
        have hT := hTw.out.grown hg3
        obtain ⟨e1, e2⟩ := tk_split hT.eq hT.le (fun g M' e => by cases e; omega)
        refine ⟨_, rfl, by rw [e1]; exact hT.row, hT.new, ?_, hT.kp⟩
        rw [e2]
        exact hT.qu.mono fun k hk => ⟨hk.1, hk.2.1⟩
set_option maxRecDepth 100000 in
set_option maxHeartbeats 1000000 in
/-- Queue.Due. -/
theorem due_any (w : World) {S : Nat → Prop} {qb : Nat} {L : List E} (h : Qu S w qb L) (hSl : ∀ k, S k → k < w.heap.size) (now : Int) :
    Calls Tryz.prog 51 #[.pointer (some ⟨qb, 0, none⟩), .int .u64 now] w fun r w' => ∃ v, r = .returned v ∧ Rw 91 w' v (tkN now L) ∧ (∀ k, v.ownBlock = some k → w.heap.size ≤ k) ∧ Qu (fun k => Gw S w w' k ∧ v.ownBlock ≠ some k) w' qb (drN now L) ∧ Kp S w w' := by
  go_enter Tryz.func51, Tryz.ntmps51
  go_wp2_with fail
  refine (takeWhile_any w h hSl now).mono ?_
  rintro r w1 ⟨v, rfl, h1, h2, h3, h4⟩
  go_wp2
  go_ret
  exact ⟨_, rfl, h1, h2, h3, h4⟩
set_option maxRecDepth 100000 in
set_option maxHeartbeats 1000000 in
theorem takeWhile_nil (w : World) (v : Value) : Calls Tryz.prog 74 #[.pointer none, v] w fun r w' => r = .returned (.slice none 0 0) ∧ w.grownBy w' none := by
  go_enter Tryz.func74, Tryz.ntmps74
  go_wp2_with fail
  refine (front_nil w).mono ?_
  rintro r w1 ⟨rfl, hg1⟩
  go_wp2_with fail
  refine wp_loop_rounds 1 ?_
  rw [rounds_succ]
  go_wp2
  go_ret
  exact ⟨rfl, grown_none hg1 (World.grownBy_alloc w1 _ none)⟩
set_option maxRecDepth 100000 in
set_option maxHeartbeats 1000000 in
theorem due_nil (w : World) (now : Int) : Calls Tryz.prog 51 #[.pointer none, .int .u64 now] w fun r w' => r = .returned (.slice none 0 0) ∧ w.grownBy w' none := by
  go_enter Tryz.func51, Tryz.ntmps51
  go_wp2_with fail
  refine (takeWhile_nil w _).mono ?_
  rintro r w1 ⟨rfl, hg1⟩
  go_wp2
  go_ret
  exact ⟨rfl, hg1⟩
end Go.Proofs.YtblnhcnfeagjhaaGreatDoor.Q
