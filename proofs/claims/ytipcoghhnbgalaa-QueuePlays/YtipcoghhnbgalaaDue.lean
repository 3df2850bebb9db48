/- Queue.Due. -/
import Derived.Test.YtipcoghhnbgalaaPop
namespace Go.Proofs.Ytipcoghhnbgalaa
open Go.RowKit Go.IntWalk Go.Maps
set_option linter.unusedVariables false
/-- What is due, and what is not. -/
def tkN (now : Int) (L : List E) : List E := L.takeWhile fun x => decide (x.at_ ≤ now)
def drN (now : Int) (L : List E) : List E := L.dropWhile fun x => decide (x.at_ ≤ now)
theorem tk_dr (now : Int) (L : List E) : tkN now L ++ drN now L = L := List.takeWhile_append_dropWhile
theorem tk_split {now : Int} {L T M : List E} (h : L = T ++ M) (hT : ∀ x ∈ T, x.at_ ≤ now) (hM : ∀ f M', M = f :: M' → ¬ f.at_ ≤ now) : tkN now L = T ∧ drN now L = M := by
  subst h
  induction T with
  | nil =>
    cases M with
    | nil => exact ⟨rfl, rfl⟩
    | cons f M' =>
      have := hM f M' rfl
      simp [tkN, drN, this]
  | cons a T ih =>
    have ha := hT a (by simp)
    obtain ⟨h1, h2⟩ := ih fun x hx => hT x (by simp [hx])
    simp only [tkN, drN] at h1 h2 ⊢
    simp [ha, h1, h2]
set_option maxRecDepth 100000 in
set_option maxHeartbeats 1000000 in
/-- tick.reaches. -/
theorem reaches_any (w : World) (now : Int) (e : E) : Calls Try.prog 32 #[.int .u64 now, .agg #[.string e.n, .int .u64 e.at_]] w fun r w' => r = .returned (.bool (decide (e.at_ ≤ now))) ∧ w.grownBy w' none := by
  go_enter Try.func32, Try.ntmps32
  go_wp2
  go_ret
  exact ⟨rfl, World.grownBy_alloc w _ none⟩
theorem take_q (w : World) {S : Nat → Prop} {qb : Nat} {f : E} {L : List E} (h : Qu S w qb (f :: L)) :
    Calls Try.prog 30 #[.pointer (some ⟨qb, 0, none⟩)] w fun r w' => r = .returned (.agg #[.string f.n, .int .u64 f.at_]) ∧ Qu (Gw S w w') w' qb L ∧ Kp S w w' := by
  obtain ⟨⟨bm, rv, es, hL, hH, hm, hS⟩, hs⟩ := h
  refine (takeFront_any w hL hH (heap_first hH hm hs)).mono ?_
  rintro r w1 ⟨rfl, rv1, es1, hL1, hT1, hH1, hm1⟩
  refine ⟨rfl, Qu.turn hS hL1 hT1 hH1 (fun x => ?_) hs.head.2.1⟩
  have h4 := mem_delN (n := f.n) (L := f :: L) (x := x)
  rw [hs.head.2.2] at h4
  rw [hm1 x, hm x, h4]
/-- How long a queue is, by its memory. -/
def qlen (qb : Nat) (w : World) : Nat := match w.cell? ⟨qb, 0, none⟩ with | some (.slice _ n _) => n | _ => 0
theorem Qu.qlen {S : Nat → Prop} {w : World} {qb : Nat} {L : List E} (h : Qu S w qb L) : qlen qb w = L.length := by
  obtain ⟨⟨bm, rv, es, hL, hH, hm, hS⟩, hs⟩ := h
  obtain ⟨a, cap, rfl⟩ := hL.shape
  unfold Ytipcoghhnbgalaa.qlen
  rw [hL.c0]
  exact Qu.len (S := S) hL hm hs
theorem Qu.lenb {S : Nat → Prop} {w : World} {qb : Nat} {L : List E} (h : Qu S w qb L) : L.length ≤ 100000 := by
  obtain ⟨⟨bm, rv, es, hL, hH, hm, hS⟩, hs⟩ := h
  rw [← Qu.len (S := S) hL hm hs]
  exact hL.len
theorem wpList_append_run {ops : Array Oper} {rest : List Oper} {o : Oper} {a : Act} {w : World} {Q : Exit → Act → World → Prop} (hg : o.guard = none) (sl x : Operand) (t : TypeId) (hop : o.op = Op.call { callee := Callee.builtin Builtin.append, args := #[sl, x], argTypes := #[t, t] })
    (v u : Value) (hs : a.eval sl = v) (hx : a.eval x = u) {v' : Value} {w' : World} (hrun : (Builtin.append_ #[t, t] o.type #[v, u]).run Try.prog w = .ok v' w') (hK : wpList Try.prog ops Q rest (a.put o.dst v') w') :
    wpList Try.prog ops Q (o :: rest) a w := by
  refine wpList_plain hg fun K hK' => ?_
  unfold Oper.wp
  simp [execOp, hop, resolve, invoke, builtin, hs, hx, hrun, Result.andThen]
  exact hK' _ _ hK
/-- The loop of takeWhile. -/
structure Tw (S : Nat → Prop) (w wr : World) (qb eb : Nat) (now : Int) (L T M : List E) (tv : Value) : Prop where
  eq : L = T ++ M
  le : ∀ x ∈ T, x.at_ ≤ now
  row : Rw 36 wr tv T
  new : ∀ k, tv.ownBlock = some k → w.heap.size ≤ k
  qu : Qu (fun k => Gw S w wr k ∧ tv.ownBlock ≠ some k ∧ k ≠ eb) wr qb M
  kp : Kp S w wr
  ebl : w.heap.size ≤ eb ∧ eb < wr.heap.size
  ne : tv.ownBlock ≠ some eb
  cur : ∀ f M', M = f :: M' → wr.heap[eb]? = some (.cells #[.string f.n, .int .u64 f.at_] 36 (0, 0))
theorem Gw.more {S : Nat → Prop} {w w1 w2 : World} (h : w1.heap.size ≤ w2.heap.size) {k : Nat} (hk : Gw S w w1 k) : Gw S w w2 k := by
  rcases hk with h1 | h1
  · exact .inl h1
  · exact .inr ⟨h1.1, by omega⟩
theorem Tw.grown {S : Nat → Prop} {w wr w1 : World} {qb eb : Nat} {now : Int} {L T M : List E} {tv : Value} (h : Tw S w wr qb eb now L T M tv) (hg : wr.grownBy w1 none) : Tw S w w1 qb eb now L T M tv :=
  ⟨h.eq, h.le, World.ownsRow.kept h.row hg (Classical.em _), h.new, (h.qu.kept fun k _ hk => hg.block k hk (by simp)).mono fun k hk => ⟨hk.1.more hg.size, hk.2⟩, h.kp.trans (Kp.of0 hg) (fun _ _ h => h), ⟨h.ebl.1, Nat.lt_of_lt_of_le h.ebl.2 hg.size⟩, h.ne, fun f M' e => (hg.block eb h.ebl.2 (by simp)).trans (h.cur f M' e)⟩
/-- One round of it. -/
theorem Tw.step {S : Nat → Prop} {w w1 w2 w3 w6 : World} {qb eb eb' : Nat} {now : Int} {L T M : List E} {f : E} {tv tv' : Value} (h : Tw S w w1 qb eb now L T (f :: M) tv) (hSl : ∀ k, S k → k < w.heap.size) (hle : f.at_ ≤ now)
    (hq2 : Qu (Gw (fun k => Gw S w w1 k ∧ tv.ownBlock ≠ some k ∧ k ≠ eb) w1 w2) w2 qb M) (hk2 : Kp (fun k => Gw S w w1 k ∧ tv.ownBlock ≠ some k ∧ k ≠ eb) w1 w2)
    (hg3 : w2.grownBy w3 tv.ownBlock) (hr3 : Rw 36 w3 tv' (T ++ [f])) (ho : tv'.ownBlock = tv.ownBlock ∨ ∃ k, tv'.ownBlock = some k ∧ w2.heap.size ≤ k)
    (hebn : w3.heap.size ≤ eb') (hebl : eb' < w6.heap.size) (hg6 : w3.grownBy w6 none) (hcur : ∀ g M', M = g :: M' → w6.heap[eb']? = some (.cells #[.string g.n, .int .u64 g.at_] 36 (0, 0))) : Tw S w w6 qb eb' now L (T ++ [f]) M tv' := by
  have hw1 := h.kp.size
  have hw2 := hk2.size
  have hw3 := hg3.size
  have hw6 := hg6.size
  have htl : ∀ k, tv.ownBlock = some k → k < w1.heap.size := fun k hk => (h.row.lt k hk).2
  have htl' : ∀ k, tv'.ownBlock = some k → k < w3.heap.size := fun k hk => (hr3.lt k hk).2
  have hfo : ∀ k, Gw (fun k => Gw S w w1 k ∧ tv.ownBlock ≠ some k ∧ k ≠ eb) w1 w2 k → tv.ownBlock ≠ some k := by
    rintro k (hk | hk) e
    · exact hk.2.1 e
    · have := htl k e; omega
  refine ⟨by rw [h.eq]; simp, fun x hx => ?_, World.ownsRow.kept hr3 hg6 (Classical.em _), fun k hk => ?_, ?_, ?_, ⟨by omega, hebl⟩, fun e => by have := htl' _ e; omega, hcur⟩
  · rcases List.mem_append.1 hx with hx | hx
    · exact h.le x hx
    · simp at hx; subst hx; exact hle
  · rcases ho with ho | ⟨j, hj, hjl⟩
    · exact h.new k (by rw [← ho]; exact hk)
    · rw [hj] at hk; cases hk; omega
  · have hq2' := hq2.fpb
    refine ((hq2'.kept fun k hk hkl => hg3.block k hkl (fun e => hfo k hk.1 e.symm)).kept fun k _ hkl => hg6.block k hkl (by simp)).mono ?_
    rintro k ⟨hk, hkl⟩
    refine ⟨?_, ?_, by omega⟩
    · rcases hk with hk | hk
      · exact hk.1.more (by omega)
      · exact .inr ⟨by omega, by omega⟩
    · intro e
      rcases ho with ho | ⟨j, hj, hjl⟩
      · exact hfo k hk (by rw [← ho]; exact e)
      · rw [hj] at e; cases e; omega
  · refine ((h.kp.trans hk2 ?_).trans (Kp.of hg3 (C := fun k => tv.ownBlock = some k) (fun k hk => hk)) ?_).trans (Kp.of0 (C := S) hg6) (fun _ _ h => h)
    · rintro i hi ⟨h1 | h1, _⟩
      · exact h1
      · omega
    · intro i hi e
      have := h.new i e
      omega
end Go.Proofs.Ytipcoghhnbgalaa
