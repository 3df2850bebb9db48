/- What bytes.Clone and codec.Find return, for every slice of bytes, every list of fields and every tag. -/
import Derived.Test.YtbkiafedadofdaaLater
import Derived.Lib.SliceRun
namespace Go.Proofs.Ytbkiafedadofdaa
open Go.RowKit Go.Shelf Plain Go.IntWalk
set_option linter.unusedVariables false
attribute [local go_sem] Oper.semAt_some

theorem lit_zero (W : World) (base : Nat) (hb : base ≤ W.heap.size) : (W.alloc (.cells #[] 5)).ownsRow base 5 1 (.slice (some ⟨W.heap.size, 0, none⟩) 0 0) 0 (([] : List Int).map (Value.int .u8)) :=
  World.ownsRow_lit W #[] 0 hb (by unfold maxLen; omega) rfl

set_option maxRecDepth 100000 in
set_option maxHeartbeats 1000000 in
theorem clone_in (F : Fence) (n : Nat) (h : F.fn 24) (hro : F.round = none) (n₀ : Nat) (a : Option Addr) (len cap : Nat) (zs : List Int) (w : World) (hz : Bts n₀ w (.slice a len cap) zs) (hl : zs.length ≤ 140737488355328) (hn : n₀ ≤ w.heap.size) :
    CallsIn F n Try.prog 24 #[.slice a len cap] w fun e w' => ∃ a' c', e = .returned (.slice a' zs.length c') ∧ w'.ownsRow w.heap.size 5 1 (.slice a' zs.length c') zs.length (zs.map (Value.int .u8)) ∧ Below w.heap.size w w' ∧ KeepsOthers w w' := by
  have hq := fun (w : World) (a : Option Addr) (n c n' c' : Nat) => Lib.run_eql_slice_nil (P := Try.prog) w 23 5 a n c n' c' Try.underlying23
  cases a with
  | none =>
    have e : len = 0 ∧ cap = 0 ∧ zs = [] := by
      obtain ⟨⟨e | ⟨ad, c, e⟩, h⟩ | ⟨b, off, c, e, _⟩, _⟩ := hz
      · simp at e; exact ⟨e.1, e.2, h⟩
      · simp at e
      · simp at e
    obtain ⟨rfl, rfl, rfl⟩ := e
    refine callsIn_of_wp Try.func24 rfl h ?_ hro
    simp only [Try.ntmps24, List.size_toArray, List.length_cons, List.length_nil, Nat.reduceAdd, Nat.reduceSub, Array.replicate_succ, Array.replicate_zero, List.push_toArray, List.append_toArray, List.nil_append, List.cons_append]
    gi_wp2
    go_ret
    exact ⟨none, 0, rfl, World.ownsRow_nil _ _ _ _, Below.refl _ _, KeepsOthers.refl _⟩
  | some ad =>
    refine callsIn_of_wp Try.func24 rfl h ?_ hro
    simp only [Try.ntmps24, List.size_toArray, List.length_cons, List.length_nil, Nat.reduceAdd, Nat.reduceSub, Array.replicate_succ, Array.replicate_zero, List.push_toArray, List.append_toArray, List.nil_append, List.cons_append]
    gi_wp2_with (gi_at_builtin; go_must (refine wpListIn_append_bts _ rfl (.tmp 5) (.tmp 6) rfl w.heap.size n₀ _ _ _ [] zs rfl rfl (lit_zero w _ (Nat.le_refl _)) (hz.below ((Below.refl _ w).alloc hn _)) (by omega) (by simp) ?_); intro v4 w4 hr4 hg4; rw [Nat.zero_add] at hr4)
    go_ret
    obtain ⟨a', c', rfl⟩ : ∃ a' c', v4 = .slice a' zs.length c' := by
      rcases Joins.ownsRow_forms hr4 with ⟨rfl, h0⟩ | ⟨g, c, rfl⟩
      · exact ⟨none, 0, by rw [h0]⟩
      · exact ⟨_, c, rfl⟩
    refine ⟨a', c', rfl, hr4, ((Below.refl _ w).alloc (Nat.le_refl _) _).grown hg4 (by simp) (fun k e => by cases e; exact Nat.le_refl _), (KeepsOthers.alloc w _).trans (KeepsOthers.of_grownBy hg4 fun j o ej hj => ?_)⟩
    cases ej
    rw [heap_alloc_new] at hj
    cases hj
    rfl

/-- slices.Values hands back a value that gives all of the fields, in order; or a beginning of them. -/
theorem values_stops_of {α : Type} (q : α → Fd) (d : α) (F : Fence) (n : Nat) (h7 : F.fn 26) (hro : F.round = none) (hn : 1 ≤ n) (Bs n₀ : Nat) (sv : Value) (ys : List α) (w : World) (hBs : Bs < w.heap.size) (hn₀ : n₀ ≤ w.heap.size)
    (hc : w.cell? ⟨Bs, 0, none⟩ = some sv) (hI : Flds n₀ w sv (ys.map q)) :
    SeqStopsK F n Try.prog 26 #[.pointer (some ⟨Bs, 0, none⟩)] (fun x : α => #[.agg #[.int .i64 (q x).tag, .slice (q x).a (q x).len (q x).cap]]) (Below n₀) (fun zs => zs = ys) (fun pre => pre <+: ys) ys.length w := fun l J Jx W hW hJ _ hY h0 => by
  have hc' := (hW.cell (p := ⟨Bs, 0, none⟩) hBs).trans hc
  have hsz := hW.size
  obtain ⟨⟨rfl | ⟨ad, cap, rfl⟩, e⟩ | ⟨b, off, cap, rfl, hb, hl, hm, hcs⟩, _⟩ := hI.below (hW.mono hn₀)
  · have e' : ys = [] := List.map_eq_nil_iff.1 e
    subst e'
    exact (values1_nil_in F n h7 hro l Bs J W none 0 hc' h0).mono fun e W' ⟨he, hj⟩ => ⟨he, .inl ⟨_, rfl, hj⟩⟩
  · have e' : ys = [] := List.map_eq_nil_iff.1 e
    subst e'
    exact (values1_nil_in F n h7 hro l Bs J W _ cap hc' h0).mono fun e W' ⟨he, hj⟩ => ⟨he, .inl ⟨_, rfl, hj⟩⟩
  · by_cases hy0 : ys.length = 0
    · have e' : ys = [] := List.eq_nil_of_length_eq_zero hy0
      subst e'
      refine (values1_in F n h7 hro hn l Bs n₀ b off 0 cap (fun _ => d) q (by omega) hb J Jx W (by omega) hJ hY hc' (fun j hj => by omega) h0).mono ?_
      rintro e W' ⟨he, ⟨zs, rfl, hj⟩ | ⟨pre, ⟨k, hk, rfl⟩, hj⟩⟩
      · exact ⟨he, .inl ⟨_, rfl, hj⟩⟩
      · obtain rfl : k = 0 := by omega
        exact ⟨he, .inr ⟨_, List.prefix_rfl, hj⟩⟩
    · haveI : Inhabited α := ⟨d⟩
      simp only [List.length_map] at hc' hl
      refine (values1_in F n h7 hro hn l Bs n₀ b off ys.length cap (fun j => ys[j]?.getD default) q (by unfold maxLen at hm; omega) hb J Jx W (by omega) hJ hY hc' (fun j hj => hcs j _ (by simp [hj])) h0).mono ?_
      rintro e W' ⟨he, ⟨zs, rfl, hj⟩ | ⟨pre, ⟨k, hk, rfl⟩, hj⟩⟩
      · exact ⟨he, .inl ⟨_, by rw [upto_list ys (Nat.le_refl _), List.take_length], hj⟩⟩
      · exact ⟨he, .inr ⟨_, by rw [upto_list ys hk]; exact List.take_prefix _ _, hj⟩⟩

/-- What is known to be readable, and not too long. -/
abbrev FdS (n₀ : Nat) (W : World) := { x : Fd // x.ok n₀ W ∧ x.zs.length ≤ 5000 }
def fdS0 (n₀ : Nat) (W : World) : FdS n₀ W := ⟨⟨0, none, 0, 0, []⟩, ⟨⟨.inl ⟨.inl rfl, rfl⟩, fun z hz => by cases hz⟩, by decide, by decide⟩, by decide⟩
def fss {n₀ : Nat} {W : World} (ys : List (FdS n₀ W)) : List Fd := ys.map (·.1)
theorem fss_of {n₀ : Nat} {W : World} : ∀ {xs : List Fd}, (∀ x ∈ xs, x.ok n₀ W) → (∀ x ∈ xs, x.zs.length ≤ 5000) → ∃ ys : List (FdS n₀ W), fss ys = xs
  | [], _, _ => ⟨[], rfl⟩
  | x :: xs, h, k => by
    obtain ⟨ys, e⟩ := fss_of (xs := xs) (fun y hy => h y (by simp [hy])) (fun y hy => k y (by simp [hy]))
    exact ⟨⟨x, h x (by simp), k x (by simp)⟩ :: ys, by simp only [fss, List.map_cons]; exact congrArg _ e⟩

/-- The bytes of the last field. -/
def lastZs {n₀ : Nat} {W : World} (ys : List (FdS n₀ W)) : List Int := (ys.getLast?.map (fun y => y.1.zs)).getD []
theorem lastZs_snoc {n₀ : Nat} {W : World} (ys : List (FdS n₀ W)) (x : FdS n₀ W) : lastZs (ys ++ [x]) = x.1.zs := by simp [lastZs]
theorem boxed_below {A B : World} {C : Nat} {t : TypeId} {v : Value} (h : Boxed A C t v) (hB : Below A.heap.size A B) : Boxed B C t v := (hB.block C h.lt).trans h
theorem two_stores' {W : World} {s k : Nat} {v : Value} {xs : List Value} (hrow : W.ownsRow s 5 1 v k xs) {u1 u2 : Value} (bR : Boxed W (s + 1) 23 u1) (bE : Boxed W (s + 1 + 1) 4 u2) (v1 v2 : Value) :
    ((W.setCell ⟨s + 1, 0, none⟩ v1).setCell ⟨s + 1 + 1, 0, none⟩ v2).ownsRow s 5 1 v k xs := by
  have h1 := hrow.kept (grownBy_setCell' W (s + 1) v1) (.inr (bR.not_row (by decide) hrow).symm)
  have b1 := bE.other (B' := s + 1) (by omega) v1
  exact h1.kept (grownBy_setCell' _ (s + 1 + 1) v2) (.inr (b1.not_row (by decide) h1).symm)

set_option maxRecDepth 100000 in
set_option maxHeartbeats 2000000 in
theorem find_t (F : Fence) (n : Nat) (h16 : F.fn 16) (h21 : F.fn 21) (h26 : F.fn 26) (h24 : F.fn 24) (hro : F.round = none) (hn : 5 ≤ n) (a : Option Addr) (cap len : Nat) (tag : Int) (w : World) (ys : List (FdS w.heap.size w)) (hI : Flds w.heap.size w (.slice a len cap) (fss ys)) :
    CallsIn F n Try.prog 16 #[.slice a len cap, .int .i64 tag] w fun e W' => ((e = .returned (.tuple #[.slice none 0 0, .bool false]) ∧ ∀ y ∈ ys, y.1.tag ≠ tag) ∨ (∃ v ini last, e = .returned (.tuple #[v, .bool true]) ∧ (ini ++ [last]) <+: ys ∧ (∀ y ∈ ini, y.1.tag ≠ tag) ∧ last.1.tag = tag ∧ W'.ownsRow w.heap.size 5 1 v last.1.zs.length (last.1.zs.map (Value.int .u8)))) ∧ Below w.heap.size w W' := by
  have h1 : 1 ≤ n := by omega
  refine callsIn_of_wp_marks Try.func16 rfl h16 ?_ hro
  simp only [Try.ntmps16, List.size_toArray, List.length_cons, List.length_nil, Nat.reduceAdd, Nat.reduceSub, Array.replicate_succ, Array.replicate_zero, List.push_toArray, List.append_toArray, List.nil_append, List.cons_append]
  gi_wp2_with (gi_at_call 21; refine (values_in F (n - 1) h21 hro _ _ _ _).mono ?_; rintro e w' ⟨rfl, rfl⟩)
  have bT := ((((Boxed.new w 3 (.int .i64 tag)).alloc (.cells #[.slice none 0 0] 23)).alloc (.cells #[.bool false] 4)).alloc (.cells #[.slice a len cap] 22))
  have bR := (((Boxed.new (w.alloc (.cells #[.int .i64 tag] 3)) 23 (.slice none 0 0)).alloc (.cells #[.bool false] 4)).alloc (.cells #[.slice a len cap] 22))
  have bE := ((Boxed.new ((w.alloc (.cells #[.int .i64 tag] 3)).alloc (.cells #[.slice none 0 0] 23)) 4 (.bool false)).alloc (.cells #[.slice a len cap] 22))
  have bV := Boxed.new (((w.alloc (.cells #[.int .i64 tag] 3)).alloc (.cells #[.slice none 0 0] 23)).alloc (.cells #[.bool false] 4)) 22 (.slice a len cap)
  simp only [World.size_alloc] at bR bE bV
  have hB0 : Below w.heap.size w ((((w.alloc (.cells #[.int .i64 tag] 3)).alloc (.cells #[.slice none 0 0] 23)).alloc (.cells #[.bool false] 4)).alloc (.cells #[.slice a len cap] 22)) := ((((Below.refl _ w).alloc (Nat.le_refl _) _).alloc (by simp) _).alloc (by simp; omega) _).alloc (by simp; omega) _
  have hsz : ((((w.alloc (.cells #[.int .i64 tag] 3)).alloc (.cells #[.slice none 0 0] 23)).alloc (.cells #[.bool false] 4)).alloc (.cells #[.slice a len cap] 22)).heap.size = w.heap.size + 4 := by simp
  obtain ⟨W0, hW0⟩ : ∃ W0, (((w.alloc (.cells #[.int .i64 tag] 3)).alloc (.cells #[.slice none 0 0] 23)).alloc (.cells #[.bool false] 4)).alloc (.cells #[.slice a len cap] 22) = W0 := ⟨_, rfl⟩
  rw [hW0] at bT bR bE bV hB0 hsz ⊢
  clear hW0
  refine wpIn_rangeFunc_ownH hro h1 (gf := 26) (lb := #[.pointer (some ⟨w.heap.size + 1 + 1 + 1, 0, none⟩)]) rfl h26 (enters_of Try.func26 (by kernel_rfl) rfl)
    (values_stops_of (fun x : FdS w.heap.size w => x.1) (fdS0 _ _) F (n - 1) h26 hro (by omega) (w.heap.size + 1 + 1 + 1) w.heap.size _ ys W0 (by omega) (by omega) bV.cell (hI.below hB0)) belowK_t (belowK_b (by omega)) (Below.refl _ _) (fun _ => rfl)
    (fun (pre : List (FdS w.heap.size w)) W => ((((∀ y ∈ pre, y.1.tag ≠ tag) ∧ Boxed W w.heap.size 3 (.int .i64 tag)) ∧ Boxed W (w.heap.size + 1) 23 (.slice none 0 0)) ∧ Boxed W (w.heap.size + 1 + 1) 4 (.bool false)) ∧ Below w.heap.size w W)
    (fun c (pre : List (FdS w.heap.size w)) W => ((c = .ret ∧ ∃ v, Boxed W (w.heap.size + 1) 23 v ∧ W.ownsRow w.heap.size 5 1 v (lastZs pre).length ((lastZs pre).map (Value.int .u8)) ∧ (∃ ini last, pre = ini ++ [last] ∧ (∀ y ∈ ini, y.1.tag ≠ tag) ∧ last.1.tag = tag)) ∧ Boxed W (w.heap.size + 1 + 1) 4 (.bool true)) ∧ Below w.heap.size w W)
    (OwnFrom.and (OwnFrom.and (OwnFrom.and (OwnFrom.and (ownFrom_pure _ _) (Own.from (boxed_own _ _ _) _)) (Own.from (boxed_own _ _ _) _)) (Own.from (boxed_own _ _ _) _)) (ownFrom_below (Nat.le_refl _) (by omega)))
    (fun c => OwnFrom.and (OwnFrom.and (OwnFrom.and (ownFrom_pure _ _) (Own.from (holdsRow_own w.heap.size (w.heap.size + 1) 23 5 1 (fun (pre : List (FdS w.heap.size w)) => (lastZs pre).length) (fun (pre : List (FdS w.heap.size w)) => (lastZs pre).map (Value.int .u8)) (fun (pre : List (FdS w.heap.size w)) _ => ∃ ini last, pre = ini ++ [last] ∧ (∀ y ∈ ini, y.1.tag ≠ tag) ∧ last.1.tag = tag)) _)) (Own.from (boxed_own _ _ _) _)) (ownFrom_below (Nat.le_refl _) (by omega)))
    ⟨⟨⟨⟨(fun _ h => by cases h), bT⟩, bR⟩, bE⟩, hB0⟩
    (fun (x : FdS w.heap.size w) a' W => ∃ Bx, w.heap.size + 1 + 1 < Bx ∧ W.heap[Bx]? = some (.cells #[.int .i64 x.1.tag, .slice x.1.a x.1.len x.1.cap] 37 (0, 0)) ∧ a' = { tmps := #[.slice a len cap, .int .i64 tag, undef, .pointer (some ⟨w.heap.size, 0, none⟩), .pointer (some ⟨w.heap.size + 1, 0, none⟩), .pointer (some ⟨w.heap.size + 1 + 1, 0, none⟩), .pointer (some ⟨Bx, 0, none⟩), .slice a len cap, .func (.func 26) #[] #[.pointer (some ⟨w.heap.size + 1 + 1 + 1, 0, none⟩)], .agg #[.int .i64 x.1.tag, .slice x.1.a x.1.len x.1.cap], undef, undef, undef, undef, undef, undef, undef], defers := [] })
    (fun x a' _ X Y row hs hg hr => by
      obtain ⟨Bx, h1, h2, h3⟩ := hs
      refine ⟨Bx, h1, (hg.block Bx (Array.getElem?_eq_some_iff.1 h2).1 (fun e => ?_)).trans h2, h3⟩
      obtain ⟨_, o, ho, hc⟩ := hr Bx e.symm
      rw [h2] at ho; cases ho; cases hc)
    ?assign ?body ?done ?stop
  case assign =>
    rintro l pre x W K ⟨⟨⟨⟨hall, bT1⟩, bR1⟩, bE1⟩, hB1⟩ hK
    gi_wp2
    exact hK _ _ ((KeepsOthers.alloc _ _).from _) ((Below.refl _ W).alloc hB1.size _) ⟨⟨⟨⟨hall, bT1.alloc _⟩, bR1.alloc _⟩, bE1.alloc _⟩, hB1.alloc hB1.size _⟩ ⟨W.heap.size, bE1.lt, heap_alloc_new W _, rfl⟩
  case body =>
    rintro l pre x a' W hlw _ ⟨⟨⟨⟨hall, bT1⟩, bR1⟩, bE1⟩, hB1⟩ ⟨Bx, hBx, bX, rfl⟩ hlt
    have h1' : 1 ≤ n - 1 - 1 := by omega
    have cX0 : W.cell? ⟨Bx, 0, none⟩ = some (.int .i64 x.1.tag) := cell_two_0 bX
    have cX1 : W.cell? ⟨Bx, 1, none⟩ = some (.slice x.1.a x.1.len x.1.cap) := cell_two_1 bX
    have cT := bT1.cell
    have hzl : x.1.zs.length ≤ 140737488355328 := by have := x.2.2; omega
    have hbx : Bts w.heap.size W (.slice x.1.a x.1.len x.1.cap) x.1.zs := x.2.1.1.below hB1
    have hsW := hB1.size
    by_cases ht : x.1.tag = tag
    · have ht' : (x.1.tag == tag) = true := by simpa using ht
      have HT : Hid (x.1.tag = tag) := ht
      clear ht
      gi_wp2_with (gi_at_call 24; go_must (refine (CallsIn.inRound l (clone_in F (n - 1 - 1 - 1) h24 hro w.heap.size x.1.a x.1.len x.1.cap x.1.zs W hbx hzl hsW)).mono ?_); go_must (rintro e W2 ⟨a2, c2, rfl, hrow2, hB2, hK2⟩); go_must (have bR2 := boxed_below bR1 hB2); go_must (have bE2 := boxed_below bE1 hB2); have cR2 := bR2.cell; have fR2 := bR2.frozen; have cE2 := bE2.cell; have fE2 := bE2.frozen)
      refine ⟨?_, ⟨⟨rfl, _, (bR2.set _).other (by omega) _, ?_, pre, x, rfl, hall, HT.out⟩, ?_⟩, ?_⟩
      · exact (hK2.trans ((KeepsOthers.setCell _ _ _).trans (KeepsOthers.setCell _ _ _))).from _
      · rw [lastZs_snoc]
        exact (two_stores' (Joins.ownsRow_le hrow2 hB1.size) bR2 bE2 _ _)
      · exact (bE2.other (B' := w.heap.size + 1) (by omega) _).set _
      · exact ((hB1.trans (hB2.mono hB1.size)).setCell (p := ⟨w.heap.size + 1, 0, none⟩) (by simp) _).setCell (p := ⟨w.heap.size + 1 + 1, 0, none⟩) (by simp; omega) _
    · have ht' : (x.1.tag == tag) = false := by simpa using ht
      gi_wp2
      exact ⟨KeepsFrom.refl _ _, Below.refl _ _, ⟨⟨⟨fun y hy => (List.mem_append.1 hy).elim (hall y) (fun e => by simp at e; subst e; exact ht), bT1⟩, bR1⟩, bE1⟩, hB1⟩
  case done =>
    rintro D zs W hD rfl ⟨⟨⟨⟨hall, bT1⟩, bR1⟩, bE1⟩, hB1⟩ hK
    have cR := bR1.cell
    have fR := bR1.frozen
    have cE := bE1.cell
    have fE := bE1.frozen
    gi_wp2
    have hk4 := (KeepsOthers.setCell W ⟨w.heap.size + 1, 0, none⟩ (.slice none 0 0)).trans (KeepsOthers.setCell _ ⟨w.heap.size + 1 + 1, 0, none⟩ (.bool false))
    have hK' := hk4.same D _ hK rfl
    refine ⟨by simp, .inl ⟨_, _, rfl, run_takeDeferred hK', ?_⟩⟩
    have b3 := (bR1.set (.slice none 0 0)).other (B' := w.heap.size + 1 + 1) (by omega) (.bool false)
    have b4 := (bE1.other (B' := w.heap.size + 1) (by omega) (.slice none 0 0)).set (.bool false)
    have c1 := cell_kept b3.cell (grownBy_putObj' _ D (.deferred none)) (fun r e => by cases e; exact ⟨_, hK', rfl⟩)
    have c2 := cell_kept b4.cell (grownBy_putObj' _ D (.deferred none)) (fun r e => by cases e; exact ⟨_, hK', rfl⟩)
    refine ⟨.tuple #[.slice none 0 0, .bool false], ?_, .inl ⟨rfl, hall⟩, ?_⟩
    · simp [results, Try.f16, go_sem, c1, c2]
    · exact ((hB1.setCell (p := ⟨w.heap.size + 1, 0, none⟩) (by simp) _).setCell (p := ⟨w.heap.size + 1 + 1, 0, none⟩) (by simp; omega) _).trans (belowK_b (w := w) (Nat.le_refl _) _ D _ _ (by omega) hK' rfl rfl)
  case stop =>
    rintro D c pre W hD hpre ⟨⟨⟨rfl, v, bv, hrow, ini, last, rfl, hini, hlast⟩, bE1⟩, hB1⟩ hK
    gi_wp2
    refine ⟨by simp, .inl ⟨_, _, rfl, run_takeDeferred hK, ?_⟩⟩
    have c1 := cell_kept bv.cell (grownBy_putObj' _ D (.deferred none)) (fun r e => by cases e; exact ⟨_, hK, rfl⟩)
    have c2 := cell_kept bE1.cell (grownBy_putObj' _ D (.deferred none)) (fun r e => by cases e; exact ⟨_, hK, rfl⟩)
    rw [lastZs_snoc] at hrow
    refine ⟨.tuple #[v, .bool true], ?_, .inr ⟨v, ini, last, rfl, hpre, hini, hlast, ownsRow_putObj hrow _ hK rfl⟩, hB1.trans (belowK_b (w := w) (Nat.le_refl _) W D _ _ (by omega) hK rfl rfl)⟩
    simp [results, Try.f16, go_sem, c1, c2]

/-- Is there a field with this tag? -/
def hasT (xs : List Fd) (tag : Int) : Bool := xs.any fun x => x.tag == tag
/-- The bytes of the first field with this tag. -/
def findT (xs : List Fd) (tag : Int) : List Int := ((xs.find? fun x => x.tag == tag).map (·.zs)).getD []
theorem find_none {xs : List Fd} {tag : Int} (h : ∀ x ∈ xs, x.tag ≠ tag) : hasT xs tag = false ∧ findT xs tag = [] := by
  have h1 : hasT xs tag = false := by
    rw [Bool.eq_false_iff]; intro e
    obtain ⟨x, hx, ht⟩ := List.any_eq_true.1 e
    exact h x hx (by simpa using ht)
  refine ⟨h1, ?_⟩
  have h2 : xs.find? (fun x => x.tag == tag) = none := List.find?_eq_none.2 (fun x hx => by simpa using h x hx)
  simp [findT, h2]
theorem find_some {xs ini rest : List Fd} {last : Fd} {tag : Int} (e : xs = ini ++ last :: rest) (h : ∀ x ∈ ini, x.tag ≠ tag) (hl : last.tag = tag) : hasT xs tag = true ∧ findT xs tag = last.zs := by
  subst e
  refine ⟨List.any_eq_true.2 ⟨last, by simp, by simpa using hl⟩, ?_⟩
  have h2 : ini.find? (fun x => x.tag == tag) = none := List.find?_eq_none.2 (fun x hx => by simpa using h x hx)
  simp [findT, List.find?_append, h2, hl]

/-- codec.Find, at whatever list of fields of not too many bytes. -/
theorem find_any (v : Value) (xs : List Fd) (tag : Int) (w : World) (hI : Flds w.heap.size w v xs) (hs : ∀ x ∈ xs, x.zs.length ≤ 5000) :
    Calls Try.prog 16 #[v, .int .i64 tag] w fun e w' => ∃ u, e = .returned (.tuple #[u, .bool (hasT xs tag)]) ∧ w'.ownsRow w.heap.size 5 1 u (findT xs tag).length ((findT xs tag).map (Value.int .u8)) ∧ Below w.heap.size w w' := by
  have hv : ∃ a cap, v = .slice a xs.length cap := by
    obtain ⟨⟨rfl | ⟨ad, cap, rfl⟩, rfl⟩ | ⟨b, off, cap, rfl, _, hl, hm, _⟩, _⟩ := hI
    · exact ⟨none, 0, rfl⟩
    · exact ⟨_, cap, rfl⟩
    · exact ⟨_, cap, rfl⟩
  obtain ⟨a, cap, rfl⟩ := hv
  obtain ⟨ys, rfl⟩ := fss_of hI.2 hs
  refine ((callsIn_wide (n := 5)).1 (find_t Fence.wide 5 trivial trivial trivial trivial rfl (by omega) a cap _ tag w ys hI)).mono ?_
  rintro e W' ⟨⟨rfl, hall⟩ | ⟨u, ini, last, rfl, ⟨rest, hpre⟩, hini, hlast, hrow⟩, hB⟩
  · obtain ⟨e1, e2⟩ := find_none (xs := fss ys) (tag := tag) (fun x hx => by obtain ⟨y, hy, rfl⟩ := List.mem_map.1 hx; exact hall y hy)
    rw [e1, e2]
    exact ⟨_, rfl, World.ownsRow_nil _ _ _ _, hB⟩
  · obtain ⟨e1, e2⟩ := find_some (xs := fss ys) (ini := fss ini) (rest := fss rest) (last := last.1) (tag := tag) (by rw [← hpre]; simp [fss]) (fun x hx => by obtain ⟨y, hy, rfl⟩ := List.mem_map.1 hx; exact hini y hy) hlast
    rw [e1, e2]
    exact ⟨u, rfl, hrow, hB⟩
theorem findT_byte {xs : List Fd} {tag : Int} {n₀ : Nat} {W : World} (h : ∀ x ∈ xs, x.ok n₀ W) : ∀ z ∈ findT xs tag, 0 ≤ z ∧ z < 256 := by
  intro z hz
  unfold findT at hz
  cases hf : xs.find? (fun x => x.tag == tag) with
  | none => rw [hf] at hz; cases hz
  | some x => rw [hf] at hz; exact (h x (List.mem_of_find?_eq_some hf)).1.2 z hz
end Go.Proofs.Ytbkiafedadofdaa
