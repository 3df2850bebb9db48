/- Trie.Longest: the walk. -/
import Derived.Test.YtpcdmjalfabbmaaLon
import Derived.Test.YtpcdmjalfabbmaaRnd
namespace Go.Proofs.Ytpcdmjalfabbmaa
open Go.RowKit Go.Shelf Go.IntWalk Go.Maps
set_option linter.unusedVariables false
attribute [local go_sem] Oper.semAt_some
/-- A box of several cells. -/
def Boxes (W : World) (B : Nat) (t : TypeId) (cs : Array Value) : Prop := W.heap[B]? = some (.cells cs t (0, 0))
theorem Boxes.kept {W W' : World} {row : Option Nat} {B : Nat} {t : TypeId} {cs : Array Value} (h : Boxes W B t cs) (hg : W.grownBy W' row) (hne : some B ≠ row) : Boxes W' B t cs := (hg.block B (Array.getElem?_eq_some_iff.1 (show W.heap[B]? = _ from h)).1 hne).trans h
theorem Boxes.alloc {W : World} {B : Nat} {t : TypeId} {cs : Array Value} (h : Boxes W B t cs) (o : Obj) : Boxes (W.alloc o) B t cs := h.kept (World.grownBy_alloc W o none) (by simp)
theorem Boxes.new (W : World) (t : TypeId) (cs : Array Value) : Boxes (W.alloc (.cells cs t)) W.heap.size t cs := World.alloc_heap_new W _
theorem boxes_own {β : Type} (B : Nat) (t : TypeId) (f : β → Array Value) : Own (fun s W => Boxes W B t (f s)) := fun s X Y row hs hg hrow =>
  hs.kept hg (fun e' => by obtain ⟨o, ho, hc⟩ := hrow B e'.symm; rw [show X.heap[B]? = _ from hs] at ho; cases ho; cases hc)
theorem Boxes.c {W : World} {B : Nat} {t : TypeId} {cs : Array Value} (h : Boxes W B t cs) {i : Nat} {v : Value} (hi : cs[i]? = some v) : W.cell? ⟨B, i, none⟩ = some v := by simp [World.cell?, show W.heap[B]? = _ from h, hi]
theorem Boxes.f {W : World} {B : Nat} {t : TypeId} {cs : Array Value} (h : Boxes W B t cs) (i : Nat) : W.frozen? ⟨B, i, none⟩ = false := by simp [World.frozen?, show W.heap[B]? = _ from h]
/-- The cells of an entry that there may be. -/
def ec : Option E → Array Value
  | none => #[.string (bt []), .string (bt [])]
  | some y => #[.string (bt y.k), .string y.v]
def ek : Option E → K
  | none => []
  | some y => y.k
def ev : Option E → ByteArray
  | none => bt []
  | some y => y.v
theorem ec_eq (o : Option E) : ec o = #[.string (bt (ek o)), .string (ev o)] := by cases o <;> rfl
set_option maxRecDepth 100000 in
set_option maxHeartbeats 2000000 in
theorem longest_in (w : World) {tb : Nat} {P : List K} {nb mb : K → Nat} {lab : K → K} {L : List E} (h : Tw w tb P nb mb lab (gt L) L.length) (k : K) (hk : k.length ≤ 100000) {o : Option E} (ho : Hid (lgo L (al P k (k.length + 1)) = o)) :
    CallsIn Fence.wide 9 Try.prog 25 #[ptr tb, .string (bt k)] w fun r w' => r = .returned (.tuple #[.agg #[.string (bt (ek o)), .string (ev o)], .bool o.isSome]) ∧ Below w.heap.size w w' := by
  refine callsIn_of_wp_marks Try.func25 rfl trivial ?_ rfl
  simp only [Try.ntmps25, List.size_toArray, List.length_cons, List.length_nil, Nat.reduceAdd, Nat.reduceSub, Array.replicate_succ, Array.replicate_zero, List.push_toArray, List.append_toArray, List.nil_append, List.cons_append]
  refine wpIn_wide.2 ?_
  generalize hQ0 : bodyPostM Fence.wide 9 Try.prog Try.f25 _ = Q0
  have HQ0 : Hid (_ = Q0) := ⟨hQ0⟩
  clear hQ0
  go_wp2_with fail
  refine (callsIn_wide.1 (along_in 8 _ _ _)).mono ?_
  rintro e' w' ⟨rfl, rfl⟩
  obtain ⟨N, hN⟩ : ∃ N, w.heap.size = N := ⟨_, rfl⟩
  have b0 := ((((((Boxed.new w 9 (.string (bt k))).alloc (.cells #[.string ⟨#[]⟩, .string ⟨#[]⟩] 46)).alloc (.cells #[.string ⟨#[]⟩, .string ⟨#[]⟩] 46)).alloc (.cells #[.bool false] 4)).alloc (.cells #[ptr tb] 25)).alloc (.cells #[.string (bt k)] 9))
  have b1 := (((((Boxes.new (w.alloc (.cells #[.string (bt k)] 9)) 46 #[.string ⟨#[]⟩, .string ⟨#[]⟩]).alloc (.cells #[.string ⟨#[]⟩, .string ⟨#[]⟩] 46)).alloc (.cells #[.bool false] 4)).alloc (.cells #[ptr tb] 25)).alloc (.cells #[.string (bt k)] 9))
  have b2 := ((((Boxes.new ((w.alloc (.cells #[.string (bt k)] 9)).alloc (.cells #[.string ⟨#[]⟩, .string ⟨#[]⟩] 46)) 46 #[.string ⟨#[]⟩, .string ⟨#[]⟩]).alloc (.cells #[.bool false] 4)).alloc (.cells #[ptr tb] 25)).alloc (.cells #[.string (bt k)] 9))
  have b3 := (((Boxed.new (((w.alloc (.cells #[.string (bt k)] 9)).alloc (.cells #[.string ⟨#[]⟩, .string ⟨#[]⟩] 46)).alloc (.cells #[.string ⟨#[]⟩, .string ⟨#[]⟩] 46)) 4 (.bool false)).alloc (.cells #[ptr tb] 25)).alloc (.cells #[.string (bt k)] 9))
  have b4 := ((Boxed.new ((((w.alloc (.cells #[.string (bt k)] 9)).alloc (.cells #[.string ⟨#[]⟩, .string ⟨#[]⟩] 46)).alloc (.cells #[.string ⟨#[]⟩, .string ⟨#[]⟩] 46)).alloc (.cells #[.bool false] 4)) 25 (ptr tb)).alloc (.cells #[.string (bt k)] 9))
  have b5 := (Boxed.new (((((w.alloc (.cells #[.string (bt k)] 9)).alloc (.cells #[.string ⟨#[]⟩, .string ⟨#[]⟩] 46)).alloc (.cells #[.string ⟨#[]⟩, .string ⟨#[]⟩] 46)).alloc (.cells #[.bool false] 4)).alloc (.cells #[ptr tb] 25)) 9 (.string (bt k)))
  have g0 : w.grownBy ((((((w.alloc (.cells #[.string (bt k)] 9)).alloc (.cells #[.string ⟨#[]⟩, .string ⟨#[]⟩] 46)).alloc (.cells #[.string ⟨#[]⟩, .string ⟨#[]⟩] 46)).alloc (.cells #[.bool false] 4)).alloc (.cells #[ptr tb] 25)).alloc (.cells #[.string (bt k)] 9)) none := (grown_none (grown_none (grown_none (grown_none (grown_none (World.grownBy_alloc _ _ none) (World.grownBy_alloc _ _ none)) (World.grownBy_alloc _ _ none)) (World.grownBy_alloc _ _ none)) (World.grownBy_alloc _ _ none)) (World.grownBy_alloc _ _ none))
  have hsz : ((((((w.alloc (.cells #[.string (bt k)] 9)).alloc (.cells #[.string ⟨#[]⟩, .string ⟨#[]⟩] 46)).alloc (.cells #[.string ⟨#[]⟩, .string ⟨#[]⟩] 46)).alloc (.cells #[.bool false] 4)).alloc (.cells #[ptr tb] 25)).alloc (.cells #[.string (bt k)] 9)).heap.size = N + 6 := by simp [hN]
  simp only [World.size_alloc, hN] at b0 b1 b2 b3 b4 b5
  go_wp2_with fail
  obtain ⟨W0, hW0⟩ : ∃ W0, ((((((w.alloc (.cells #[.string (bt k)] 9)).alloc (.cells #[.string ⟨#[]⟩, .string ⟨#[]⟩] 46)).alloc (.cells #[.string ⟨#[]⟩, .string ⟨#[]⟩] 46)).alloc (.cells #[.bool false] 4)).alloc (.cells #[ptr tb] 25)).alloc (.cells #[.string (bt k)] 9)) = W0 := ⟨_, rfl⟩
  rw [hW0] at b0 b1 b2 b3 b4 b5 g0 hsz ⊢
  clear hW0
  have hB0 : Below N w W0 := ⟨g0.os, g0.tape, g0.output, g0.size, fun j hj => g0.block j (by omega) (by simp)⟩
  have hT0 := h.keep g0
  have hfl : ∀ j, Ft tb P nb mb j → j < N := fun j hj => by
    rw [← hN]
    rcases hj with rfl | hj
    · exact h.lt
    · exact h.tm.flt hj
  have tl := bt_take k
  refine (wpIn_wide (n := 9)).1 ?_
  refine wpIn_rangeFunc_ownH rfl (by omega) (gf := 45) (lb := #[ptr (N + 4), ptr (N + 5)]) rfl trivial (enters_of Try.func45 (by kernel_rfl) rfl)
    (along_stopsP (9 - 1) (by omega) (N + 4) (N + 5) N tb k (by omega) W0 (by omega) (by omega) (by omega) b4.cell b5.cell hT0 hfl) belowK_t (belowK_b (by omega)) (Below.refl _ _) (fun _ => rfl)
    (fun (pre : List (Pk P k)) W => (Boxed W N 9 (.string (bt k)) ∧ Boxes W (N + 1) 46 #[.string (bt []), .string (bt [])] ∧ Boxes W (N + 2) 46 (ec (lgo L (pks pre))) ∧ Boxed W (N + 3) 4 (.bool (lgo L (pks pre)).isSome)) ∧ Below N w W)
    (fun _ (pre : List (Pk P k)) W => False)
    (OwnFrom.and (OwnFrom.and (Own.from (boxed_own _ _ _) _) (OwnFrom.and (Own.from (boxes_own _ _ _) _) (OwnFrom.and (Own.from (boxes_own _ _ _) _) (Own.from (boxed_own _ _ _) _)))) (ownFrom_below (by omega) (by omega)))
    (fun c => ownFrom_pure _ _)
    ⟨⟨b0, b1, b2, b3⟩, hB0⟩
    (fun (x : Pk P k) a' W => a' = { tmps := #[ptr tb, .string (bt k), undef, ptr N, ptr (N + 1), .bool false, ptr (N + 2), ptr (N + 3), ptr (nb x.1), .string (bt (k.drop x.1.length)), ptr tb, .string (bt k), .func (.func 45) #[] #[ptr (N + 4), ptr (N + 5)], ptr (nb x.1), .string (bt (k.drop x.1.length)), undef, undef, undef, undef, undef, undef, undef, undef, undef, undef, undef, undef, undef, undef, undef, undef, undef, undef], defers := [] })
    (fun x a' _ X Y row hs hg hr => hs)
    ?assign ?body ?done ?stop
  case assign =>
    rintro l pre x W K ⟨b, hB1⟩ hK
    gi_wp2
    exact hK _ _ ((KeepsOthers.refl _).from _) (Below.refl _ _) ⟨b, hB1⟩ rfl
  case body =>
    rintro l pre ⟨x, hx, hxk⟩ a' W hlw _ ⟨⟨b0, b1, b2, b3⟩, hB1⟩ rfl hlt
    have hTW := (h.kept (w' := W) fun j hj => hB1.block j (hfl j hj)).tm
    have c1 := hTW.c1 hx
    have c2 := hTW.c2 hx
    have hle := hxk.length_le
    obtain ⟨rest, hrest⟩ : ∃ rest, k.drop x.length = rest := ⟨_, rfl⟩
    obtain ⟨R, hR⟩ : ∃ R, rest.length = R := ⟨_, rfl⟩
    obtain ⟨X, hX⟩ : ∃ X, x.length = X := ⟨_, rfl⟩
    have hkl : k.length = X + R := by
      rw [← hR, ← hrest, List.length_drop, hX]
      omega
    have hdl : (bt rest).size = R := by rw [bt_size, hR]
    have hsz1 : (bt k).size = X + R := by rw [bt_size, hkl]
    have hcut : (bt k).extract 0 X = bt x := by
      rw [bt_take, ← hX, ← List.prefix_iff_eq_take.1 hxk]
    have hb : X + R ≤ 100000 := by omega
    have hfol : Try.prog.follows .mixedOrders = true := by kernel_rfl
    have hwr : IntKind.i64.wrap (X : Int) = X := by rw [IntKind.wrap_i64]; omega
    have hnx : nb x < N := hfl _ (.inr ⟨x, hx, .inl rfl⟩)
    have hn1 : ¬ N + 1 + 1 = nb x := by omega
    have hn2 : ¬ N + 1 + 1 = N := by omega
    have hsub : (X : Int) + (R : Int) - (R : Int) = X := by omega
    have hx1 : (X : Int) ≤ (X : Int) + (R : Int) := by omega
    have hx0 : (0 : Int) ≤ X := by omega
    rw [hrest]
    clear hX hR hrest hkl hle
    cases hg : gt L x with
    | none =>
      rw [hg] at c1 c2
      have hlg : Hid (lgo L (pks (pre ++ [(⟨x, hx, hxk⟩ : Pk P k)])) = lgo L (pks pre)) := ⟨by rw [pks_snoc, lgo_snoc, hg]⟩
      gi_wp2
      refine ⟨(KeepsOthers.refl _).from _, Below.refl _ _, ⟨b0, b1, ?_, ?_⟩, hB1⟩
      · rw [hlg.out]; exact b2
      · rw [hlg.out]; exact b3
    | some v =>
      rw [hg] at c1 c2
      have hlg : Hid (lgo L (pks (pre ++ [(⟨x, hx, hxk⟩ : Pk P k)])) = some ⟨x, v⟩) := ⟨by rw [pks_snoc, lgo_snoc, hg]⟩
      have d0 := b0.cell
      have d3 := b3.cell
      have f3 := b3.frozen
      rw [ec_eq] at b2
      have e0 := b2.c (i := 0) rfl
      have e1 := b2.c (i := 1) rfl
      have ef := b2.f
      clear tl hTW
      gi_wp2_with fail
      refine region_round_held (S := (fun w' => w'.cell? ⟨N, 0, none⟩ = some (.string (bt k)) ∧ w'.cell? ⟨nb x, 1, none⟩ = some (.string v))) (by kernel_rfl) (by kernel_rfl) (by rintro ⟨a, w, h⟩; exact h) (by (try dsimp only); exact ⟨d0, c1⟩) (fun hHeld => ?_)
      refine wpAnyH_take (i := 0) (v := ?_) rfl (by kernel_rfl) (by kernel_rfl) (by kernel_rfl) (fun _ _ _ h => h) (Or.inl ⟨by rfl, ?_⟩) (by assumption) ?_
      rotate_left
      · (intro w hSw; (try dsimp only at hSw); go_simp; try with_reducible rfl)
      try simp only [List.getElem_toArray, List.getElem_cons_zero, Act.put, List.setIfInBounds_toArray, List.set_cons_zero, List.set_cons_succ]
      refine wpAnyH_take (i := 1) (v := ?_) rfl (by kernel_rfl) (by kernel_rfl) (by kernel_rfl) (fun _ _ _ h => h) (Or.inl ⟨by rfl, ?_⟩) (by assumption) ?_
      rotate_left
      · (intro w hSw; (try dsimp only at hSw); go_simp; try with_reducible rfl)
      try simp only [List.getElem_toArray, List.getElem_cons_zero, List.getElem_cons_succ, Act.put, List.setIfInBounds_toArray, List.set_cons_zero, List.set_cons_succ]
      refine wpAnyH_take (i := 2) (v := ?_) rfl (by kernel_rfl) (by kernel_rfl) (by kernel_rfl) (fun _ _ _ h => h) (Or.inl ⟨by rfl, ?_⟩) (by assumption) ?_
      rotate_left
      · (intro w hSw; (try dsimp only at hSw); go_simp; try with_reducible rfl)
      try simp only [List.getElem_toArray, List.getElem_cons_zero, List.getElem_cons_succ, Act.put, List.setIfInBounds_toArray, List.set_cons_zero, List.set_cons_succ]
      refine wpAnyH_take (i := 3) (v := ?_) rfl (by kernel_rfl) (by kernel_rfl) (by kernel_rfl) (fun _ _ _ h => h) (Or.inl ⟨by rfl, ?_⟩) (by assumption) ?_
      rotate_left
      · (intro w hSw; (try dsimp only at hSw); go_simp; try with_reducible rfl)
      try simp only [List.getElem_toArray, List.getElem_cons_zero, List.getElem_cons_succ, Act.put, List.setIfInBounds_toArray, List.set_cons_zero, List.set_cons_succ]
      refine wpAnyH_take (i := 4) (v := ?_) rfl (by kernel_rfl) (by kernel_rfl) (by kernel_rfl) (fun _ _ _ h => h) (Or.inl ⟨by rfl, ?_⟩) (by assumption) ?_
      rotate_left
      · (intro w hSw; (try dsimp only at hSw); go_simp; try with_reducible rfl)
      try simp only [List.getElem_toArray, List.getElem_cons_zero, List.getElem_cons_succ, Act.put, List.setIfInBounds_toArray, List.set_cons_zero, List.set_cons_succ]
      refine wpAnyH_take (i := 5) (v := ?_) rfl (by kernel_rfl) (by kernel_rfl) (by kernel_rfl) (fun _ _ _ h => h) (Or.inl ⟨by rfl, ?_⟩) (by assumption) ?_
      rotate_left
      · (intro w hSw; (try dsimp only at hSw); go_simp; try with_reducible rfl)
      try simp only [List.getElem_toArray, List.getElem_cons_zero, List.getElem_cons_succ, Act.put, List.setIfInBounds_toArray, List.set_cons_zero, List.set_cons_succ]
      refine wpAnyH_take (i := 6) (v := ?_) rfl (by kernel_rfl) (by kernel_rfl) (by kernel_rfl) (fun _ _ _ h => h) (Or.inl ⟨by rfl, ?_⟩) (by assumption) ?_
      rotate_left
      · (intro w hSw; (try dsimp only at hSw); go_simp; try with_reducible rfl)
      try simp only [List.getElem_toArray, List.getElem_cons_zero, List.getElem_cons_succ, Act.put, List.setIfInBounds_toArray, List.set_cons_zero, List.set_cons_succ]
      refine wpAnyH_take (i := 7) (v := ?_) rfl (by kernel_rfl) (by kernel_rfl) (by kernel_rfl) (fun _ _ _ h => h) (Or.inl ⟨by rfl, ?_⟩) (by assumption) ?_
      rotate_left
      · (intro w hSw; (try dsimp only at hSw); go_simp; try with_reducible rfl)
      try simp only [List.getElem_toArray, List.getElem_cons_zero, List.getElem_cons_succ, Act.put, List.setIfInBounds_toArray, List.set_cons_zero, List.set_cons_succ]
      refine wpAnyH_take (i := 8) (v := ?_) rfl (by kernel_rfl) (by kernel_rfl) (by kernel_rfl) (fun _ _ _ h => h) (Or.inl ⟨by rfl, ?_⟩) (by assumption) ?_
      rotate_left
      · (intro w hSw; (try dsimp only at hSw); go_simp; try with_reducible rfl)
      try simp only [List.getElem_toArray, List.getElem_cons_zero, List.getElem_cons_succ, Act.put, List.setIfInBounds_toArray, List.set_cons_zero, List.set_cons_succ]
      refine wpAnyH_take (i := 9) (v := ?_) rfl (by kernel_rfl) (by kernel_rfl) (by kernel_rfl) (fun _ _ _ h => h) (Or.inl ⟨by rfl, ?_⟩) (by assumption) ?_
      rotate_left
      · (intro w hSw; (try dsimp only at hSw); go_simp; try with_reducible rfl)
      try simp only [List.getElem_toArray, List.getElem_cons_zero, List.getElem_cons_succ, Act.put, List.setIfInBounds_toArray, List.set_cons_zero, List.set_cons_succ]
      refine wpAnyH_take (i := 10) (v := ?_) rfl (by kernel_rfl) (by kernel_rfl) (by kernel_rfl) (fun _ _ _ h => h) (Or.inl ⟨by rfl, ?_⟩) (by assumption) ?_
      rotate_left
      · (intro w hSw; (try dsimp only at hSw); go_simp; try with_reducible rfl)
      try simp only [List.getElem_toArray, List.getElem_cons_zero, List.getElem_cons_succ, Act.put, List.setIfInBounds_toArray, List.set_cons_zero, List.set_cons_succ]
      refine wpAnyH_take (i := 11) (v := ?_) rfl (by kernel_rfl) (by kernel_rfl) (by kernel_rfl) (fun _ _ _ h => h) (Or.inl ⟨by rfl, ?_⟩) (by assumption) ?_
      rotate_left
      · (intro w hSw; (try dsimp only at hSw); go_simp; try with_reducible rfl)
      try simp only [List.getElem_toArray, List.getElem_cons_zero, List.getElem_cons_succ, Act.put, List.setIfInBounds_toArray, List.set_cons_zero, List.set_cons_succ]
      refine wpAnyH_ready (rs := [12]) (by kernel_rfl) (by simp) ?_
      refine AllReadyH.cons rfl (fun K hK => ?_) AllReadyH.nil
      go_simp
      refine hK.out _ _ ?_ (fun hHeld => ?_)
      · ((try dsimp only); first | go_keep | skip)
      clear hK K
      try simp only [List.getElem_toArray, List.getElem_cons_zero, List.getElem_cons_succ, Act.put, List.setIfInBounds_toArray, List.set_cons_zero, List.set_cons_succ]
      refine wpAnyH_done (by kernel_rfl) ?_ _
      have hB5 : Below N w ((W.setCell ⟨N + 2, 0, none⟩ (Value.string (bt x))).setCell ⟨N + 2, 1, none⟩ (Value.string v)).drew := ((hB1.setCell (p := ⟨N + 2, 0, none⟩) (by simp) _).setCell (p := ⟨N + 2, 1, none⟩) (by simp) _).drew
      have hB6 : Below N W ((W.setCell ⟨N + 2, 0, none⟩ (Value.string (bt x))).setCell ⟨N + 2, 1, none⟩ (Value.string v)).drew := (((Below.refl N W).setCell (p := ⟨N + 2, 0, none⟩) (by simp) _).setCell (p := ⟨N + 2, 1, none⟩) (by simp) _).drew
      have hKO : KeepsOthers W ((W.setCell ⟨N + 2, 0, none⟩ (Value.string (bt x))).setCell ⟨N + 2, 1, none⟩ (Value.string v)).drew := ((KeepsOthers.setCell _ _ _).trans (KeepsOthers.setCell _ _ _)).trans (KeepsOthers.drew _)
      have gs : W.grownBy ((W.setCell ⟨N + 2, 0, none⟩ (Value.string (bt x))).setCell ⟨N + 2, 1, none⟩ (Value.string v)).drew (some (N + 2)) := ((grown_setCell W ⟨N + 2, 0, none⟩ (Value.string (bt x))).trans (grown_setCell _ ⟨N + 2, 1, none⟩ (Value.string v))).andThen (grown_drew _) (by simp)
      have q0 : Boxed ((W.setCell ⟨N + 2, 0, none⟩ (Value.string (bt x))).setCell ⟨N + 2, 1, none⟩ (Value.string v)).drew N 9 (.string (bt k)) := b0.kept gs (by simp)
      have q1 : Boxes ((W.setCell ⟨N + 2, 0, none⟩ (Value.string (bt x))).setCell ⟨N + 2, 1, none⟩ (Value.string v)).drew (N + 1) 46 #[.string (bt []), .string (bt [])] := b1.kept gs (by simp)
      have q2 : Boxes ((W.setCell ⟨N + 2, 0, none⟩ (Value.string (bt x))).setCell ⟨N + 2, 1, none⟩ (Value.string v)).drew (N + 2) 46 #[.string (bt x), .string v] := heap_set (heap_set (show W.heap[N + 2]? = _ from b2) 0 _) 1 _
      have q3 : Boxed ((W.setCell ⟨N + 2, 0, none⟩ (Value.string (bt x))).setCell ⟨N + 2, 1, none⟩ (Value.string v)).drew (N + 3) 4 (.bool (lgo L (pks pre)).isSome) := b3.kept gs (by simp)
      generalize ((W.setCell ⟨N + 2, 0, none⟩ (Value.string (bt x))).setCell ⟨N + 2, 1, none⟩ (Value.string v)).drew = W5 at *
      have r3 := q3.cell
      have g3 := q3.frozen
      clear gs hHeld d0 d3 f3 e0 e1 ef c1 c2
      gi_wp2
      refine ⟨(hKO.trans (KeepsOthers.setCell _ _ _)).from _, hB6.setCell (p := ⟨N + 3, 0, none⟩) (by simp) _, ⟨q0.other (by omega) _, q1.kept (grown_setCell _ ⟨N + 3, 0, none⟩ _) (by simp), ?_, ?_⟩, hB5.setCell (p := ⟨N + 3, 0, none⟩) (by simp) _⟩
      · rw [hlg.out]
        exact q2.kept (grown_setCell _ ⟨N + 3, 0, none⟩ _) (by simp)
      · rw [hlg.out]
        exact q3.set _
  case done =>
    rintro D ys W hD hys ⟨⟨b0, b1, b2, b3⟩, hB1⟩ hK
    rw [hys, ho.out] at b2 b3
    rw [ec_eq] at b2
    have c1 := b1.c (i := 0) rfl
    have c1' := b1.c (i := 1) rfl
    have f1 := b1.f
    have c2 := b2.c (i := 0) rfl
    have c2' := b2.c (i := 1) rfl
    have f2 := b2.f
    have c3 := b3.cell
    go_wp2_with fail
    go_region
    go_wp2
    have gs : W.grownBy ((W.setCell ⟨N + 1, 0, none⟩ (Value.string (bt (ek o)))).setCell ⟨N + 1, 1, none⟩ (Value.string (ev o))).drew (some (N + 1)) := ((grown_setCell W ⟨N + 1, 0, none⟩ (Value.string (bt (ek o)))).trans (grown_setCell _ ⟨N + 1, 1, none⟩ (Value.string (ev o)))).andThen (grown_drew _) (by simp)
    have q1 : Boxes ((W.setCell ⟨N + 1, 0, none⟩ (Value.string (bt (ek o)))).setCell ⟨N + 1, 1, none⟩ (Value.string (ev o))).drew (N + 1) 46 #[.string (bt (ek o)), .string (ev o)] := heap_set (heap_set (show W.heap[N + 1]? = _ from b1) 0 _) 1 _
    have hB5 : Below N w ((W.setCell ⟨N + 1, 0, none⟩ (Value.string (bt (ek o)))).setCell ⟨N + 1, 1, none⟩ (Value.string (ev o))).drew := ((hB1.setCell (p := ⟨N + 1, 0, none⟩) (by simp) _).setCell (p := ⟨N + 1, 1, none⟩) (by simp) _).drew
    have hKs : ((W.setCell ⟨N + 1, 0, none⟩ (Value.string (bt (ek o)))).setCell ⟨N + 1, 1, none⟩ (Value.string (ev o))).drew.heap[D]? = some (.deferred (some [])) := by
      have hDl := (Array.getElem?_eq_some_iff.1 hK).1
      rw [gs.block D hDl (by simp; omega)]
      exact hK
    generalize ((W.setCell ⟨N + 1, 0, none⟩ (Value.string (bt (ek o)))).setCell ⟨N + 1, 1, none⟩ (Value.string (ev o))).drew = W5 at *
    rw [← HQ0.out]
    refine ⟨by simp, .inl ⟨_, _, rfl, run_takeDeferred hKs, ?_⟩⟩
    have x1 := cell_kept (q1.c (i := 0) rfl) (grownBy_putObj' _ D (.deferred none)) (fun r e => by cases e; exact ⟨_, hKs, rfl⟩)
    have x2 := cell_kept (q1.c (i := 1) rfl) (grownBy_putObj' _ D (.deferred none)) (fun r e => by cases e; exact ⟨_, hKs, rfl⟩)
    refine ⟨.tuple #[.agg #[.string (bt (ek o)), .string (ev o)], .bool o.isSome], ?_, ⟨rfl, ?_⟩⟩
    · simp [results, go_sem, x1, x2]
    · rw [hN]
      exact hB5.trans (belowK_b (w := W0) (by omega) W5 D _ _ hD hKs rfl rfl)
  case stop =>
    rintro D c pre W hD _ hF hK
    exact hF.elim
/-- Trie.Longest. -/
theorem longest_any (w : World) {S : Nat → Prop} {tb : Nat} {L : List E} (h : Tri S w tb L) (k : K) (hk : k.length ≤ 100000) :
    Calls Try.prog 25 #[ptr tb, .string (bt k)] w fun r w' => ∃ o, IsLong L k o ∧ r = .returned (.tuple #[.agg #[.string (bt (ek o)), .string (ev o)], .bool o.isSome]) ∧ w.grownBy w' none := by
  obtain ⟨P, nb, mb, lab, h1, h2, h3⟩ := h.ex
  have hl := lgo_is h.srt h1.tm.key k
  refine (callsIn_wide.1 (longest_in w h1 k hk ⟨rfl⟩)).mono ?_
  rintro r w' ⟨rfl, hB⟩
  exact ⟨_, hl, rfl, below_grown hB⟩
end Go.Proofs.Ytpcdmjalfabbmaa
