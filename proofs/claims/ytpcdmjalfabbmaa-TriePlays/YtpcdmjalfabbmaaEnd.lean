/- Where a key ends: Trie.end. -/
import Derived.Test.YtpcdmjalfabbmaaAlo
namespace Go.Proofs.Ytpcdmjalfabbmaa
open Go.RowKit Go.Shelf Go.IntWalk Go.Maps
set_option linter.unusedVariables false
attribute [local go_sem] Oper.semAt_some
def vl (nb : K → Nat) (pre : List K) : Value := match pre.getLast? with | none => .pointer none | some p => ptr (nb p)
def va (nb : K → Nat) (pre : List K) : Value := vl nb pre.dropLast
def vb (k : K) (pre : List K) : Value := match pre.getLast? with | none => .string (bt []) | some p => .string (bt (k.drop p.length))
theorem vl_snoc (nb : K → Nat) (pre : List K) (x : K) : vl nb (pre ++ [x]) = ptr (nb x) := by simp [vl]
theorem va_snoc (nb : K → Nat) (pre : List K) (x : K) : va nb (pre ++ [x]) = vl nb pre := by simp [va]
theorem vb_snoc (k : K) (pre : List K) (x : K) : vb k (pre ++ [x]) = .string (bt (k.drop x.length)) := by simp [vb]
theorem vl_ptr (nb : K → Nat) (pre : List K) : ∃ a, vl nb pre = .pointer a := by
  unfold vl
  split <;> exact ⟨_, rfl⟩
theorem va_ptr (nb : K → Nat) (pre : List K) : ∃ a, va nb pre = .pointer a := vl_ptr _ _
theorem vb_str (k : K) (pre : List K) : ∃ a, vb k pre = .string a := by
  unfold vb
  split <;> exact ⟨_, rfl⟩
theorem top_ex {P : List K} (h0 : [] ∈ P) (k : K) : ∃ p, Top P k p := by
  have key : ∀ n, n ≤ k.length → ∃ p, p ∈ P ∧ p <+: k ∧ ∀ q ∈ P, q <+: k → q.length ≤ n → q <+: p := by
    intro n
    induction n with
    | zero =>
      intro _
      exact ⟨[], h0, List.nil_prefix, fun q _ _ hq => by
        have : q = [] := List.eq_nil_of_length_eq_zero (by omega)
        rw [this]; exact List.prefix_rfl⟩
    | succ n ih =>
      intro hn
      by_cases h : k.take (n + 1) ∈ P
      · refine ⟨_, h, List.take_prefix _ _, fun q _ hq hl => ?_⟩
        rw [List.prefix_iff_eq_take.1 hq]
        exact List.take_prefix_take_left hl
      · obtain ⟨p, h1, h2, h3⟩ := ih (by omega)
        refine ⟨p, h1, h2, fun q hq hqk hl => ?_⟩
        by_cases e : q.length = n + 1
        · have := List.prefix_iff_eq_take.1 hqk
          rw [e] at this
          exact absurd (this ▸ hq) h
        · exact h3 q hq hqk (by omega)
  obtain ⟨p, h1, h2, h3⟩ := key k.length (Nat.le_refl _)
  exact ⟨p, h1, h2, fun q hq hqk => h3 q hq hqk hqk.length_le⟩
/-- Where a key ends, and what lies above it. -/
def Endat (P : List K) (nb : K → Nat) (k p : K) (ab : Value) : Prop := Top P k p ∧ ((p = [] ∧ ab = .pointer none) ∨ ∃ u, Kid P u p ∧ ab = ptr (nb u))
theorem endat {w : World} {P : List K} {nb mb : K → Nat} {lab : K → K} {e : K → Option ByteArray} (h : Tm w P nb mb lab e) (k : K) : ∃ p, Endat P nb k p (va nb (al P k (k.length + 1))) ∧ vl nb (al P k (k.length + 1)) = ptr (nb p) ∧ vb k (al P k (k.length + 1)) = .string (bt (k.drop p.length)) := by
  obtain ⟨p, hp⟩ := top_ex h.root k
  rw [al_top hp]
  refine ⟨p, ⟨hp, ?_⟩, vl_snoc _ _ _, vb_snoc _ _ _⟩
  rw [va_snoc]
  by_cases e0 : p = []
  · subst e0
    exact .inl ⟨rfl, rfl⟩
  · obtain ⟨u, hu⟩ := kid_up h.root _ (Nat.le_refl _) h.root hp.1 List.nil_prefix (Ne.symm e0)
    refine .inr ⟨u, hu, ?_⟩
    rw [al_kid hu hp.2.1, vl_snoc]
set_option maxRecDepth 100000 in
set_option maxHeartbeats 2000000 in
theorem end_in (w : World) {tb : Nat} {P : List K} {nb mb : K → Nat} {lab : K → K} {e : K → Option ByteArray} {m : Nat} (h : Tw w tb P nb mb lab e m) (k : K) (hk : k.length ≤ 9223372036854775807) :
    CallsIn Fence.wide 9 Try.prog 30 #[ptr tb, .string (bt k)] w fun r w' => r = .returned (.tuple #[vl nb (al P k (k.length + 1)), va nb (al P k (k.length + 1)), vb k (al P k (k.length + 1))]) ∧ Below w.heap.size w w' := by
  refine callsIn_of_wp_marks Try.func30 rfl trivial ?_ rfl
  simp only [Try.ntmps30, List.size_toArray, List.length_cons, List.length_nil, Nat.reduceAdd, Nat.reduceSub, Array.replicate_succ, Array.replicate_zero, List.push_toArray, List.append_toArray, List.nil_append, List.cons_append]
  refine wpIn_wide.2 ?_
  generalize hQ0 : bodyPostM Fence.wide 9 Try.prog Try.f30 _ = Q0
  have HQ0 : Hid (_ = Q0) := ⟨hQ0⟩
  clear hQ0
  go_wp2_with fail
  refine (callsIn_wide.1 (along_in 8 _ _ _)).mono ?_
  rintro e' w' ⟨rfl, rfl⟩
  obtain ⟨N, hN⟩ : ∃ N, w.heap.size = N := ⟨_, rfl⟩
  have b4 := (((Boxed.new w 56 (.pointer none)).alloc (.cells #[.pointer none] 56)).alloc (.cells #[.string ⟨#[]⟩] 9)).alloc (.cells #[ptr tb] 25) |>.alloc (.cells #[.string (bt k)] 9)
  have b5 := (((Boxed.new (w.alloc (.cells #[.pointer none] 56)) 56 (.pointer none)).alloc (.cells #[.string ⟨#[]⟩] 9)).alloc (.cells #[ptr tb] 25)).alloc (.cells #[.string (bt k)] 9)
  have b6 := ((Boxed.new ((w.alloc (.cells #[.pointer none] 56)).alloc (.cells #[.pointer none] 56)) 9 (.string ⟨#[]⟩)).alloc (.cells #[ptr tb] 25)).alloc (.cells #[.string (bt k)] 9)
  have b7 := (Boxed.new (((w.alloc (.cells #[.pointer none] 56)).alloc (.cells #[.pointer none] 56)).alloc (.cells #[.string ⟨#[]⟩] 9)) 25 (ptr tb)).alloc (.cells #[.string (bt k)] 9)
  have b8 := Boxed.new ((((w.alloc (.cells #[.pointer none] 56)).alloc (.cells #[.pointer none] 56)).alloc (.cells #[.string ⟨#[]⟩] 9)).alloc (.cells #[ptr tb] 25)) 9 (.string (bt k))
  have g0 : w.grownBy (((((w.alloc (.cells #[.pointer none] 56)).alloc (.cells #[.pointer none] 56)).alloc (.cells #[.string ⟨#[]⟩] 9)).alloc (.cells #[ptr tb] 25)).alloc (.cells #[.string (bt k)] 9)) none :=
    grown_none (grown_none (grown_none (grown_none (World.grownBy_alloc _ _ none) (World.grownBy_alloc _ _ none)) (World.grownBy_alloc _ _ none)) (World.grownBy_alloc _ _ none)) (World.grownBy_alloc _ _ none)
  have hsz : (((((w.alloc (.cells #[.pointer none] 56)).alloc (.cells #[.pointer none] 56)).alloc (.cells #[.string ⟨#[]⟩] 9)).alloc (.cells #[ptr tb] 25)).alloc (.cells #[.string (bt k)] 9)).heap.size = N + 5 := by simp [hN]
  simp only [World.size_alloc, hN] at b4 b5 b6 b7 b8
  go_wp2_with fail
  obtain ⟨W0, hW0⟩ : ∃ W0, (((((w.alloc (.cells #[.pointer none] 56)).alloc (.cells #[.pointer none] 56)).alloc (.cells #[.string ⟨#[]⟩] 9)).alloc (.cells #[ptr tb] 25)).alloc (.cells #[.string (bt k)] 9)) = W0 := ⟨_, rfl⟩
  rw [hW0] at b4 b5 b6 b7 b8 g0 hsz ⊢
  clear hW0
  have hB0 : Below N w W0 := ⟨g0.os, g0.tape, g0.output, g0.size, fun j hj => g0.block j (by omega) (by simp)⟩
  have hT0 := h.keep g0
  have hfl : ∀ j, Ft tb P nb mb j → j < N := fun j hj => by
    rw [← hN]
    rcases hj with rfl | hj
    · exact h.lt
    · exact h.tm.flt hj
  refine (wpIn_wide (n := 9)).1 ?_
  refine wpIn_rangeFunc_ownH rfl (by omega) (gf := 45) (lb := #[ptr (N + 3), ptr (N + 4)]) rfl trivial (enters_of Try.func45 (by kernel_rfl) rfl)
    (along_stops (9 - 1) (by omega) (N + 3) (N + 4) N tb k hk W0 (by omega) (by omega) (by omega) b7.cell b8.cell hT0 hfl) belowK_t (belowK_b (by omega)) (Below.refl _ _) (fun _ => rfl)
    (fun (pre : List K) W => (Boxed W N 56 (vl nb pre) ∧ Boxed W (N + 1) 56 (va nb pre) ∧ Boxed W (N + 2) 9 (vb k pre)) ∧ Below N w W)
    (fun _ (pre : List K) W => False)
    (OwnFrom.and (OwnFrom.and (Own.from (boxed_own _ _ _) _) (OwnFrom.and (Own.from (boxed_own _ _ _) _) (Own.from (boxed_own _ _ _) _))) (ownFrom_below (by omega) (by omega)))
    (fun c => ownFrom_pure _ _)
    ⟨⟨b4, b5, b6⟩, hB0⟩
    (fun (x : K) a' W => a' = { tmps := #[ptr tb, .string (bt k), undef, undef, ptr N, ptr (N + 1), ptr (N + 2), ptr (nb x), .string (bt (k.drop x.length)), ptr tb, .string (bt k), .func (.func 45) #[] #[ptr (N + 3), ptr (N + 4)], ptr (nb x), .string (bt (k.drop x.length)), undef, undef, undef, undef, undef, undef], defers := [] })
    (fun x a' _ X Y row hs hg hr => hs)
    ?assign ?body ?done ?stop
  case assign =>
    rintro l pre x W K ⟨⟨b1, b2, b3⟩, hB1⟩ hK
    gi_wp2
    exact hK _ _ ((KeepsOthers.refl _).from _) (Below.refl _ _) ⟨⟨b1, b2, b3⟩, hB1⟩ rfl
  case body =>
    rintro l pre x a' W hlw _ ⟨⟨b1, b2, b3⟩, hB1⟩ rfl hlt
    obtain ⟨a1, e1⟩ := vl_ptr nb pre
    obtain ⟨a2, e2⟩ := va_ptr nb pre
    obtain ⟨a3, e3⟩ := vb_str k pre
    rw [e1] at b1
    rw [e2] at b2
    rw [e3] at b3
    replace e1 : Hid _ := ⟨e1⟩
    replace e2 : Hid _ := ⟨e2⟩
    replace e3 : Hid _ := ⟨e3⟩
    have c1 := b1.cell
    have f1 := b1.frozen
    have c2 := b2.cell
    have f2 := b2.frozen
    have c3 := b3.cell
    have f3 := b3.frozen
    gi_wp2
    refine ⟨((KeepsOthers.setCell _ _ _).trans ((KeepsOthers.setCell _ _ _).trans (KeepsOthers.setCell _ _ _))).from _, (((Below.refl _ _).setCell (p := ⟨N, 0, none⟩) (Nat.le_refl _) _).setCell (p := ⟨N + 1, 0, none⟩) (by simp) _).setCell (p := ⟨N + 2, 0, none⟩) (by simp) _, ⟨?_, ?_, ?_⟩, ((hB1.setCell (p := ⟨N, 0, none⟩) (Nat.le_refl _) _).setCell (p := ⟨N + 1, 0, none⟩) (by simp) _).setCell (p := ⟨N + 2, 0, none⟩) (by simp) _⟩
    · rw [vl_snoc]
      exact ((b1.set _).other (by omega) _).other (by omega) _
    · rw [va_snoc, e1.out]
      exact ((b2.other (by omega) _).set _).other (by omega) _
    · rw [vb_snoc]
      exact ((b3.other (by omega) _).other (by omega) _).set _
  case done =>
    rintro D ys W hD rfl ⟨⟨b1, b2, b3⟩, hB1⟩ hK
    obtain ⟨a1, e1⟩ := vl_ptr nb (al P k (k.length + 1))
    obtain ⟨a2, e2⟩ := va_ptr nb (al P k (k.length + 1))
    obtain ⟨a3, e3⟩ := vb_str k (al P k (k.length + 1))
    rw [e1] at b1
    rw [e2] at b2
    rw [e3] at b3
    replace e1 : Hid _ := ⟨e1⟩
    replace e2 : Hid _ := ⟨e2⟩
    replace e3 : Hid _ := ⟨e3⟩
    have c1 := b1.cell
    have f1 := b1.frozen
    have c2 := b2.cell
    have f2 := b2.frozen
    have c3 := b3.cell
    have f3 := b3.frozen
    go_wp2_with fail
    go_region
    go_wp2
    have d1 : Boxed (((W.setCell ⟨N, 0, none⟩ (Value.pointer a1)).setCell ⟨N + 1, 0, none⟩ (Value.pointer a2)).setCell ⟨N + 1 + 1, 0, none⟩ (Value.string a3)).drew N 56 (.pointer a1) := ((b1.set _).other (by omega) _).other (by omega) _
    have d2 : Boxed (((W.setCell ⟨N, 0, none⟩ (Value.pointer a1)).setCell ⟨N + 1, 0, none⟩ (Value.pointer a2)).setCell ⟨N + 1 + 1, 0, none⟩ (Value.string a3)).drew (N + 1) 56 (.pointer a2) := ((b2.other (by omega) _).set _).other (by omega) _
    have d3 : Boxed (((W.setCell ⟨N, 0, none⟩ (Value.pointer a1)).setCell ⟨N + 1, 0, none⟩ (Value.pointer a2)).setCell ⟨N + 1 + 1, 0, none⟩ (Value.string a3)).drew (N + 1 + 1) 9 (.string a3) := ((b3.other (by omega) _).other (by omega) _).set _
    have hKs : (((W.setCell ⟨N, 0, none⟩ (Value.pointer a1)).setCell ⟨N + 1, 0, none⟩ (Value.pointer a2)).setCell ⟨N + 1 + 1, 0, none⟩ (Value.string a3)).drew.heap[D]? = some (.deferred (some [])) := by
      have hDl := (Array.getElem?_eq_some_iff.1 hK).1
      show (((W.setCell ⟨N, 0, none⟩ (Value.pointer a1)).setCell ⟨N + 1, 0, none⟩ (Value.pointer a2)).setCell ⟨N + 1 + 1, 0, none⟩ (Value.string a3)).heap[D]? = _
      rw [(grown_setCell _ ⟨N + 1 + 1, 0, none⟩ _).block D (by simpa using hDl) (by simp; omega), (grown_setCell _ ⟨N + 1, 0, none⟩ _).block D (by simpa using hDl) (by simp; omega), (grown_setCell _ ⟨N, 0, none⟩ _).block D hDl (by simp; omega)]
      exact hK
    have hB5 : Below N w (((W.setCell ⟨N, 0, none⟩ (Value.pointer a1)).setCell ⟨N + 1, 0, none⟩ (Value.pointer a2)).setCell ⟨N + 1 + 1, 0, none⟩ (Value.string a3)).drew := ((hB1.setCell (p := ⟨N, 0, none⟩) (Nat.le_refl _) _).setCell (p := ⟨N + 1, 0, none⟩) (by simp) _).setCell (p := ⟨N + 1 + 1, 0, none⟩) (by simp; omega) _ |>.drew
    generalize (((W.setCell ⟨N, 0, none⟩ (Value.pointer a1)).setCell ⟨N + 1, 0, none⟩ (Value.pointer a2)).setCell ⟨N + 1 + 1, 0, none⟩ (Value.string a3)).drew = W5 at *
    rw [← HQ0.out]
    refine ⟨by simp, .inl ⟨_, _, rfl, run_takeDeferred hKs, ?_⟩⟩
    have x1 := cell_kept d1.cell (grownBy_putObj' _ D (.deferred none)) (fun r e => by cases e; exact ⟨_, hKs, rfl⟩)
    have x2 := cell_kept d2.cell (grownBy_putObj' _ D (.deferred none)) (fun r e => by cases e; exact ⟨_, hKs, rfl⟩)
    have x3 := cell_kept d3.cell (grownBy_putObj' _ D (.deferred none)) (fun r e => by cases e; exact ⟨_, hKs, rfl⟩)
    refine ⟨.tuple #[.pointer a1, .pointer a2, .string a3], ?_, ⟨by rw [e1.out, e2.out, e3.out], ?_⟩⟩
    · simp [results, go_sem, x1, x2, x3]
    · rw [hN]
      exact hB5.trans (belowK_b (w := W0) (by omega) W5 D _ _ hD hKs rfl rfl)
  case stop =>
    rintro D c pre W hD _ hF hK
    exact hF.elim
/-- Trie.end. -/
theorem end_any (w : World) {tb : Nat} {P : List K} {nb mb : K → Nat} {lab : K → K} {e : K → Option ByteArray} {m : Nat} (h : Tw w tb P nb mb lab e m) (k : K) (hk : k.length ≤ 9223372036854775807) :
    Calls Try.prog 30 #[ptr tb, .string (bt k)] w fun r w' => ∃ p ab, Endat P nb k p ab ∧ r = .returned (.tuple #[ptr (nb p), ab, .string (bt (k.drop p.length))]) ∧ w.grownBy w' none := by
  obtain ⟨p, h1, h2, h3⟩ := endat h.tm k
  refine (callsIn_wide.1 (end_in w h k hk)).mono ?_
  rintro r w' ⟨rfl, hB⟩
  rw [h2, h3]
  exact ⟨p, _, h1, rfl, below_grown hB⟩
end Go.Proofs.Ytpcdmjalfabbmaa
