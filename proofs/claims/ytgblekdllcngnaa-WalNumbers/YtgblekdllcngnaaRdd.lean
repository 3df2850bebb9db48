/- What the log's Read answers. -/
import Derived.Test.YtgblekdllcngnaaLge
namespace Go.Proofs.Ytgblekdllcngnaa
open Go.RowKit Go.Shelf Plain Go.IntWalk
set_option linter.unusedVariables false
set_option linter.unusedSimpArgs false
attribute [local go_sem] Oper.semAt_some

theorem frs_mem (b : List Int) : ∀ f ∈ frs b, ∀ z ∈ f, z ∈ b := by
  induction b using frs.induct with
  | case1 b h => rw [frs_none h]; intro f hf; cases hf
  | case2 b h ih =>
    rw [frs_some h]
    intro f hf z hz
    rcases List.mem_cons.1 hf with rfl | hf
    · exact List.mem_of_mem_take hz
    · exact List.mem_of_mem_drop (ih f hf z hz)
theorem base_mono {W : World} {b b' : Nat} {e : TypeId} {n k : Nat} {v : Value} {xs : List Value} (h : W.ownsRow b e n v k xs) (hb : b' ≤ b) : W.ownsRow b' e n v k xs := by
  obtain ⟨h1, h2 | ⟨g, cap, cur, e1, e2, r⟩⟩ := h
  · exact ⟨h1, .inl h2⟩
  · exact ⟨h1, .inr ⟨g, cap, cur, e1, by omega, r⟩⟩
theorem two_stores32 {W : World} {base s k : Nat} {v : Value} {xs : List Value} (hrow : W.ownsRow base 5 1 v k xs) {u1 u2 : Value} (bR : Boxed W s 32 u1) (bE : Boxed W (s + 1) 28 u2) (v1 v2 : Value) :
    ((W.setCell ⟨s, 0, none⟩ v1).setCell ⟨s + 1, 0, none⟩ v2).ownsRow base 5 1 v k xs := by
  have h1 := hrow.kept (grownBy_setCell' W s v1) (.inr (bR.not_row (by decide) hrow).symm)
  have b1 := bE.other (B' := s) (by omega) v1
  exact h1.kept (grownBy_setCell' _ (s + 1) v2) (.inr (b1.not_row (by decide) h1).symm)
/-- What is answered of the last frame that came. -/
def outR {n₀ : Nat} {W : World} (pre : List (FrOk n₀ W)) : List Int := if rgt ((fby pre).getLastD []) = true then ((fby pre).getLastD []).drop 6 else []
theorem last_snoc {n₀ : Nat} {W : World} (pre : List (FrOk n₀ W)) (x : FrOk n₀ W) : (fby (pre ++ [x])).getLastD [] = x.1.2 := by rw [fby_snoc]; simp [List.getLastD_eq_getLast?]
/-- A post that no panic meets. -/
def noP (Q : Exit → Act → World → Prop) : Exit → Act → World → Prop
  | .panic _, _, _ => False
  | e, a, w => Q e a w
theorem noP_imp {Q : Exit → Act → World → Prop} : ∀ e a w, noP Q e a w → Q e a w := by
  intro e a w h
  cases e <;> first | exact h | exact h.elim
theorem boxed_low {A B : World} {C n : Nat} {t : TypeId} {v : Value} (h : Boxed A C t v) (hB : Below n A B) (hn : C < n) : Boxed B C t v := (hB.block C hn).trans h
section
variable {M : Nat → Prop} {lb sb bm : Nat} {sv : Value} {l : List Sg} {root : List Int} {seg : Int} {st : List Int} {size next forced : Int}
set_option maxRecDepth 100000 in
set_option maxHeartbeats 8000000 in
theorem lread_t (w : World) (h : Lgd M w lb sb bm sv l root seg st size next forced) (hs : Hid (st.Pairwise (· < ·))) (hl : st.length ≤ 100000) (h0 : 0 ≤ seg) (h1 : seg ≤ 1000000000000000) (x : Int) (hx0 : decide (x < fst st next) = false) (hx1 : decide (x ≥ next) = false)
    (I : Nat) (hI : Hid (hld st x = I)) (z : Int) (hz : Hid (st[I]? = some z)) (y : Sg) (hy : getS (seg + I) l = some y) (A : Nat) (hA : Hid (x - z = A)) (hA1 : A ≤ 100000) (hz0 : 0 ≤ z) (hz1 : z ≤ 1000000000000000) (hxx : x ≤ 1000000000000000)
    (f : List Int) (hf : Hid ((frs y.b)[A]? = some f)) (hr : Hid (rgt f = true)) :
    CallsIn Fence.wide 9 Try.prog 19 #[.pointer (some ⟨lb, 0, none⟩), .int .i64 x] w fun e W' => ∃ v', e = .returned (.tuple #[v', .int .i64 0]) ∧ Btx (fun i => w.heap.size ≤ i) W' v' (f.drop 6) ∧ Below w.heap.size w W' := by
  refine callsIn_of_wp_marks Try.func19 rfl trivial ?_ rfl
  simp only [Try.ntmps19, List.size_toArray, List.length_cons, List.length_nil, Nat.reduceAdd, Nat.reduceSub, Array.replicate_succ, Array.replicate_zero, List.push_toArray, List.append_toArray, List.nil_append, List.cons_append]
  refine wpIn_wide.2 ?_
  generalize hQ0 : bodyPostM Fence.wide 9 Try.prog Try.f19 _ = Q0
  have HQ0 : Hid (_ = Q0) := hQ0
  clear hQ0
  have hga := World.grownBy_alloc w (.cells #[.slice none 0 0] 32) none
  have hgb := World.grownBy_alloc (w.alloc (.cells #[.slice none 0 0] 32)) (.cells #[.int .i64 0] 28) none
  have h2 := (h.keep hga).keep hgb
  have hg02 := grown_none hga hgb
  have c4 := h2.c4
  go_wp2_with fail
  refine (lfirst_any _ h2).mono ?_
  rintro e w1 ⟨rfl, rfl⟩
  go_wp2_with fail
  refine (holder_any _ h2 hs.out hl x).mono ?_
  rintro e w3 ⟨i, rfl, hi, hg3⟩
  obtain rfl : i = I := by rw [hi.out, hI.out]
  have h3 := h2.keep hg3
  have c03 := h3.c0
  have c13 := h3.c1
  have hIl : I ≤ 100000 := by
    rcases Nat.lt_or_ge I st.length with hlt | hge
    · omega
    · have := hz.out; rw [List.getElem?_eq_none hge] at this; cases this
  have hk3 := h3.keep (grown_drew w3)
  have hwr : IntKind.i64.wrap (seg + (I : Int)) = seg + (I : Int) := by rw [IntKind.wrap_i64]; omega
  go_wp2_with fail
  go_region_held3 (fun w' => w'.cell? ⟨lb, 0, none⟩ = some (.pointer (some ⟨sb, 0, none⟩)) ∧ w'.cell? ⟨lb, 1, none⟩ = some (.int .i64 seg))
    (first
      | go_keep
      | exact ⟨(hk3.keep hg4).c0, (hk3.keep hg4).c1⟩)
    ((go_at_call 27
      refine (read_some _ hk3.dsk hy).mono ?_
      rintro e w4 ⟨v4, rfl, hb4, hg4⟩
      obtain ⟨a4, cap4, rfl⟩ := hb4.1.shape))
  have h4 := hk3.keep hg4
  have c24 := h4.c2
  have hIlt : I < st.length := by
    rcases Nat.lt_or_ge I st.length with hlt | hge
    · exact hlt
    · have := hz.out; rw [List.getElem?_eq_none hge] at this; cases this
  obtain ⟨g, scap, rfl, hcz⟩ : ∃ g scap, sv = .slice (some ⟨g, 0, none⟩) st.length scap ∧ w4.cell? ⟨g, I, none⟩ = some (.int .i64 z) := by
    rcases h4.row.2 with ⟨_, h0⟩ | ⟨g, cap, cur, e, hb, hg, hn, hm, hs, ht⟩
    · omega
    · refine ⟨g, cap, e, ?_⟩
      have hadd : (⟨g, 0, none⟩ : Addr).add I = ⟨g, I, none⟩ := by unfold Addr.add; split <;> simp_all
      rw [← hadd]
      refine h4.row.cells (g := g) (by rw [e]; rfl) I _ ?_
      rw [List.getElem?_map, hz.out]; rfl
  have hIi : (I : Int) < (st.length : Int) := by omega
  have hsub : x - z = (A : Int) := hA.out
  have hgw4 : w.grownBy w4 none := grown_none (grown_none (grown_none hg02 hg3) (grown_drew w3)) hg4
  have hbR : Boxed w4 w.heap.size 32 (.slice none 0 0) := by
    have b0 := (Boxed.new w 32 (.slice none 0 0)).alloc (.cells #[.int .i64 0] 28)
    exact b0.kept (grown_none (grown_none hg3 (grown_drew w3)) hg4) (by simp)
  have hbE : Boxed w4 (w.heap.size + 1) 28 (.int .i64 0) := by
    have b0 := Boxed.new (w.alloc (.cells #[.slice none 0 0] 32)) 28 (.int .i64 0)
    rw [World.size_alloc] at b0
    exact b0.kept (grown_none (grown_none hg3 (grown_drew w3)) hg4) (by simp)
  have hsz4 := hgw4.size
  have hbl := hbE.lt
  have hylen : y.b.length ≤ 1024 := (h.dsk.seg y (getS_mem hy).1).2.2.1
  have hbz := hb4
  clear hx0 hx1 hk3 h3 h2 hg02 hga hgb hg3 hg4 c03 c13 c4 hwr hi hI hb4
  go_wp2_with fail
  refine (callsIn_wide.1 (frames_in 8 _ _ _ _)).mono ?_
  rintro e w' ⟨rfl, rfl⟩
  go_wp2_with fail
  obtain ⟨x₀, hx₀⟩ : ∃ x₀, x₀ = x := ⟨_, rfl⟩
  rw [← hx₀]
  clear hx₀
  have bA := (Boxed.new w4 3 (.int .i64 (A : Int))).alloc (.cells #[.slice a4 y.b.length cap4] 32)
  have bV := Boxed.new (w4.alloc (.cells #[.int .i64 (A : Int)] 3)) 32 (.slice a4 y.b.length cap4)
  rw [World.size_alloc] at bV
  have hB0 : Below w4.heap.size w4 ((w4.alloc (.cells #[.int .i64 (A : Int)] 3)).alloc (.cells #[.slice a4 y.b.length cap4] 32)) := ((Below.refl _ w4).alloc (Nat.le_refl _) _).alloc (by simp) _
  have hszW : ((w4.alloc (.cells #[.int .i64 (A : Int)] 3)).alloc (.cells #[.slice a4 y.b.length cap4] 32)).heap.size = w4.heap.size + 2 := by simp
  obtain ⟨W0, hW0⟩ : ∃ W0, ((w4.alloc (.cells #[.int .i64 (A : Int)] 3)).alloc (.cells #[.slice a4 y.b.length cap4] 32)) = W0 := ⟨_, rfl⟩
  rw [hW0] at bA bV hB0 hszW ⊢
  clear hW0 c24 hcz hsub
  have hBw4 : Below w.heap.size w w4 := (Below.refl _ w).grown hgw4 (Nat.le_refl _) (fun _ e => by cases e)
  refine (wpIn_wide (n := 9)).1 ?_
  refine wpIn_rangeFunc_ownH rfl (by omega) (gf := 57) (lb := #[.pointer (some ⟨w4.heap.size + 1, 0, none⟩)]) rfl trivial (enters_of Try.func57 (by kernel_rfl) rfl)
    (frames_stops (9 - 1) (by omega) (w4.heap.size + 1) w4.heap.size w4 _ y.b W0 (by omega) (by omega) hB0 bV.cell (hbz.1.below hB0)) belowK_t (belowK_b (by omega)) (Below.refl _ _) (fun _ => rfl)
    (fun (pre : List (FrOk w4.heap.size w4)) W => (pre.length ≤ A ∧ Boxed W w4.heap.size 3 (.int .i64 ((A : Int) - pre.length))) ∧ Below w4.heap.size w4 W)
    (fun c (pre : List (FrOk w4.heap.size w4)) W => ((pre.length = A + 1 ∧ (c = .ret ∨ (c = .exit 0 ∧ rgt ((fby pre).getLastD []) = false))) ∧ (∃ v, Boxed W w.heap.size 32 v ∧ W.ownsRow w.heap.size 5 1 v (outR pre).length ((outR pre).map (Value.int .u8)) ∧ True)) ∧ Boxed W (w.heap.size + 1) 28 (.int .i64 0) ∧ Below w.heap.size w W)
    (OwnFrom.and (OwnFrom.and (ownFrom_pure _ _) (Own.from (boxed_own _ _ _) _)) (ownFrom_below (Nat.le_refl _) (by omega)))
    (fun c => OwnFrom.and (OwnFrom.and (ownFrom_pure _ _) (Own.from (holdsRow_own w.heap.size w.heap.size 32 5 1 (fun (pre : List (FrOk w4.heap.size w4)) => (outR pre).length) (fun (pre : List (FrOk w4.heap.size w4)) => (outR pre).map (Value.int .u8)) (fun (pre : List (FrOk w4.heap.size w4)) _ => True)) _)) (OwnFrom.and (Own.from (boxed_own _ _ _) _) (ownFrom_below (Nat.le_refl _) (by omega))))
    ⟨⟨Nat.zero_le _, by simpa using bA⟩, hB0⟩
    (fun (x : FrOk w4.heap.size w4) a' W => a' = { tmps := #[.pointer (some ⟨lb, 0, none⟩), .int .i64 x₀, undef, undef, .pointer (some ⟨w.heap.size, 0, none⟩), .pointer (some ⟨w.heap.size + 1, 0, none⟩), .int .i64 (I : Int), .slice a4 y.b.length cap4, .int .i64 0, .pointer (some ⟨w4.heap.size, 0, none⟩), x.1.1, .pointer (some ⟨lb, 0, none⟩), .bool false, .int .i64 x₀, .pointer (some ⟨lb, 0, none⟩), .int .i64 (fst st next), .bool false, .bool false, .int .i64 x₀, .pointer (some ⟨lb, 0, none⟩), .pointer (some ⟨lb, 0, none⟩), .pointer (some ⟨lb, 4, none⟩), .int .i64 next, .bool false, .bool false, .pointer (some ⟨lb, 0, none⟩), .int .i64 x₀, .int .i64 (I : Int), .tuple #[.slice a4 y.b.length cap4, .int .i64 0], .pointer (some ⟨lb, 0, none⟩), .pointer (some ⟨lb, 0, none⟩), .pointer (some ⟨lb, 0, none⟩), .pointer (some ⟨sb, 0, none⟩), .pointer (some ⟨lb, 0, none⟩), .pointer (some ⟨lb, 0, none⟩), .pointer (some ⟨lb, 1, none⟩), .int .i64 seg, .int .i64 (I : Int), .int .i64 (seg + (I : Int)), .tuple #[.slice a4 y.b.length cap4, .int .i64 0], .slice a4 y.b.length cap4, .int .i64 0, .int .i64 x₀, .pointer (some ⟨lb, 0, none⟩), .pointer (some ⟨lb, 0, none⟩), .pointer (some ⟨lb, 2, none⟩), .slice (some ⟨g, 0, none⟩) st.length scap, .int .i64 (I : Int), .pointer (some ⟨g, I, none⟩), .int .i64 z, .int .i64 (A : Int), .slice a4 y.b.length cap4, .func (.func 57) #[] #[.pointer (some ⟨w4.heap.size + 1, 0, none⟩)], x.1.1, undef, undef, undef, undef, undef, undef, undef, undef, undef, undef], defers := [] })
    (fun x a' _ X Y row hs hg hr => hs)
    ?assign ?body ?done ?stop
  case assign =>
    rintro l pre x W K ⟨⟨hpl, bA1⟩, hB1⟩ hK
    gi_wp2
    exact hK _ _ ((KeepsOthers.refl _).from _) (Below.refl _ _) ⟨⟨hpl, bA1⟩, hB1⟩ rfl
  case body =>
    rintro l pre x a' W hlw _ ⟨⟨hpl, bA1⟩, hB1⟩ rfl hlt
    obtain ⟨⟨v, f'⟩, hx⟩ := x
    obtain ⟨sa, sl, sc, hv, hl'⟩ := hx.1.form
    dsimp only at hv hl' hx
    subst hv
    have hsW := hB1.size
    have hbx := (hx.1.below hB1).mono hsW
    have hl6 : 6 ≤ f'.length := by omega
    have hxl := hx.2.2
    have HL : Hid (sl = f'.length) := hl'
    have hsl6 : (6 : Int) ≤ (sl : Int) := by omega
    have hsl : sl ≤ 1006 := by omega
    clear hl'
    have cA := bA1.cell
    have fA := bA1.frozen
    by_cases hpA : pre.length < A
    · have hd : decide ((A : Int) - (pre.length : Int) > 0) = true := by simp; omega
      gi_wp2
      refine ⟨(KeepsOthers.setCell _ _ _).from _, (Below.refl _ _).setCell (p := ⟨w4.heap.size, 0, none⟩) (Nat.le_refl _) _, ⟨by rw [List.length_append, List.length_singleton]; omega, ?_⟩, hB1.setCell (p := ⟨w4.heap.size, 0, none⟩) (Nat.le_refl _) _⟩
      rw [List.length_append, List.length_singleton, Int.natCast_add, ← Int.sub_sub]
      exact bA1.set _
    · have hd : decide ((A : Int) - (pre.length : Int) > 0) = false := by simp; omega
      have hpe : pre.length = A := by omega
      have bR1 : Boxed W w.heap.size 32 (.slice none 0 0) := boxed_low hbR hB1 (by omega)
      have bE1 : Boxed W (w.heap.size + 1) 28 (.int .i64 0) := boxed_low hbE hB1 (by omega)
      cases hr' : rgt f' with
      | false =>
        gi_wp2_with fail
        refine ⟨trivial, ?_⟩
        refine (CallsIn.inRound l (callsIn_wide.2 (right_any sa sl sc f' _ hbx hl6))).mono ?_
        rintro e W2 ⟨rfl, hB2⟩
        rw [hr']
        gi_wp2
        have ho : outR (pre ++ [(⟨(.slice sa sl sc, f'), hx⟩ : FrOk w4.heap.size w4)]) = [] := by unfold outR; rw [last_snoc]; dsimp only; rw [hr']; rfl
        refine ⟨(keeps_below hB2).from _, ⟨⟨by rw [List.length_append, List.length_singleton, hpe], .inr ⟨rfl, by rw [last_snoc]; exact hr'⟩⟩, _, boxed_below bR1 hB2, ?_, trivial⟩, boxed_below bE1 hB2, hBw4.trans ((hB1.mono hsz4).trans (hB2.mono (by omega)))⟩
        rw [ho]
        exact World.ownsRow_nil _ _ _ _
      | true =>
        gi_wp2_with fail
        refine ⟨trivial, ?_⟩
        refine (CallsIn.inRound l (callsIn_wide.2 (right_any sa sl sc f' _ hbx hl6))).mono ?_
        rintro e W2 ⟨rfl, hB2⟩
        rw [hr']
        have hcap := bts_cap hbx
        gi_wp2_with fail
        refine ⟨trivial, ?_⟩
        refine (CallsIn.inRound l (callsIn_wide.2 (record_any sa sl sc hsl6 (by omega) W2))).mono ?_
        rintro e W3 ⟨rfl, hWe⟩
        subst hWe
        have hb2 := bts_cut hbx 6 sl (by omega) (Nat.le_refl _)
        rw [HL.out, take_drop_all, ← HL.out] at hb2
        gi_wp2_with fail
        refine ⟨trivial, ?_⟩
        refine (CallsIn.inRound l (clone_in Fence.wide 6 trivial rfl W2.heap.size _ _ _ (f'.drop 6) W2 ((hb2.below hB2).mono hB2.size) (by rw [List.length_drop]; omega) (Nat.le_refl _))).mono ?_
        rintro e W4 ⟨a', c', rfl, hown4, hB4, hK4⟩
        have bR4 := boxed_below (boxed_below bR1 hB2) hB4
        have bE4 := boxed_below (boxed_below bE1 hB2) hB4
        have cR4 := bR4.cell
        have fR4 := bR4.frozen
        have cE4 := bE4.cell
        have fE4 := bE4.frozen
        gi_wp2
        have ho : outR (pre ++ [(⟨(.slice sa sl sc, f'), hx⟩ : FrOk w4.heap.size w4)]) = f'.drop 6 := by unfold outR; rw [last_snoc]; dsimp only; rw [hr']; rfl
        refine ⟨(((keeps_below hB2).trans hK4).trans ((KeepsOthers.setCell _ _ _).trans (KeepsOthers.setCell _ _ _))).from _, ⟨⟨by rw [List.length_append, List.length_singleton, hpe], .inl rfl⟩, _, (bR4.set _).other (by omega) _, ?_, trivial⟩, (bE4.other (B' := w.heap.size) (by omega) _).set _, ((hBw4.trans ((hB1.mono hsz4).trans ((hB2.mono (by omega)).trans (hB4.mono (by have := hB2.size; omega))))).setCell (p := ⟨w.heap.size, 0, none⟩) (Nat.le_refl _) _).setCell (p := ⟨w.heap.size + 1, 0, none⟩) (by simp) _⟩
        rw [ho]
        have hle : w.heap.size ≤ W2.heap.size := by have := hB2.size; omega
        have hown5 := base_mono hown4 hle
        have hfin := two_stores32 hown5 bR4 bE4 (.slice a' (f'.drop 6).length c') (.int .i64 0)
        rw [List.length_drop] at hfin ⊢
        exact hfin
  case done =>
    rintro D ys W hD hys ⟨⟨hpl, bA1⟩, hB1⟩ hK
    have h1 := congrArg List.length hys
    have h2 : A < (frs y.b).length := by
      rcases Nat.lt_or_ge A (frs y.b).length with hlt | hge
      · exact hlt
      · have := hf.out; rw [List.getElem?_eq_none hge] at this; cases this
    unfold fby at h1
    rw [List.length_map] at h1
    omega
  case stop =>
    rintro D c pre W hD hpre ⟨⟨⟨hpl, hcc⟩, v, bR1, hrow, _⟩, bE1, hB1⟩ hK
    have hlast : (fby pre).getLastD [] = f := by
      obtain ⟨q, hq⟩ := hpre
      have hfl : (fby pre).length = A + 1 := by unfold fby; rw [List.length_map]; exact hpl
      have h1 := hf.out
      rw [← hq, List.getElem?_append_left (by omega)] at h1
      rw [List.getLastD_eq_getLast?, List.getLast?_eq_getElem?, hfl, Nat.add_sub_cancel, h1]
      rfl
    rcases hcc with rfl | ⟨_, hno⟩
    rotate_left
    · rw [hlast, hr.out] at hno; cases hno
    have hout : outR pre = f.drop 6 := by unfold outR; rw [hlast, hr.out]; rfl
    rw [hout] at hrow
    have hfb : ∀ z ∈ f.drop 6, 0 ≤ z ∧ z < 256 := by
      intro z hz'
      have h1 := List.mem_of_mem_drop hz'
      have h2 := List.mem_of_getElem? hf.out
      exact hbz.1.2 z (frs_mem y.b f h2 z h1)
    gi_wp2
    rw [← HQ0.out]
    refine ⟨by simp, .inl ⟨_, _, rfl, run_takeDeferred hK, ?_⟩⟩
    have c1 := cell_kept bR1.cell (grownBy_putObj' _ D (.deferred none)) (fun r e => by cases e; exact ⟨_, hK, rfl⟩)
    have c2 := cell_kept bE1.cell (grownBy_putObj' _ D (.deferred none)) (fun r e => by cases e; exact ⟨_, hK, rfl⟩)
    refine ⟨.tuple #[v, .int .i64 0], ?_, ⟨v, rfl, Btx.of_own (ownsRow_putObj hrow _ hK rfl) hfb, hB1.trans (belowK_b (w := w) (Nat.le_refl _) W D _ _ (by omega) hK rfl rfl)⟩⟩
    simp [results, go_sem, c1, c2]
/-- Read, of a record that there is. -/
theorem lread_some (w : World) (h : Lgd M w lb sb bm sv l root seg st size next forced) (hs : st.Pairwise (· < ·)) (hl : st.length ≤ 100000) (h0 : 0 ≤ seg) (h1 : seg ≤ 1000000000000000) (x : Int) (hx0 : decide (x < fst st next) = false) (hx1 : decide (x ≥ next) = false)
    (I : Nat) (hI : hld st x = I) (z : Int) (hz : st[I]? = some z) (y : Sg) (hy : getS (seg + I) l = some y) (A : Nat) (hA : x - z = A) (hA1 : A ≤ 100000) (hz0 : 0 ≤ z) (hz1 : z ≤ 1000000000000000) (hxx : x ≤ 1000000000000000)
    (f : List Int) (hf : (frs y.b)[A]? = some f) (hr : rgt f = true) :
    Calls Try.prog 19 #[.pointer (some ⟨lb, 0, none⟩), .int .i64 x] w fun e W' => ∃ v', e = .returned (.tuple #[v', .int .i64 0]) ∧ Btx (fun i => w.heap.size ≤ i) W' v' (f.drop 6) ∧ Below w.heap.size w W' :=
  callsIn_wide.1 (lread_t w h hs hl h0 h1 x hx0 hx1 I hI z hz y hy A hA hA1 hz0 hz1 hxx f hf hr)
set_option maxRecDepth 100000 in
set_option maxHeartbeats 1000000 in
theorem lread_nil (x : Int) (w : World) : Calls Try.prog 19 #[.pointer none, .int .i64 x] w fun e W' => e = .returned (.tuple #[.slice none 0 0, .int .i64 1]) ∧ Below w.heap.size w W' := by
  go_enter Try.func19, Try.ntmps19
  go_wp2
  refine bodyPost_ret (v := .tuple #[.slice none 0 0, .int .i64 1]) (by simp [results, go_sem]) rfl ⟨rfl, ?_⟩
  exact ((Below.refl _ w).alloc (Nat.le_refl _) _).alloc (by simp) _
end
end Go.Proofs.Ytgblekdllcngnaa
