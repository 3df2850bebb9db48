/- The iterator codec.fields: its contract, for every loop body that keeps what lay below a block number, and besides it whatever is neither a variable of its own nor the list that it holds. -/
import Derived.Test.YtmahpceokpajgaaDoorCFirsta
namespace Go.Proofs.YtmahpceokpajgaaDoor.C
open Go.RowKit Go.Shelf Plain Go.IntWalk
set_option linter.unusedVariables false
attribute [local go_sem] Oper.semAt_some

/-- The list in variable Bb lies in block k. -/
def OwnB (Bb : Nat) (W : World) (k : Nat) : Prop := ∃ v, Boxed W Bb 53 v ∧ v.ownBlock = some k
/-- Variable Bb is there, and its list lies in memory that is there. -/
def WF (Bb : Nat) (W : World) : Prop := ∃ v, Boxed W Bb 53 v ∧ ∀ k, v.ownBlock = some k → k < W.heap.size
/-- What a round that goes on keeps. -/
def Kept (n₀ Bb : Nat) (W W' : World) : Prop :=
  Below n₀ W W' ∧ (WF Bb W → WF Bb W' ∧ ∀ k c t f, Bb < k → W.heap[k]? = some (.cells c t f) → ¬ OwnB Bb W k → W'.heap[k]? = some (.cells c t f) ∧ ¬ OwnB Bb W' k)
theorem boxed_unique {W : World} {B : Nat} {t t' : TypeId} {v v' : Value} (h : Boxed W B t v) (h' : Boxed W B t' v') : v = v' := by
  have := (show W.heap[B]? = _ from h).symm.trans h'
  simp at this
  exact this.1
theorem Kept.trans {n₀ Bb : Nat} {A B C : World} (h : Kept n₀ Bb A B) (k : Kept n₀ Bb B C) : Kept n₀ Bb A C :=
  ⟨h.1.trans k.1, fun hA => by
    obtain ⟨hB, h2⟩ := h.2 hA
    obtain ⟨hC, k2⟩ := k.2 hB
    refine ⟨hC, fun i c t f hi hc ho => ?_⟩
    obtain ⟨e1, e2⟩ := h2 i c t f hi hc ho
    exact k2 i c t f hi e1 e2⟩
theorem Kept.refl (n₀ Bb : Nat) (W : World) : Kept n₀ Bb W W := ⟨Below.refl _ _, fun h => ⟨h, fun k c t f _ hc ho => ⟨hc, ho⟩⟩⟩
/-- Whatever lay in W lies as it lay. -/
theorem Kept.of_below {n₀ Bb : Nat} {W W' : World} (h : Below W.heap.size W W') (hn : n₀ ≤ W.heap.size) : Kept n₀ Bb W W' := by
  refine ⟨h.mono hn, fun ⟨v, hv, hk⟩ => ⟨⟨v, boxed_below hv h, fun k e => Nat.lt_of_lt_of_le (hk k e) h.size⟩, fun k c t f _ hc ho => ⟨?_, ?_⟩⟩⟩
  · exact (h.block k (Array.getElem?_eq_some_iff.1 hc).1).trans hc
  · rintro ⟨u, hu, e⟩
    exact ho ⟨v, hv, by rw [boxed_unique (boxed_below hv h) hu]; exact e⟩
theorem Kept.putObj {n₀ Bb : Nat} {w : World} (hn : n₀ ≤ w.heap.size) (W : World) (l : Nat) (o o' : Obj) (hl : w.heap.size ≤ l) (h : W.heap[l]? = some o) (hc : o.isCells = false) (hw : o.isWalk = false) : Kept n₀ Bb W (W.putObj l o') := by
  have other : ∀ (k : Nat) (c : Array Value) (t : TypeId) (f : Nat × Nat), W.heap[k]? = some (.cells c t f) → (W.putObj l o').heap[k]? = some (.cells c t f) := by
    intro k c t f hk
    have : k ≠ l := by
      rintro rfl
      rw [hk] at h; cases h; cases hc
    exact (World.putObj_heap_other this).trans hk
  have back : ∀ (k : Nat) (c : Array Value) (t : TypeId) (f : Nat × Nat), (W.putObj l o').heap[k]? = some (.cells c t f) → k ≠ l → W.heap[k]? = some (.cells c t f) := fun k c t f hk hne => (World.putObj_heap_other hne).symm.trans hk
  refine ⟨belowK_b hn W l o o' hl h hc hw, fun ⟨v, hv, hk⟩ => ⟨⟨v, other _ _ _ _ hv, fun k e => Nat.lt_of_lt_of_le (hk k e) (grownBy_putObj' W l o').size⟩, fun k c t f _ hcc ho => ⟨other k c t f hcc, ?_⟩⟩⟩
  rintro ⟨u, hu, e⟩
  exact ho ⟨v, hv, by rw [boxed_unique (other _ _ _ _ hv) hu]; exact e⟩
theorem below_grown {W W' : World} (h : Below W.heap.size W W') : W.grownBy W' none := ⟨h.os, h.tape, h.output, h.size, fun k hk _ => h.block k hk⟩

/-- What the iterator hands on: a field and whether it is one. -/
abbrev FB (n₀ : Nat) (W : World) := { p : Fd × Bool // p.2 = true → p.1.ok n₀ W ∧ p.1.right = true }
def fsB {n₀ : Nat} {W : World} (ys : List (FB n₀ W)) : List Fd := ys.map (fun y => y.1.1)
theorem fsB_snoc {n₀ : Nat} {W : World} (ys : List (FB n₀ W)) (x : FB n₀ W) : fsB (ys ++ [x]) = fsB ys ++ [x.1.1] := by unfold fsB; rw [List.map_append]; rfl
/-- The bytes begin with these fields; rest is behind. -/
def Part {n₀ : Nat} {W : World} (zs : List Int) (pre : List (FB n₀ W)) (rest : List Int) : Prop := (∀ p ∈ pre, p.1.2 = true) ∧ zs = encL (fsB pre) ++ rest
/-- The bytes end in none. -/
def Ends {n₀ : Nat} {W : World} (zs : List Int) (ys : List (FB n₀ W)) : Prop := ∃ ini x rest, ys = ini ++ [x] ∧ x.1.2 = false ∧ Part zs ini rest ∧ rest ≠ [] ∧ ¬ Begins rest

theorem Bts.above {n₀ : Nat} {A B : World} (h : Below n₀ A B) {v : Value} {zs : List Int} : Bts n₀ B v zs → Bts n₀ A v zs
  | ⟨.inl e, hz⟩ => ⟨.inl e, hz⟩
  | ⟨.inr ⟨b, off, cap, e, hb, hl, hm, hc⟩, hz⟩ => ⟨.inr ⟨b, off, cap, e, hb, hl, hm, fun j hj => (h.cell (p := ⟨b, off + j, none⟩) hb).symm.trans (hc j hj)⟩, hz⟩
theorem Bts.form {n₀ : Nat} {A : World} {v : Value} {zs : List Int} (hz : Bts n₀ A v zs) : ∃ a len cap, v = .slice a len cap ∧ len = zs.length := by
  obtain ⟨⟨e | ⟨ad, c, e⟩, h⟩ | ⟨b, off, c, e, _⟩, _⟩ := hz
  · exact ⟨_, _, _, e, by rw [h]; rfl⟩
  · exact ⟨_, _, _, e, by rw [h]; rfl⟩
  · exact ⟨_, _, _, e, rfl⟩
theorem encL_append' (xs ys : List Fd) : encL (xs ++ ys) = encL xs ++ encL ys := List.flatMap_append
theorem encL_ge (xs : List Fd) : 3 * xs.length ≤ (encL xs).length := by
  induction xs with
  | nil => exact Nat.le_refl _
  | cons x xs ih => rw [encL_cons', List.length_append, List.length_cons]; simp only [encF, List.length_cons]; omega
def lenV : Value → Nat | .slice _ l _ => l | _ => 0

set_option maxRecDepth 100000 in
set_option maxHeartbeats 4000000 in
theorem fields1_in (n : Nat) (hn : 3 ≤ n) (l Bs n₀ Bb : Nat) (W₀ : World) (hW₀ : n₀ = W₀.heap.size) (zs : List Int) (hzl : zs.length ≤ 9223372036854775807) (sv : Value) (J Jx : List (FB n₀ W₀) → World → Prop) (W : World) (hn0 : n₀ ≤ W.heap.size) (hBW : Below n₀ W₀ W) (hJa : AbidesFrom W.heap.size J) (hBb : Bb < W.heap.size)
    (hY : ∀ pre x W, J pre W → pre.length < zs.length + 1 → YieldAt Fence.wide (n - 1) Tryd.prog l #[.agg #[.int .i64 x.1.1.tag, .slice x.1.1.a x.1.1.len x.1.1.cap], .bool x.1.2] W fun e W' =>
      (e = .returned (.bool true) ∧ J (pre ++ [x]) W' ∧ Kept n₀ Bb W W') ∨ (e = .returned (.bool false) ∧ Jx (pre ++ [x]) W'))
    (hBs : W.cell? ⟨Bs, 0, none⟩ = some sv) (hz : Bts n₀ W sv zs) (hWF : WF Bb W) (h0 : J [] W) :
    CallsIn Fence.wide n Tryd.prog 55 #[.func (.yield l) #[] #[], .pointer (some ⟨Bs, 0, none⟩)] W fun e W' => (∃ v, e = .returned v) ∧
      ((∃ ys, (Part zs ys [] ∨ Ends zs ys) ∧ J ys W') ∨ (∃ pre, ((∃ rest, Part zs pre rest) ∨ Ends zs pre) ∧ Jx pre W')) := by
  refine callsIn_of_wp Tryd.func55 rfl trivial ?_ rfl
  simp only [Tryd.ntmps55, List.size_toArray, List.length_cons, List.length_nil, Nat.reduceAdd, Nat.reduceSub, Array.replicate_succ, Array.replicate_zero, List.push_toArray, List.append_toArray, List.nil_append, List.cons_append]
  obtain ⟨a, len, cap, rfl, hlen⟩ := hz.form
  clear hlen
  gi_wp2_with fail
  gi_loopw [3] (fun v wr => ∃ pre rest, Bts n₀ wr v rest ∧ Part zs pre rest ∧ J pre wr ∧ Below n₀ W wr ∧ WF Bb wr) (fun v _ => lenV v)
  case atStart => exact ⟨[], zs, hz, ⟨(fun _ h => by cases h), by simp [fsB, encL]⟩, h0, Below.refl _ _, hWF⟩
  case round =>
    obtain ⟨pre, rest, hbr, hp, hJs, hnx, hwf⟩ := hrel
    obtain ⟨ra, rl, rc, rfl, hrl⟩ := hbr.form
    have hsz := hnx.size
    have hprel : pre.length < zs.length + 1 := by
      have h1 := congrArg List.length hp.2
      rw [List.length_append] at h1
      have h2 := encL_ge (fsB pre)
      unfold fsB at h2
      rw [List.length_map] at h2
      unfold fsB at h1
      omega
    have hrm : rl ≤ 9223372036854775807 := hbr.len_le
    by_cases hne : rest = []
    · subst hne
      obtain rfl : rl = 0 := hrl
      gi_wp2
      go_end0
      exact ⟨⟨_, rfl⟩, .inl ⟨pre, .inl hp, hJs⟩⟩
    · have hpos : (0 : Int) < (rl : Int) := by
        have : 0 < rest.length := List.length_pos_iff.2 hne
        omega
      have HR : Hid (rl = rest.length) := hrl
      clear hrl
      gi_wp2_with fail
      refine ⟨trivial, (fun h => by cases h), ?_⟩
      refine (callsIn_wide.2 (first_any n₀ _ rest _ hbr hne)).mono ?_
      rintro e w1 ⟨⟨x, r, rfl, hxr, hrest, hxok⟩ | ⟨hnb, rfl⟩, hB1⟩
      · have hs1 := hB1.size
        have hx0 : x.ok n₀ W₀ := ⟨(hxok.1.above (hBW.trans hnx)), hxok.2⟩
        have hJ1 : J pre (w1.alloc (.cells #[.int .i64 x.tag, .slice x.a x.len x.cap] 55)) := hJa _ w1 _ none (hJa _ wr _ none hJs (below_grown hB1) (fun _ e => by cases e)) (World.grownBy_alloc _ _ _) (fun _ e => by cases e)
        have hwf1 : WF Bb (w1.alloc (.cells #[.int .i64 x.tag, .slice x.a x.len x.cap] 55)) := ((Kept.of_below (n₀ := n₀) (Bb := Bb) hB1 (by omega)).trans (Kept.of_below ((Below.refl _ w1).alloc (Nat.le_refl _) _) (by omega))).2 hwf |>.1
        have hwfw1 : WF Bb w1 := ((Kept.of_below (n₀ := n₀) (Bb := Bb) hB1 (by omega)).2 hwf).1
        have hbox := heap_alloc_new w1 (.cells #[.int .i64 x.tag, .slice x.a x.len x.cap] 55)
        have hnot : ¬ OwnB Bb (w1.alloc (.cells #[.int .i64 x.tag, .slice x.a x.len x.cap] 55)) w1.heap.size := by
          rintro ⟨u, hu, e⟩
          obtain ⟨v, hv, hk⟩ := hwfw1
          have := boxed_unique (hv.alloc _) hu
          subst this
          have := hk _ e
          omega
        have hxl := hxok.len
        have hx2 := rightB_true hxr
        have hrlen : rest.length = 3 + x.zs.length + r.length := by
          rw [hrest, List.length_append]; simp only [encF, List.length_cons]; omega
        obtain ⟨rb, ro, rfl⟩ : ∃ rb ro, ra = some ⟨rb, ro, none⟩ := by
          obtain ⟨⟨_, h⟩ | ⟨b, off, c, e, _⟩, _⟩ := hbr
          · exact absurd h hne
          · simp only [Value.slice.injEq] at e; exact ⟨b, off, e.1⟩
        have hrl := HR.out
        obtain ⟨sa, _, hcut, hbc⟩ := slice_cut hbr (3 + x.len) rl (by omega) (Nat.le_refl _)
        have hdrop : (rest.take rl).drop (3 + x.len) = r := by
          rw [hrl, List.take_length, hrest]
          exact List.drop_left' (by simp only [encF, List.length_cons]; omega)
        rw [hdrop] at hbc
        have hcut' : ∀ W, (Instr.slice 23 (.slice (some ⟨rb, ro, none⟩) rl rc) (some (.int .i64 (3 + (x.len : Int)))) none none).run Tryd.prog W = .ok (.slice sa (rl - (3 + x.len)) (rc - (3 + x.len))) W := by
          intro W
          have := hcut W rfl
          rw [Int.natCast_add] at this
          exact this
        have hxl2 : x.len ≤ 2000 := by omega
        have HX : Hid (x.len = x.zs.length) := hxl
        have HL : Hid (rest.length = 3 + x.zs.length + r.length) := hrlen
        have HRS : Hid (rest = encF x ++ r) := hrest
        clear hcut hdrop hrl hxl hrlen hrest
        obtain ⟨fn, tmps, assign, body, hy, hR⟩ := hY pre ⟨(x, true), fun _ => ⟨hx0, hxr⟩⟩ _ hJ1 hprel
        dsimp only at hy
        gi_wp2
        refine ⟨(fun h => by cases h), hR.mono ?_⟩
        rintro e W3 (⟨rfl, hJ3, hk3⟩ | ⟨rfl, hJx3⟩)
        · obtain ⟨hwf3, hkeep⟩ := hk3.2 hwf1
          have hb3 := (hkeep w1.heap.size _ _ _ (by obtain ⟨v, hv, _⟩ := hwfw1; exact hv.lt) hbox hnot).1
          have c3 := cell_two_1 hb3
          clear hkeep
          gi_wp2
          go_roundw
          case rel =>
            refine ⟨pre ++ [⟨(x, true), fun _ => ⟨hx0, hxr⟩⟩], r, hbc.below (((hB1.mono (by omega)).alloc (by omega) _).trans hk3.1), ⟨?_, ?_⟩, hJ3, hnx.trans (((hB1.mono (by omega)).alloc (by omega) _).trans hk3.1), hwf3⟩
            · intro p hp'
              rcases List.mem_append.1 hp' with h | h
              · exact hp.1 p h
              · obtain rfl : p = _ := by simpa using h
                rfl
            · rw [fsB_snoc, encL_append', List.append_assoc]
              rw [hp.2, HRS.out]
              simp [encL]
          case measure => simp only [lenV]; omega
        · gi_wp2
          refine bodyPost_ret (results_none rfl _ _ _) rfl ?_
          refine ⟨⟨_, rfl⟩, .inr ⟨_, .inl ⟨r, ?_, ?_⟩, hJx3⟩⟩
          · intro p hp'
            rcases List.mem_append.1 hp' with h | h
            · exact hp.1 p h
            · obtain rfl : p = _ := by simpa using h
              rfl
          · rw [fsB_snoc, encL_append', List.append_assoc]
            rw [hp.2, HRS.out]
            simp [encL]
      · have hs1 := hB1.size
        have hJ1 : J pre (w1.alloc (.cells #[.int .i64 0, .slice none 0 0] 55)) := hJa _ w1 _ none (hJa _ wr _ none hJs (below_grown hB1) (fun _ e => by cases e)) (World.grownBy_alloc _ _ _) (fun _ e => by cases e)
        obtain ⟨fn, tmps, assign, body, hy, hR⟩ := hY pre ⟨(⟨0, none, 0, 0, []⟩, false), fun h => by cases h⟩ _ hJ1 hprel
        dsimp only at hy
        gi_wp2
        refine ⟨(fun h => by cases h), hR.mono ?_⟩
        rintro e W3 (⟨rfl, hJ3, hk3⟩ | ⟨rfl, hJx3⟩)
        · gi_wp2
          refine bodyPost_ret (results_none rfl _ _ _) rfl ?_
          exact ⟨⟨_, rfl⟩, .inl ⟨_, .inr ⟨pre, _, rest, rfl, rfl, hp, hne, hnb⟩, hJ3⟩⟩
        · gi_wp2
          refine bodyPost_ret (results_none rfl _ _ _) rfl ?_
          exact ⟨⟨_, rfl⟩, .inr ⟨_, .inr ⟨pre, _, rest, rfl, rfl, hp, hne, hnb⟩, hJx3⟩⟩
end Go.Proofs.YtmahpceokpajgaaDoor.C
