/- A use behind something is taken away and something more is put: quota.change. -/
import Derived.Test.YtlnikgejcogkeaaRgt
import Derived.Laws.Tables
namespace Go.Proofs.Ytlnikgejcogkeaa
open Go.RowKit Go.IntWalk
set_option linter.unusedVariables false
/-- A use as the program holds it, and as it lies in a block. -/
abbrev uV (k r t : Int) : Value := .agg #[.int .i64 k, .int .i64 r, .int .i64 t]
abbrev bU (k r t : Int) : Obj := .cells #[.int .i64 k, .int .i64 r, .int .i64 t] 27
theorem rgt_true {k r t : Int} (h : Rgt k r t) : rgt k r t = true := rgt_iff.2 h
theorem info27 : (Try.prog.info? 27).map (·.size) = some 3 := by kernel_rfl
theorem own3 {w1 : World} {B : Nat} {a b c : Value} {t : TypeId} (hb : w1.heap[B]? = some (.cells #[a, b, c] t (0, 0))) : w1.cell? ⟨B, 0, none⟩ = some a ∧ w1.cell? ⟨B, 1, none⟩ = some b ∧ w1.cell? ⟨B, 2, none⟩ = some c ∧ ∀ i, w1.frozen? ⟨B, i, none⟩ = false :=
  ⟨by simp [World.cell?, hb], by simp [World.cell?, hb], by simp [World.cell?, hb], fun i => by simp [World.frozen?, hb]⟩
/-- A use stored in a block of one's own. -/
theorem wpList_store3 {ops : Array Oper} {rest : List Oper} {o : Oper} {a : Act} {w : World} {Q : Exit → Act → World → Prop} (hgd : o.guard = none) (x y : Operand) (ho : o.op = .store 27 x y) (hd : o.dst = none) (g : Nat) (k r t : Int) (hx : a.eval x = .pointer (some ⟨g, 0, none⟩)) (hy : a.eval y = uV k r t)
    {k0 r0 t0 : Int} (hg : w.heap[g]? = some (bU k0 r0 t0))
    (hK : ∀ w', w'.heap[g]? = some (bU k r t) → w.grownBy w' (some g) → wpList Try.prog ops Q rest a w') : wpList Try.prog ops Q (o :: rest) a w := by
  refine wpList_store_row hgd 27 x y ho g #[.int .i64 k, .int .i64 r, .int .i64 t] hx hy 27 _ hg (by rw [info27]; rfl) rfl (by simp [Value.oneCell']) ?_
  rw [hd]
  exact hK _ (setRow_heap w g _ _ 27 (0, 0) hg) ⟨rfl, rfl, rfl, by simp, fun k _ hk => setRow_other w g k _ fun e => hk (by rw [e])⟩
/-- What change holds: the use, what is taken away, what is put, the answer. -/
structure Fr (w w1 : World) (k r t a b c x y z p q s : Int) : Prop where
  b0 : w1.heap[w.heap.size]? = some (bU k r t)
  b1 : w1.heap[w.heap.size + 1]? = some (bU a b c)
  b2 : w1.heap[w.heap.size + 1 + 1]? = some (bU x y z)
  b3 : w1.heap[w.heap.size + 1 + 1 + 1]? = some (bU p q s)
  be : Below w.heap.size w w1
theorem heap_new (w : World) (o : Obj) : (w.alloc o).heap[w.heap.size]? = some o := by show (w.heap.push o)[w.heap.size]? = some o; simp
variable {w w1 w2 : World} {k r t a b c x y z p q s : Int}
theorem Fr.keep (h : Fr w w1 k r t a b c x y z p q s) (hB : Below w1.heap.size w1 w2) : Fr w w2 k r t a b c x y z p q s := by
  have l0 := (Array.getElem?_eq_some_iff.1 h.b0).1
  have l1 := (Array.getElem?_eq_some_iff.1 h.b1).1
  have l2 := (Array.getElem?_eq_some_iff.1 h.b2).1
  have l3 := (Array.getElem?_eq_some_iff.1 h.b3).1
  exact ⟨(hB.block _ l0).trans h.b0, (hB.block _ l1).trans h.b1, (hB.block _ l2).trans h.b2, (hB.block _ l3).trans h.b3, h.be.trans (hB.mono (by omega))⟩
theorem Fr.four (w : World) : Fr w ((((w.alloc (bU k r t)).alloc (bU a b c)).alloc (bU x y z)).alloc (bU p q s)) k r t a b c x y z p q s := by
  have h0 : (w.alloc (bU k r t)).heap[w.heap.size]? = some (bU k r t) := heap_new w _
  have h1 : ((w.alloc (bU k r t)).alloc (bU a b c)).heap[w.heap.size + 1]? = some (bU a b c) := by simpa using heap_new (w.alloc (bU k r t)) (bU a b c)
  have h2 : (((w.alloc (bU k r t)).alloc (bU a b c)).alloc (bU x y z)).heap[w.heap.size + 1 + 1]? = some (bU x y z) := by simpa using heap_new ((w.alloc (bU k r t)).alloc (bU a b c)) (bU x y z)
  have h3 : ((((w.alloc (bU k r t)).alloc (bU a b c)).alloc (bU x y z)).alloc (bU p q s)).heap[w.heap.size + 1 + 1 + 1]? = some (bU p q s) := by simpa using heap_new (((w.alloc (bU k r t)).alloc (bU a b c)).alloc (bU x y z)) (bU p q s)
  refine ⟨?_, ?_, ?_, h3, ?_⟩
  · rw [Below.heap_alloc _ _ _ (by simp; omega), Below.heap_alloc _ _ _ (by simp; omega), Below.heap_alloc _ _ _ (by simp)]
    exact h0
  · rw [Below.heap_alloc _ _ _ (by simp), Below.heap_alloc _ _ _ (by simp)]
    exact h1
  · rw [Below.heap_alloc _ _ _ (by simp)]
    exact h2
  · exact ((((Below.refl _ _).alloc (Nat.le_refl _) _).alloc (by simp) _).alloc (by simp; omega) _).alloc (by simp; omega) _
theorem below_store {n g : Nat} (h : Below n w w1) (hg : w1.grownBy w2 (some g)) (hn : n ≤ g) (hm : n ≤ w1.heap.size) : Below n w w2 := h.grown hg hm (fun k e => by cases e; exact hn)
set_option maxRecDepth 100000 in
set_option maxHeartbeats 1000000 in
/-- quota.change of a use that is not right. -/
theorem change_bad (h : ¬ Rgt k r t) (a b c x y z : Int) (w : World) :
    Calls Try.prog 19 #[uV k r t, uV a b c, uV x y z] w fun e w' => e = .returned (.tuple #[uV 0 0 0, .int .i64 1]) ∧ Below w.heap.size w w' := by
  have hr := rgt_false h
  clear h
  have hF := @Fr.four k r t a b c x y z 0 0 0 w
  go_enter Try.func19, Try.ntmps19
  go_wp2_with fail
  refine (right_any k r t _).mono ?_
  rintro e w1 ⟨rfl, hB⟩
  rw [hr]
  replace hF := hF.keep hB
  have hb := hF.b3
  have hbe := hF.be
  have hs := hB.size
  simp at hs
  clear hF hB
  go_wp2_with (refine wpList_store3 rfl _ _ rfl rfl _ 0 0 0 rfl rfl hb ?_; intro w2 hb2 hg2; obtain ⟨c0, c1, c2, f0⟩ := own3 hb2; clear hb2)
  refine bodyPost_ret (v := .tuple #[uV 0 0 0, .int .i64 1]) (by rw [results_cell_tmp rfl]; go_simp) rfl ?_
  exact ⟨rfl, below_store hbe hg2 (by omega) (by omega)⟩
/-- The use that is told beside an error o. -/
def ans (o k r t : Int) : Value := if o = 0 then uV k r t else uV 0 0 0
theorem ans_ok (k r t : Int) : ans 0 k r t = uV k r t := if_pos rfl
theorem ans_no {o : Int} (h : o ≠ 0) (k r t : Int) : ans o k r t = uV 0 0 0 := if_neg h
/-- What is taken away or put is not too great. -/
def Sml (k r t : Int) : Prop := (0 ≤ k ∧ k ≤ 10000) ∧ (0 ≤ r ∧ r ≤ 10000) ∧ 0 ≤ t ∧ t ≤ 10000
set_option maxRecDepth 100000 in
set_option maxHeartbeats 1000000 in
/-- quota.change where less is there than is taken away. -/
theorem change_less (h : Rgt k r t) (ha : Sml a b c) (hl : ¬ Rgt (k - a) (r - b) (t - c)) (x y z : Int) (w : World) :
    Calls Try.prog 19 #[uV k r t, uV a b c, uV x y z] w fun e w' => e = .returned (.tuple #[uV 0 0 0, .int .i64 1]) ∧ Below w.heap.size w w' := by
  have hl' := rgt_false hl
  clear hl
  obtain ⟨⟨_, _⟩, ⟨_, _⟩, _, _⟩ := ha
  obtain ⟨⟨_, _⟩, ⟨_, _⟩, _, _⟩ := id h
  have hr := rgt_true h
  have hF := @Fr.four k r t a b c x y z 0 0 0 w
  go_enter Try.func19, Try.ntmps19
  go_wp2_with fail
  refine (right_any k r t _).mono ?_
  rintro e w1 ⟨rfl, hB⟩
  rw [hr]
  replace hF := hF.keep hB
  have hs := hB.size
  simp at hs
  obtain ⟨c0, c1, c2, f0⟩ := own3 hF.b0
  obtain ⟨d0, d1, d2, f1⟩ := own3 hF.b1
  replace hF := Hid.mk hF
  clear hB
  go_wp2_with fail
  refine (right_any (k - a) (r - b) (t - c) _).mono ?_
  rintro e w2 ⟨rfl, hB⟩
  have hF2 := hF.out.keep (((Below.refl _ _).alloc (Nat.le_refl _) _).trans (hB.mono (by simp)))
  have hs2 := hB.size
  simp at hs2
  have hb8 := (hB.block w1.heap.size (by simp)).trans (heap_new w1 _)
  clear c0 c1 c2 f0 d0 d1 d2 f1 hF hB
  rw [hl']
  have hb := hF2.b3
  have hbe := hF2.be
  clear hF2 hb8
  go_wp2_with (refine wpList_store3 rfl _ _ rfl rfl _ 0 0 0 rfl rfl hb ?_; intro w2 hb2 hg2; obtain ⟨c0, c1, c2, f0⟩ := own3 hb2; clear hb2)
  refine bodyPost_ret (v := .tuple #[uV 0 0 0, .int .i64 1]) (by rw [results_cell_tmp rfl]; go_simp) rfl ?_
  exact ⟨rfl, below_store hbe hg2 (by omega) (by omega)⟩
set_option maxRecDepth 100000 in
set_option maxHeartbeats 1000000 in
/-- quota.change where enough is there. -/
theorem change_more (h : Rgt k r t) (ha : Sml a b c) (hl : Rgt (k - a) (r - b) (t - c)) (hx : Sml x y z) (w : World) {o : Int} (ho : Hid (ovr (k - a + x) (r - b + y) (t - c + z) = o)) :
    Calls Try.prog 19 #[uV k r t, uV a b c, uV x y z] w fun e w' => e = .returned (.tuple #[ans o (k - a + x) (r - b + y) (t - c + z), .int .i64 o]) ∧ Below w.heap.size w w' := by
  have hl' := rgt_true hl
  obtain ⟨⟨_, _⟩, ⟨_, _⟩, _, _⟩ := ha
  obtain ⟨⟨_, _⟩, ⟨_, _⟩, _, _⟩ := hx
  obtain ⟨⟨_, _⟩, ⟨_, _⟩, _, _⟩ := id hl
  obtain ⟨⟨_, _⟩, ⟨_, _⟩, _, _⟩ := id h
  have hr := rgt_true h
  have hF := @Fr.four k r t a b c x y z 0 0 0 w
  go_enter Try.func19, Try.ntmps19
  go_wp2_with fail
  refine (right_any k r t _).mono ?_
  rintro e w1 ⟨rfl, hB⟩
  rw [hr]
  replace hF := hF.keep hB
  have hs := hB.size
  simp at hs
  obtain ⟨c0, c1, c2, f0⟩ := own3 hF.b0
  obtain ⟨d0, d1, d2, f1⟩ := own3 hF.b1
  replace hF := Hid.mk hF
  clear hB
  go_wp2_with fail
  refine (right_any (k - a) (r - b) (t - c) _).mono ?_
  rintro e w2 ⟨rfl, hB⟩
  have hF2 := hF.out.keep (((Below.refl _ _).alloc (Nat.le_refl _) _).trans (hB.mono (by simp)))
  have hs2 := hB.size
  simp at hs2
  have hb8 := (hB.block w1.heap.size (by simp)).trans (heap_new w1 _)
  clear c0 c1 c2 f0 d0 d1 d2 f1 hF hB
  rw [hl']
  obtain ⟨c0, c1, c2, f0⟩ := own3 hF2.b2
  obtain ⟨d0, d1, d2, f1⟩ := own3 hb8
  have hb0 := hF2.b0
  have hb3 := hF2.b3
  have l3 := (Array.getElem?_eq_some_iff.1 hb3).1
  have hbe := hF2.be
  clear hF2 hb8
  go_wp2_with (first | (refine wpList_store3 rfl _ _ rfl rfl _ (k - a + x) (r - b + y) (t - c + z) rfl rfl hb0 ?_; intro w3 hb4 hg2; obtain ⟨e0, e1, e2, f2⟩ := own3 hb4; clear hb0) | fail)
  have hb5 := (hg2.block _ l3 (by simp; omega)).trans hb3
  have hs3 := hg2.size
  replace hbe := below_store hbe hg2 (by omega) (by omega)
  refine (over_any _ _ _ _).mono ?_
  rintro e w4 ⟨rfl, hB⟩
  rw [ho.out]
  have l5 := (Array.getElem?_eq_some_iff.1 hb5).1
  replace hb5 := (hB.block _ l5).trans hb5
  replace hb4 := (hB.block _ (Array.getElem?_eq_some_iff.1 hb4).1).trans hb4
  replace hbe := hbe.trans (hB.mono (by omega))
  have hs4 := hB.size
  clear e0 e1 e2 f2 c0 c1 c2 f0 d0 d1 d2 f1 hg2 hB hb3
  obtain ⟨c0, c1, c2, f0⟩ := own3 hb4
  by_cases h0 : o = 0
  · subst h0
    go_wp2_with (refine wpList_store3 rfl _ _ rfl rfl _ (k - a + x) (r - b + y) (t - c + z) rfl rfl hb5 ?_; intro w5 hb6 hg2; obtain ⟨e0, e1, e2, f2⟩ := own3 hb6; clear hb6)
    refine bodyPost_ret (v := .tuple #[uV (k - a + x) (r - b + y) (t - c + z), .int .i64 0]) (by rw [results_cell_tmp rfl]; go_simp) rfl ?_
    exact ⟨by rw [ans_ok], below_store hbe hg2 (by omega) (by omega)⟩
  · have h1 : (o != 0) = true := by simp [h0]
    have h2 := Hid.mk h0
    clear h0
    go_wp2_with (refine wpList_store3 rfl _ _ rfl rfl _ 0 0 0 rfl rfl hb5 ?_; intro w5 hb6 hg2; obtain ⟨e0, e1, e2, f2⟩ := own3 hb6; clear hb6)
    refine bodyPost_ret (v := .tuple #[uV 0 0 0, .int .i64 o]) (by rw [results_cell_tmp rfl]; go_simp) rfl ?_
    exact ⟨by rw [ans_no h2.out], below_store hbe hg2 (by omega) (by omega)⟩
end Go.Proofs.Ytlnikgejcogkeaa
