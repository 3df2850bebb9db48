/- An action's draft: what it is to write, what it is to cancel. -/
import Derived.Test.YtmahpceokpajgaaDoorStp
import Derived.Test.YtmahpceokpajgaaDoorSum
import Derived.Test.YtmahpceokpajgaaDoorDro
import Derived.Maps.AppendAt
namespace Go.Proofs.YtmahpceokpajgaaDoor
open Go.RowKit Go.IntWalk Go.Maps Go.Shelf
set_option linter.unusedVariables false
/-- What is to be written: a key with a value, or with none. -/
structure Wr where
  ky : K
  vl : ByteArray
  is : Bool
def Wr.cells (x : Wr) : List Value := [.string (bt x.ky), .string x.vl, .bool x.is]
def cellsW (l : List Wr) : List Value := l.flatMap Wr.cells
def cellsK (l : List K) : List Value := l.map fun k => .string (bt k)
theorem cellsW_app (a b : List Wr) : cellsW (a ++ b) = cellsW a ++ cellsW b := by simp [cellsW]
theorem info101d : (Tryd.prog.info? 101).map (fun i => (i.zero, i.size, i.bytes)) = some (some (.agg #[.string ByteArray.empty, .string ByteArray.empty, .bool false]), 3, 40) := by kernel_rfl
theorem info9d : (Tryd.prog.info? 9).map (fun i => (i.zero, i.size, i.bytes)) = some (some (.string ByteArray.empty), 1, 16) := by kernel_rfl
theorem new_at (w : World) (l : List Value) (t : TypeId) (j : Nat) (u : Value) (hj : l[j]? = some u) : (w.alloc (.cells l.toArray t)).cell? ((⟨w.heap.size, 0, none⟩ : Addr).add j) = some u := by
  rw [addr_add, Nat.zero_add]
  exact cell_new w l.toArray t (by simpa using hj)
theorem app_w (w : World) {base : Nat} {v : Value} {ws : List Wr} (x : Wr) (hown : w.ownsRow base 101 3 v ws.length (cellsW ws)) (hl : ws.length ≤ 100000) (hb : base ≤ w.heap.size) (ty : TypeId) :
    ∃ v' w', (Builtin.append_ #[70, 70] ty #[v, .slice (some ⟨w.heap.size, 0, none⟩) 1 1]).run Tryd.prog (w.alloc (.cells #[.string (bt x.ky), .string x.vl, .bool x.is] 101)) = .ok v' w' ∧ w'.ownsRow base 101 3 v' (ws ++ [x]).length (cellsW (ws ++ [x])) ∧ w.grownBy w' v.ownBlock ∧
      (v'.ownBlock = v.ownBlock ∨ ∃ k, v'.ownBlock = some k ∧ w.heap.size ≤ k) := by
  obtain ⟨i0, hi, hz0, hz1, hz2⟩ := info_parts info101d
  have hga := World.grownBy_alloc w (.cells #[.string (bt x.ky), .string x.vl, .bool x.is] 101) none
  obtain ⟨v', w', hrun, h1, h2, _, h4⟩ := run_append_own_at (P := Tryd.prog) (w := w.alloc (.cells #[.string (bt x.ky), .string x.vl, .bool x.is] 101)) base 70 ty 101 i0 (.agg #[.string ByteArray.empty, .string ByteArray.empty, .bool false]) 3 40 Tryd.underlying70 hi hz0 hz1 hz2 rfl (by decide) v ws.length _ (World.ownsRow.kept hown hga (Classical.em _)) ⟨w.heap.size, 0, none⟩ 1 1 x.cells rfl (new_at w x.cells 101) (fun u hu => by
    simp only [Wr.cells, List.mem_cons, List.not_mem_nil, or_false] at hu
    rcases hu with rfl | rfl | rfl <;> rfl) (by unfold maxLen; omega) (by omega) (by simp; omega)
  have hce : cellsW ws ++ x.cells = cellsW (ws ++ [x]) := by rw [cellsW_app]; simp [cellsW]
  rw [hce] at h1
  refine ⟨v', w', hrun, by rw [List.length_append]; exact h1, grown_same hga h2, ?_⟩
  rcases h4 with h4 | h4
  · exact .inl h4
  · exact .inr ⟨_, h4, by simp⟩
theorem app_k (w : World) {base : Nat} {v : Value} {cs : List K} (x : K) (hown : w.ownsRow base 9 1 v cs.length (cellsK cs)) (hl : cs.length ≤ 100000) (hb : base ≤ w.heap.size) (ty : TypeId) :
    ∃ v' w', (Builtin.append_ #[45, 45] ty #[v, .slice (some ⟨w.heap.size, 0, none⟩) 1 1]).run Tryd.prog (w.alloc (.cells #[.string (bt x)] 9)) = .ok v' w' ∧ w'.ownsRow base 9 1 v' (cs ++ [x]).length (cellsK (cs ++ [x])) ∧ w.grownBy w' v.ownBlock ∧
      (v'.ownBlock = v.ownBlock ∨ ∃ k, v'.ownBlock = some k ∧ w.heap.size ≤ k) := by
  obtain ⟨i0, hi, hz0, hz1, hz2⟩ := info_parts info9d
  have hga := World.grownBy_alloc w (.cells #[.string (bt x)] 9) none
  obtain ⟨v', w', hrun, h1, h2, _, h4⟩ := run_append_own_at (P := Tryd.prog) (w := w.alloc (.cells #[.string (bt x)] 9)) base 45 ty 9 i0 (.string ByteArray.empty) 1 16 Tryd.underlying45 hi hz0 hz1 hz2 rfl (by decide) v cs.length _ (World.ownsRow.kept hown hga (Classical.em _)) ⟨w.heap.size, 0, none⟩ 1 1 [.string (bt x)] rfl (new_at w [.string (bt x)] 9) (fun u hu => by
    simp only [List.mem_cons, List.not_mem_nil, or_false] at hu
    subst hu; rfl) (by unfold maxLen; omega) (by omega) (by simp; omega)
  have hce : cellsK cs ++ [.string (bt x)] = cellsK (cs ++ [x]) := by simp [cellsK]
  rw [hce] at h1
  refine ⟨v', w', hrun, by rw [List.length_append]; exact h1, grown_same hga h2, ?_⟩
  rcases h4 with h4 | h4
  · exact .inl h4
  · exact .inr ⟨_, h4, by simp⟩
theorem step_append_d {ops : Array Oper} {o : Oper} {a : Act} {w : World} {K : Act → World → Prop} {Q : Exit → Act → World → Prop} {E : Prop} {t : TypeId} (hgd : o.guard = none) (sl x : Operand) (hop : o.op = Op.call { callee := Callee.builtin Builtin.append, args := #[sl, x], argTypes := #[t, t] })
    (v u : Value) (hs : a.eval sl = v) (hx : a.eval x = u) {v' : Value} {w' : World} (hrun : (Builtin.append_ #[t, t] o.type #[v, u]).run Tryd.prog w = .ok v' w') (hK : K (a.put o.dst v') w') :
    if Region.wanted o (yielded ops a.tmps) = true then Oper.wp Tryd.prog o a w K Q else E := by
  have hw : Region.wanted o (yielded ops a.tmps) = true := by simp [Region.wanted, hgd]
  rw [if_pos hw]
  unfold Oper.wp
  simp [execOp, hop, resolve, invoke, builtin, hs, hx, hrun, Result.andThen]
  exact hK
/-- What lies below n₀ is as it was, and so is the block behind db. -/
def Bw (n₀ db : Nat) (w w' : World) : Prop := Below n₀ w w' ∧ (db + 1 < w.heap.size → w'.heap[db + 1]? = w.heap[db + 1]?)
theorem Bw.refl (n₀ db : Nat) (w : World) : Bw n₀ db w w := ⟨Below.refl _ _, fun _ => rfl⟩
theorem Bw.trans {n₀ db : Nat} {a b c : World} (h : Bw n₀ db a b) (k : Bw n₀ db b c) : Bw n₀ db a c := ⟨h.1.trans k.1, fun e => (k.2 (Nat.lt_of_lt_of_le e h.1.size)).trans (h.2 e)⟩
theorem Bw.drew {n₀ db : Nat} {a w : World} (h : Bw n₀ db a w) : Bw n₀ db a w.drew := ⟨h.1.drew, h.2⟩
theorem Bw.grown {n₀ db : Nat} {a w w' : World} (h : Bw n₀ db a w) (hg : w.grownBy w' none) (hB : n₀ ≤ w.heap.size) (hr : ∀ k, (none : Option Nat) = some k → n₀ ≤ k) : Bw n₀ db a w' := ⟨h.1.grown hg hB hr, fun e => (hg.block _ (Nat.lt_of_lt_of_le e h.1.size) (by simp)).trans (h.2 e)⟩
theorem Bw.alloc {n₀ db : Nat} {a w : World} (h : Bw n₀ db a w) (hB : n₀ ≤ w.heap.size) (o : Obj) : Bw n₀ db a (w.alloc o) := h.grown (World.grownBy_alloc w o none) hB (fun _ e => by cases e)
/-- A draft in memory: of the trie tb, in blocks from n₀ on; its rows lie behind the block that follows it. -/
structure Dft (n₀ : Nat) (w : World) (db tb : Nat) (wv cv : Value) (ws : List Wr) (cs : List K) : Prop where
  ge : n₀ ≤ db
  sz : db + 2 ≤ w.heap.size
  blk : w.heap[db]? = some (.cells #[ptr tb, wv, cv] 72 (0, 0))
  rw : w.ownsRow (db + 2) 101 3 wv ws.length (cellsW ws)
  rc : w.ownsRow (db + 2) 9 1 cv cs.length (cellsK cs)
  ne : ∀ g, wv.ownBlock = some g → cv.ownBlock ≠ some g
section
variable {n₀ db tb : Nat} {w w' : World} {wv cv : Value} {ws : List Wr} {cs : List K}
theorem Dft.lt (h : Dft n₀ w db tb wv cv ws cs) : db < w.heap.size := (Array.getElem?_eq_some_iff.1 h.blk).1
theorem Dft.keep (h : Dft n₀ w db tb wv cv ws cs) (hg : w.grownBy w' none) : Dft n₀ w' db tb wv cv ws cs :=
  ⟨h.ge, Nat.le_trans h.sz hg.size, (hg.block db h.lt (by simp)).trans h.blk, World.ownsRow.kept h.rw hg (Classical.em _), World.ownsRow.kept h.rc hg (Classical.em _), h.ne⟩
theorem own_lt {t : TypeId} {k : Nat} {base : Nat} {v : Value} {n : Nat} {l : List Value} (h : w.ownsRow base t k v n l) {g : Nat} (hg : v.ownBlock = some g) : base ≤ g ∧ g < w.heap.size := by
  rcases id h.2 with ⟨e, _⟩ | ⟨g', cp, cur, e, hge, hg6, _⟩
  · rw [e] at hg; cases hg
  · rw [e] at hg
    simp only [Value.ownBlock, Option.some.injEq] at hg
    subst hg
    exact ⟨hge, (Array.getElem?_eq_some_iff.1 hg6).1⟩
/-- .. a step more is to be cancelled. -/
theorem Dft.more_c (h : Dft n₀ w db tb wv cv ws cs) {x : K} {cv' : Value} (hr : w'.ownsRow (db + 2) 9 1 cv' (cs ++ [x]).length (cellsK (cs ++ [x]))) (hg : w.grownBy w' cv.ownBlock) (ho : cv'.ownBlock = cv.ownBlock ∨ ∃ k, cv'.ownBlock = some k ∧ w.heap.size ≤ k) :
    Dft n₀ (w'.setCell ⟨db, 2, none⟩ cv') db tb wv cv' ws (cs ++ [x]) ∧ Bw n₀ db w (w'.setCell ⟨db, 2, none⟩ cv') ∧ w'.cell? ⟨db, 2, none⟩ = some cv ∧ w'.frozen? ⟨db, 2, none⟩ = false := by
  have hlt := h.lt
  have hge := h.ge
  have hc : cv.ownBlock ≠ some db := fun e => by have := (own_lt h.rc e).1; omega
  have hb1 : w'.heap[db]? = _ := (hg.block db hlt (fun e => hc e.symm)).trans h.blk
  have hg2 := grown_setCell w' ⟨db, 2, none⟩ cv'
  have hc' : cv'.ownBlock ≠ some db := fun e => by have := (own_lt hr e).1; omega
  have hw' : wv.ownBlock ≠ some db := fun e => by have := (own_lt h.rw e).1; omega
  refine ⟨⟨hge, by have := h.sz; have := hg.size; simp; omega, by rw [heap_set hb1]; rfl, World.ownsRow.kept (World.ownsRow.kept h.rw hg ?_) hg2 (.inr hw'), World.ownsRow.kept hr hg2 (.inr hc'), fun g h1 h2 => ?_⟩, ?_, by simp [World.cell?, hb1], by simp [World.frozen?, hb1]⟩
  · cases e : wv.ownBlock with
    | none => exact .inl rfl
    | some g => exact .inr fun e2 => h.ne g e e2.symm
  · rcases ho with ho | ⟨k, hk, hkl⟩
    · exact h.ne g h1 (ho ▸ h2)
    · rw [hk] at h2
      cases h2
      have := (own_lt h.rw h1).2
      omega
  · refine ⟨((Below.refl n₀ w).grown hg (by omega) fun k hk => by have := (own_lt h.rc hk).1; omega).setCell (p := ⟨db, 2, none⟩) hge _, fun e => (hg2.block (db + 1) (by have := hg.size; omega) (by simp)).trans (hg.block (db + 1) e fun e2 => by have := (own_lt h.rc e2.symm).1; omega)⟩
theorem Dft.more_w (h : Dft n₀ w db tb wv cv ws cs) {x : Wr} {wv' : Value} (hr : w'.ownsRow (db + 2) 101 3 wv' (ws ++ [x]).length (cellsW (ws ++ [x]))) (hg : w.grownBy w' wv.ownBlock) (ho : wv'.ownBlock = wv.ownBlock ∨ ∃ k, wv'.ownBlock = some k ∧ w.heap.size ≤ k) :
    Dft n₀ (w'.setCell ⟨db, 1, none⟩ wv') db tb wv' cv (ws ++ [x]) cs ∧ Bw n₀ db w (w'.setCell ⟨db, 1, none⟩ wv') ∧ w'.cell? ⟨db, 1, none⟩ = some wv ∧ w'.frozen? ⟨db, 1, none⟩ = false := by
  have hlt := h.lt
  have hge := h.ge
  have hc : wv.ownBlock ≠ some db := fun e => by have := (own_lt h.rw e).1; omega
  have hb1 : w'.heap[db]? = _ := (hg.block db hlt (fun e => hc e.symm)).trans h.blk
  have hg2 := grown_setCell w' ⟨db, 1, none⟩ wv'
  have hc' : wv'.ownBlock ≠ some db := fun e => by have := (own_lt hr e).1; omega
  have hw' : cv.ownBlock ≠ some db := fun e => by have := (own_lt h.rc e).1; omega
  refine ⟨⟨hge, by have := h.sz; have := hg.size; simp; omega, by rw [heap_set hb1]; rfl, World.ownsRow.kept hr hg2 (.inr hc'), World.ownsRow.kept (World.ownsRow.kept h.rc hg ?_) hg2 (.inr hw'), fun g h1 h2 => ?_⟩, ?_, by simp [World.cell?, hb1], by simp [World.frozen?, hb1]⟩
  · cases e : cv.ownBlock with
    | none => exact .inl rfl
    | some g => exact .inr fun e2 => h.ne g e2.symm e
  · rcases ho with ho | ⟨k, hk, hkl⟩
    · exact h.ne g (ho ▸ h1) h2
    · rw [hk] at h1
      cases h1
      have := (own_lt h.rc h2).2
      omega
  · refine ⟨((Below.refl n₀ w).grown hg (by omega) fun k hk => by have := (own_lt h.rw hk).1; omega).setCell (p := ⟨db, 1, none⟩) hge _, fun e => (hg2.block (db + 1) (by have := hg.size; omega) (by simp)).trans (hg.block (db + 1) e fun e2 => by have := (own_lt h.rw e2.symm).1; omega)⟩
end
end Go.Proofs.YtmahpceokpajgaaDoor
