/- Rows of sizes of the law's own, that grow. -/
import Derived.Test.YtlnikgejcogkeaaRof
import Derived.Test.YtlnikgejcogkeaaFrm
import Derived.Test.YtlnikgejcogkeaaBkw
import Derived.ArgAppend
import Derived.Maps.AppendAt
import Derived.Deep.CutRange
namespace Go.Proofs.Ytlnikgejcogkeaa
open Go.RowKit Go.IntWalk Go.Maps
set_option linter.unusedVariables false
theorem info3 : (Try.prog.info? 3).map (fun i => (i.zero, i.size, i.bytes)) = some (some (.int .i64 0), 1, 8) := by kernel_rfl
theorem own_shape {w : World} {base t s n : Nat} {v : Value} {cs : List Value} (h : w.ownsRow base t s v n cs) : ∃ a cap, v = .slice a n cap := by
  rcases h.2 with ⟨rfl, h0⟩ | ⟨g, cap, cur, rfl, _⟩
  · exact ⟨none, 0, by rw [h0]⟩
  · exact ⟨_, _, rfl⟩
/-- 'append(l, z)'. -/
theorem run_append_int {base : Nat} (w : World) (sv : Value) (st : List Int) (z : Int) (hrow : w.ownsRow base 3 1 sv st.length (st.map (Value.int .i64))) (hb : base ≤ w.heap.size) (hl : st.length ≤ 100000) (ty : TypeId) :
    ∃ a cap w', (Builtin.append_ #[22, 22] ty #[sv, .slice (some ⟨w.heap.size, 0, none⟩) 1 1]).run Try.prog (w.alloc (.cells #[.int .i64 z] 3)) = .ok (.slice a (st.length + 1) cap) w' ∧ w'.ownsRow base 3 1 (.slice a (st.length + 1) cap) (st ++ [z]).length ((st ++ [z]).map (Value.int .i64)) ∧ w.grownBy w' sv.ownBlock ∧
      ((Value.slice a (st.length + 1) cap).ownBlock = sv.ownBlock ∨ ∃ k, (Value.slice a (st.length + 1) cap).ownBlock = some k ∧ w.heap.size ≤ k) := by
  obtain ⟨i0, hi, hz0, hz1, hz2⟩ := info_parts info3
  have hga := World.grownBy_alloc w (.cells #[.int .i64 z] 3) none
  obtain ⟨v', w', hrun, h1, h2, _, h4⟩ := run_append_own_at (P := Try.prog) (w := w.alloc (.cells #[.int .i64 z] 3)) base 22 ty 3 i0 (.int .i64 0) 1 8 Try.underlying22 hi hz0 hz1 hz2 rfl (by decide) sv st.length _ (hrow.kept hga (Classical.em _)) ⟨w.heap.size, 0, none⟩ 1 1 [.int .i64 z] rfl (fun j u hj => by
    have hadd : (⟨w.heap.size, 0, none⟩ : Addr).add j = ⟨w.heap.size, 0 + j, none⟩ := by unfold Addr.add; split <;> simp_all
    rw [hadd, Nat.zero_add]
    have hn := heap_new w (.cells #[.int .i64 z] 3)
    cases j with
    | zero => simp at hj; subst hj; simp only [World.cell?, hn]; rfl
    | succ j => simp at hj) (fun u hu => by simp at hu; subst hu; rfl) (by unfold maxLen; omega) (by omega) (by simp; omega)
  obtain ⟨a, cap, rfl⟩ : ∃ a cap, v' = .slice a (st.length + 1) cap := own_shape h1
  refine ⟨a, cap, w', hrun, by simpa using h1, ((hga.but _).andThen h2 fun j hj => .inr hj), ?_⟩
  rcases h4 with h4 | h4
  · exact .inl h4
  · exact .inr ⟨_, h4, by simp⟩
theorem below_grown {w w' : World} (hB : Below w.heap.size w w') : w.grownBy w' none := ⟨hB.os, hB.tape, hB.output, hB.size, fun k hk _ => hB.block k hk⟩
/-- The law's two lists, keys and values, in rows of its own, apart; in w it began. -/
structure Ql (w wr : World) (kv vv : Value) (zs vs : List Int) : Prop where
  hk : wr.ownsRow (w.heap.size + 1) 3 1 kv zs.length (zs.map (Value.int .i64))
  hv : wr.ownsRow (w.heap.size + 1) 3 1 vv vs.length (vs.map (Value.int .i64))
  ap : ∀ k, kv.ownBlock = some k → vv.ownBlock ≠ some k
  be : Below w.heap.size w wr
  sz : w.heap.size + 1 ≤ wr.heap.size
theorem own_lo {w : World} {base t s n k : Nat} {v : Value} {cs : List Value} (h : w.ownsRow base t s v n cs) (hk : v.ownBlock = some k) : base ≤ k ∧ k < w.heap.size := by
  rcases h.2 with ⟨rfl, h0⟩ | ⟨g, cap, cur, rfl, hb, hg, _⟩
  · cases hk
  · simp [Value.ownBlock] at hk
    subst hk
    exact ⟨hb, (Array.getElem?_eq_some_iff.1 hg).1⟩
variable {w wr w2 : World} {kv vv : Value} {zs vs : List Int}
theorem Ql.start (w : World) (o : Obj) : Ql w (w.alloc o) (.slice none 0 0) (.slice none 0 0) [] [] :=
  ⟨World.ownsRow_nil _ _ _ _, World.ownsRow_nil _ _ _ _, (fun k h => by cases h), (Below.refl _ _).alloc (Nat.le_refl _) _, by simp⟩
theorem Ql.keep (h : Ql w wr kv vv zs vs) (hB : Below wr.heap.size wr w2) : Ql w w2 kv vv zs vs :=
  ⟨h.hk.kept (below_grown hB) (Classical.em _), h.hv.kept (below_grown hB) (Classical.em _), h.ap, h.be.trans (hB.mono (by have := h.sz; omega)), Nat.le_trans h.sz hB.size⟩
theorem Ql.al (h : Ql w wr kv vv zs vs) (o : Obj) : Ql w (wr.alloc o) kv vv zs vs := h.keep ((Below.refl _ _).alloc (Nat.le_refl _) _)
theorem Ql.addK (h : Ql w wr kv vv zs vs) (hl : zs.length ≤ 100000) (z : Int) (ty : TypeId) :
    ∃ a cap w', (Builtin.append_ #[22, 22] ty #[kv, .slice (some ⟨wr.heap.size, 0, none⟩) 1 1]).run Try.prog (wr.alloc (.cells #[.int .i64 z] 3)) = .ok (.slice a (zs.length + 1) cap) w' ∧ Ql w w' (.slice a (zs.length + 1) cap) vv (zs ++ [z]) vs ∧ wr.grownBy w' kv.ownBlock := by
  obtain ⟨a, cap, w', hrun, h1, h2, h4⟩ := run_append_int wr kv zs z h.hk h.sz hl ty
  refine ⟨a, cap, w', hrun, ⟨by simpa using h1, h.hv.kept h2 ?_, fun k hk => ?_, h.be.grown h2 (by have := h.sz; omega) (fun k hk => by have := own_lo h.hk hk; omega), Nat.le_trans h.sz h2.size⟩, h2⟩
  · cases e : vv.ownBlock with
    | none => exact .inl rfl
    | some k => exact .inr fun e2 => h.ap k e2.symm e
  · rcases h4 with h4 | ⟨k2, h4, h5⟩
    · exact h.ap k (h4 ▸ hk)
    · intro e
      have := own_lo h.hv e
      rw [h4] at hk
      cases hk
      omega
theorem Ql.addV (h : Ql w wr kv vv zs vs) (hl : vs.length ≤ 100000) (z : Int) (ty : TypeId) :
    ∃ a cap w', (Builtin.append_ #[22, 22] ty #[vv, .slice (some ⟨wr.heap.size, 0, none⟩) 1 1]).run Try.prog (wr.alloc (.cells #[.int .i64 z] 3)) = .ok (.slice a (vs.length + 1) cap) w' ∧ Ql w w' kv (.slice a (vs.length + 1) cap) zs (vs ++ [z]) ∧ wr.grownBy w' vv.ownBlock := by
  obtain ⟨a, cap, w', hrun, h1, h2, h4⟩ := run_append_int wr vv vs z h.hv h.sz hl ty
  refine ⟨a, cap, w', hrun, ⟨h.hk.kept h2 ?_, by simpa using h1, fun k hk e => ?_, h.be.grown h2 (by have := h.sz; omega) (fun k hk => by have := own_lo h.hv hk; omega), Nat.le_trans h.sz h2.size⟩, h2⟩
  · cases e : kv.ownBlock with
    | none => exact .inl rfl
    | some k => exact .inr fun e2 => h.ap k e e2.symm
  · rcases h4 with h4 | ⟨k2, h4, h5⟩
    · exact h.ap k hk (h4.symm.trans e)
    · have := own_lo h.hk hk
      rw [h4] at e
      cases e
      omega
/-- A row of one's own can be read. -/
theorem ins_own {base : Nat} {w : World} {v : Value} {zs : List Int} (h : w.ownsRow base 3 1 v zs.length (zs.map (Value.int .i64))) (hz : ∀ z ∈ zs, I64 z) : Ins w.heap.size w v zs := by
  refine ⟨?_, hz⟩
  rcases id h.2 with ⟨rfl, h0⟩ | ⟨g, cap, cur, rfl, hb, hg, hc, hm, _⟩
  · exact .inl ⟨.inl rfl, List.length_eq_zero_iff.1 h0⟩
  · refine .inr ⟨g, 0, cap, rfl, (Array.getElem?_eq_some_iff.1 hg).1, hc, hm, fun j hj => ?_⟩
    have e : (zs.map (Value.int .i64))[j]? = some (.int .i64 (zs[j]?.getD 0)) := by
      rw [List.getElem?_map, List.getElem?_eq_getElem hj]; rfl
    have := h.cells (g := g) rfl j _ e
    rwa [addr_add] at this
/-- What is counted of lists that have grown by one. -/
theorem cntL_app {zs vs : List Int} {n : Nat} (h1 : n ≤ zs.length) (h2 : n ≤ vs.length) (x y : Int) : cntL (zs ++ [x]) (vs ++ [y]) n = cntL zs vs n := by
  induction n with
  | zero => rfl
  | succ n ih =>
    simp only [cntL]
    rw [ih (by omega) (by omega), List.getElem?_append_left (by omega), List.getElem?_append_left (by omega)]
theorem cntL_one {zs vs : List Int} (h : vs.length = zs.length) {x y : Int} (hx : Siz x) (hy : Siz y) (hR : cntL zs vs zs.length ≤ 4000) :
    cntL (zs ++ [x]) (vs ++ [y]) (zs.length + 1) = cntL zs vs zs.length + (x + y) := by
  have hb := cntL_bd zs vs zs.length
  obtain ⟨_, _⟩ := hx
  obtain ⟨_, _⟩ := hy
  simp only [cntL]
  rw [cntL_app (Nat.le_refl _) (by omega)]
  rw [List.getElem?_append_right (Nat.le_refl _), List.getElem?_append_right (by omega)]
  simp only [Nat.sub_self, List.getElem?_cons_zero, Option.getD_some, h]
  unfold cnt1
  rw [bad_false (by assumption) (by assumption), bad_false (by assumption) (by assumption)]
  simp only [Bool.false_eq_true, if_false]
  omega
/-- Put of one key more that may be: there is no error just where the use behind it is right. -/
theorem putN_ok {k r : Int} (h : Rgt k r 0) {x y : Int} (hx : Siz x) (hy : Siz y) : putN k r 0 x 0 y = 0 ↔ Rgt (k + 1) (r + (x + y)) 0 := by
  unfold putN
  rw [if_neg (by rw [wrg3.2 ⟨hx, by decide, hy⟩]; decide), cg_zero (sml_key hx hy)]
  rw [show k - 0 + 1 = k + 1 by omega, show r - 0 + (x + y) = r + (x + y) by omega, show k - 0 = k by omega, show r - 0 = r by omega]
  exact ⟨fun h2 => h2.2.2, fun h2 => ⟨h, h, h2⟩⟩
end Go.Proofs.Ytlnikgejcogkeaa
