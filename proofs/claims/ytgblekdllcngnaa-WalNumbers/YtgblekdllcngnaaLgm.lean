/- A log in memory: its struct, its row of starts, its disk; what turns of it, and what is kept. -/
import Derived.Test.YtgblekdllcngnaaPowe
import Derived.Maps.AppendAt
namespace Go.Proofs.Ytgblekdllcngnaa
open Go.RowKit Go.IntWalk Go.Maps
set_option linter.unusedVariables false

/-- What lies in blocks of which M is true lies as it lay. -/
structure Kpt (M : Nat → Prop) (w w' : World) : Prop where
  os : w'.os = w.os
  tape : w'.tape = w.tape
  output : w'.output = w.output
  size : w.heap.size ≤ w'.heap.size
  block : ∀ k, M k → w'.heap[k]? = w.heap[k]?
theorem Kpt.refl (M : Nat → Prop) (w : World) : Kpt M w w := ⟨rfl, rfl, rfl, Nat.le_refl _, fun _ _ => rfl⟩
theorem Kpt.trans {M : Nat → Prop} {a b c : World} (h : Kpt M a b) (k : Kpt M b c) : Kpt M a c := ⟨k.os.trans h.os, k.tape.trans h.tape, k.output.trans h.output, Nat.le_trans h.size k.size, fun i hi => (k.block i hi).trans (h.block i hi)⟩
theorem Kpt.of {M : Nat → Prop} {w w' : World} {row : Option Nat} (hg : w.grownBy w' row) (hm : ∀ k, M k → k < w.heap.size) (hr : ∀ k, row = some k → ¬ M k) : Kpt M w w' :=
  ⟨hg.os, hg.tape, hg.output, hg.size, fun k hk => hg.block k (hm k hk) (fun e => hr k e.symm hk)⟩
theorem Kpt.mono {M M' : Nat → Prop} {w w' : World} (h : Kpt M w w') (hm : ∀ k, M' k → M k) : Kpt M' w w' := ⟨h.os, h.tape, h.output, h.size, fun k hk => h.block k (hm k hk)⟩
theorem Kpt.below {M : Nat → Prop} {n : Nat} {w w' : World} (h : Kpt M w w') (hm : ∀ k, k < n → M k) : Below n w w' := ⟨h.os, h.tape, h.output, h.size, fun k hk => h.block k (hm k hk)⟩
/-- The blocks in which the disk's bytes may lie. -/
def Nof (M : Nat → Prop) (lb sb bm : Nat) (sv : Value) (k : Nat) : Prop := k ≠ lb ∧ k ≠ sb ∧ k ≠ bm ∧ sv.ownBlock ≠ some k ∧ ¬ M k
/-- A log: block lb is its struct, sv its starts, sb and bm its disk; it keeps off blocks of which M is true. -/
structure Lgd (M : Nat → Prop) (w : World) (lb sb bm : Nat) (sv : Value) (l : List Sg) (root : List Int) (seg : Int) (st : List Int) (size next forced : Int) : Prop where
  blk : w.heap[lb]? = some (.cells #[.pointer (some ⟨sb, 0, none⟩), .int .i64 seg, sv, .int .i64 size, .int .i64 next, .int .i64 forced] 57 (0, 0))
  row : w.ownsRow 0 3 1 sv st.length (st.map (Value.int .i64))
  dsk : Dsk w sb bm (Nof M lb sb bm sv) l root
  ne1 : lb ≠ sb
  ne2 : lb ≠ bm
  nrow : ∀ k, sv.ownBlock = some k → k ≠ lb ∧ k ≠ sb ∧ k ≠ bm ∧ ¬ M k
  m1 : ¬ M lb
  m2 : ¬ M sb
  m3 : ¬ M bm
  mlt : ∀ k, M k → k < w.heap.size
theorem own_shape {w : World} {sv : Value} {st : List Int} (h : w.ownsRow 0 3 1 sv st.length (st.map (Value.int .i64))) : ∃ a cap, sv = .slice a st.length cap ∧ st.length ≤ 9223372036854775807 := by
  rcases h.2 with ⟨rfl, h0⟩ | ⟨g, cap, cur, rfl, hb, hg, hn, hm, hs, ht⟩
  · exact ⟨none, 0, by rw [h0], by omega⟩
  · exact ⟨_, _, rfl, by unfold maxLen at hm; omega⟩
section
variable {M : Nat → Prop} {w w' : World} {lb sb bm : Nat} {sv : Value} {l l' : List Sg} {root root' : List Int} {seg : Int} {st : List Int} {size next forced : Int}
theorem Lgd.lbl (h : Lgd M w lb sb bm sv l root seg st size next forced) : lb < w.heap.size := (Array.getElem?_eq_some_iff.1 h.blk).1
theorem Lgd.rowl (h : Lgd M w lb sb bm sv l root seg st size next forced) : ∀ k, sv.ownBlock = some k → k < w.heap.size := fun k hk => (h.row.lt k hk).2
theorem Lgd.c0 (h : Lgd M w lb sb bm sv l root seg st size next forced) : w.cell? ⟨lb, 0, none⟩ = some (.pointer (some ⟨sb, 0, none⟩)) := by simp [World.cell?, h.blk]
theorem Lgd.c1 (h : Lgd M w lb sb bm sv l root seg st size next forced) : w.cell? ⟨lb, 1, none⟩ = some (.int .i64 seg) := by simp [World.cell?, h.blk]
theorem Lgd.c2 (h : Lgd M w lb sb bm sv l root seg st size next forced) : w.cell? ⟨lb, 2, none⟩ = some sv := by simp [World.cell?, h.blk]
theorem Lgd.c3 (h : Lgd M w lb sb bm sv l root seg st size next forced) : w.cell? ⟨lb, 3, none⟩ = some (.int .i64 size) := by simp [World.cell?, h.blk]
theorem Lgd.c4 (h : Lgd M w lb sb bm sv l root seg st size next forced) : w.cell? ⟨lb, 4, none⟩ = some (.int .i64 next) := by simp [World.cell?, h.blk]
theorem Lgd.c5 (h : Lgd M w lb sb bm sv l root seg st size next forced) : w.cell? ⟨lb, 5, none⟩ = some (.int .i64 forced) := by simp [World.cell?, h.blk]
theorem Lgd.fz (h : Lgd M w lb sb bm sv l root seg st size next forced) (i : Nat) : w.frozen? ⟨lb, i, none⟩ = false := by simp [World.frozen?, h.blk]
theorem Lgd.keep (h : Lgd M w lb sb bm sv l root seg st size next forced) (hg : w.grownBy w' none) : Lgd M w' lb sb bm sv l root seg st size next forced :=
  ⟨(hg.block lb h.lbl (by simp)).trans h.blk, h.row.kept hg (Classical.em _), h.dsk.grown0 hg, h.ne1, h.ne2, h.nrow, h.m1, h.m2, h.m3, fun k hk => Nat.lt_of_lt_of_le (h.mlt k hk) hg.size⟩
theorem Lgd.kpt0 (h : Lgd M w lb sb bm sv l root seg st size next forced) (hg : w.grownBy w' none) : Kpt M w w' := Kpt.of hg h.mlt (by simp)
theorem Dsk.wide' {W : World} (hd : Dsk w' sb bm (Nof M lb sb bm sv) l' root') (hg : W.grownBy w' (some bm)) (h : Lgd M W lb sb bm sv l root seg st size next forced) : Dsk w' sb bm (Or_ (Nof M lb sb bm sv) W) l' root' :=
  hd.mono (fun k hk => .inl hk) h.dsk.wide.nsb h.dsk.wide.nbm
/-- The disk's map has turned. -/
theorem Lgd.disk (h : Lgd M w lb sb bm sv l root seg st size next forced) (hg : w.grownBy w' (some bm)) (hd : Dsk w' sb bm (Or_ (Nof M lb sb bm sv) w) l' root) : Lgd M w' lb sb bm sv l' root seg st size next forced := by
  refine ⟨(hg.block lb h.lbl (fun e => h.ne2 (by cases e; rfl))).trans h.blk, h.row.kept hg ?_, ?_, h.ne1, h.ne2, h.nrow, h.m1, h.m2, h.m3, fun k hk => Nat.lt_of_lt_of_le (h.mlt k hk) hg.size⟩
  · exact .inr fun e => (h.nrow bm e).2.2.1 rfl
  · refine hd.mono (fun k hk => ?_) (fun e => e.2.1 rfl) (fun e => e.2.2.1 rfl)
    rcases hk with hk | hk
    · exact hk
    · refine ⟨fun e => ?_, fun e => ?_, fun e => ?_, fun e => ?_, fun e => by have := h.mlt k e; omega⟩
      · have := h.lbl; omega
      · have := h.dsk.sbl; omega
      · have := h.dsk.bml; omega
      · have := h.rowl k e; omega
theorem Lgd.kptm (h : Lgd M w lb sb bm sv l root seg st size next forced) (hg : w.grownBy w' (some bm)) : Kpt M w w' := Kpt.of hg h.mlt fun k hk => by cases hk; exact h.m3
/-- The disk's root has turned. -/
theorem Lgd.swap (h : Lgd M w lb sb bm sv l root seg st size next forced) (hg : w.grownBy w' (some sb)) (hd : Dsk w' sb bm (Or_ (Nof M lb sb bm sv) w) l root') : Lgd M w' lb sb bm sv l root' seg st size next forced := by
  refine ⟨(hg.block lb h.lbl (fun e => h.ne1 (by cases e; rfl))).trans h.blk, h.row.kept hg ?_, ?_, h.ne1, h.ne2, h.nrow, h.m1, h.m2, h.m3, fun k hk => Nat.lt_of_lt_of_le (h.mlt k hk) hg.size⟩
  · exact .inr fun e => (h.nrow sb e).2.1 rfl
  · refine hd.mono (fun k hk => ?_) (fun e => e.2.1 rfl) (fun e => e.2.2.1 rfl)
    rcases hk with hk | hk
    · exact hk
    · refine ⟨fun e => ?_, fun e => ?_, fun e => ?_, fun e => ?_, fun e => by have := h.mlt k e; omega⟩
      · have := h.lbl; omega
      · have := h.dsk.sbl; omega
      · have := h.dsk.bml; omega
      · have := h.rowl k e; omega
theorem Lgd.kpts (h : Lgd M w lb sb bm sv l root seg st size next forced) (hg : w.grownBy w' (some sb)) : Kpt M w w' := Kpt.of hg h.mlt fun k hk => by cases hk; exact h.m2
theorem heap_set {W : World} {B : Nat} {cs : Array Value} {t : TypeId} (h : W.heap[B]? = some (.cells cs t (0, 0))) (i : Nat) (v : Value) : (W.setCell ⟨B, i, none⟩ v).heap[B]? = some (.cells (cs.setIfInBounds i v) t (0, 0)) := by
  simp [World.setCell, Array.getElem?_modify, h]
/-- The struct has turned, the starts as they were. -/
theorem Lgd.cell (h : Lgd M w lb sb bm sv l root seg st size next forced) (i : Nat) (v : Value) {seg' size' next' forced' : Int}
    (he : (#[.pointer (some ⟨sb, 0, none⟩), .int .i64 seg, sv, .int .i64 size, .int .i64 next, .int .i64 forced] : Array Value).setIfInBounds i v = #[.pointer (some ⟨sb, 0, none⟩), .int .i64 seg', sv, .int .i64 size', .int .i64 next', .int .i64 forced']) :
    Lgd M (w.setCell ⟨lb, i, none⟩ v) lb sb bm sv l root seg' st size' next' forced' ∧ Kpt M w (w.setCell ⟨lb, i, none⟩ v) := by
  have hg := grown_setCell w ⟨lb, i, none⟩ v
  refine ⟨⟨by rw [heap_set h.blk, he], h.row.kept hg ?_, h.dsk.grown hg ?_ ?_ ?_, h.ne1, h.ne2, h.nrow, h.m1, h.m2, h.m3, fun k hk => by simpa using h.mlt k hk⟩, Kpt.of hg h.mlt fun k hk => by cases hk; exact h.m1⟩
  · exact .inr fun e => (h.nrow lb e).1 rfl
  · exact fun e => h.ne1 (by cases e; rfl)
  · exact fun e => h.ne2 (by cases e; rfl)
  · exact fun k hk e => by cases hk; exact e.1 rfl
/-- Of what is kept off, less. -/
theorem Lgd.less {M' : Nat → Prop} (h : Lgd M w lb sb bm sv l root seg st size next forced) (hm : ∀ k, M' k → M k) : Lgd M' w lb sb bm sv l root seg st size next forced :=
  ⟨h.blk, h.row, h.dsk.mono (fun k hk => ⟨hk.1, hk.2.1, hk.2.2.1, hk.2.2.2.1, fun e => hk.2.2.2.2 (hm k e)⟩) (fun e => e.2.1 rfl) (fun e => e.2.2.1 rfl), h.ne1, h.ne2, fun k hk => ⟨(h.nrow k hk).1, (h.nrow k hk).2.1, (h.nrow k hk).2.2.1, fun e => (h.nrow k hk).2.2.2 (hm k e)⟩, fun e => h.m1 (hm _ e), fun e => h.m2 (hm _ e), fun e => h.m3 (hm _ e), fun k hk => h.mlt k (hm k hk)⟩
/-- What has been made since is kept off, too. -/
def And_ (M : Nat → Prop) (w w' : World) (k : Nat) : Prop := M k ∨ (w.heap.size ≤ k ∧ k < w'.heap.size)
theorem Lgd.more (h : Lgd M w lb sb bm sv l root seg st size next forced) (hg : w.grownBy w' none) : Lgd (And_ M w w') w' lb sb bm sv l root seg st size next forced := by
  have k := h.keep hg
  refine ⟨k.blk, k.row, (h.dsk.low.grown0 hg).mono (fun i hi => ⟨hi.1.1, hi.1.2.1, hi.1.2.2.1, hi.1.2.2.2.1, fun e => e.elim hi.1.2.2.2.2 (fun e => by have := hi.2; omega)⟩) (fun e => e.2.1 rfl) (fun e => e.2.2.1 rfl), k.ne1, k.ne2, fun i hi => ⟨(k.nrow i hi).1, (k.nrow i hi).2.1, (k.nrow i hi).2.2.1, ?_⟩, ?_, ?_, ?_, ?_⟩
  · rintro (e | e)
    · exact (k.nrow i hi).2.2.2 e
    · have := h.rowl i hi; omega
  · rintro (e | e)
    · exact k.m1 e
    · have := h.lbl; omega
  · rintro (e | e)
    · exact k.m2 e
    · have := h.dsk.sbl; omega
  · rintro (e | e)
    · exact k.m3 e
    · have := h.dsk.bml; omega
  · rintro i (e | e)
    · exact k.mlt i e
    · exact e.2
/-- A block that is kept off has turned, and memory was made. -/
theorem Lgd.foreign {row : Option Nat} (h : Lgd M w lb sb bm sv l root seg st size next forced) (hg : w.grownBy w' row) (hr : ∀ k, row = some k → M k) : Lgd (And_ M w w') w' lb sb bm sv l root seg st size next forced := by
  have n1 : ∀ k, ¬ M k → some k ≠ row := fun k hk e => hk (hr k e.symm)
  refine ⟨(hg.block lb h.lbl (n1 lb h.m1)).trans h.blk, h.row.kept hg ?_, ?_, h.ne1, h.ne2, fun i hi => ⟨(h.nrow i hi).1, (h.nrow i hi).2.1, (h.nrow i hi).2.2.1, ?_⟩, ?_, ?_, ?_, ?_⟩
  · cases hs : sv.ownBlock with
    | none => exact .inl rfl
    | some k => exact .inr fun e => n1 k (h.nrow k hs).2.2.2 e
  · refine (h.dsk.low.grown hg (n1 sb h.m2) (n1 bm h.m3) (fun k hk e => e.1.2.2.2.2 (hr k hk))).mono (fun i hi => ⟨hi.1.1, hi.1.2.1, hi.1.2.2.1, hi.1.2.2.2.1, fun e => e.elim hi.1.2.2.2.2 (fun e => by have := hi.2; omega)⟩) (fun e => e.2.1 rfl) (fun e => e.2.2.1 rfl)
  · rintro (e | e)
    · exact (h.nrow i hi).2.2.2 e
    · have := h.rowl i hi; omega
  · rintro (e | e)
    · exact h.m1 e
    · have := h.lbl; omega
  · rintro (e | e)
    · exact h.m2 e
    · have := h.dsk.sbl; omega
  · rintro (e | e)
    · exact h.m3 e
    · have := h.dsk.bml; omega
  · rintro i (e | e)
    · exact Nat.lt_of_lt_of_le (h.mlt i e) hg.size
    · exact e.2
/-- The struct has turned, and the starts: they lie where they lay, or in new memory. -/
theorem Lgd.starts (h : Lgd M w lb sb bm sv l root seg st size next forced) {sv' : Value} {st' : List Int} (hrow : w'.ownsRow 0 3 1 sv' st'.length (st'.map (Value.int .i64))) (hg : w.grownBy w' sv.ownBlock) (ho : sv'.ownBlock = sv.ownBlock ∨ ∃ k, sv'.ownBlock = some k ∧ w.heap.size ≤ k) :
    Lgd M (w'.setCell ⟨lb, 2, none⟩ sv') lb sb bm sv' l root seg st' size next forced ∧ Kpt M w (w'.setCell ⟨lb, 2, none⟩ sv') ∧ w'.cell? ⟨lb, 2, none⟩ = some sv ∧ w'.frozen? ⟨lb, 2, none⟩ = false ∧ w'.cell? ⟨lb, 4, none⟩ = some (.int .i64 next) := by
  have hb1 : w'.heap[lb]? = _ := (hg.block lb h.lbl (fun e => (h.nrow lb e.symm).1 rfl)).trans h.blk
  have hg2 := grown_setCell w' ⟨lb, 2, none⟩ sv'
  have hn : ∀ k, sv'.ownBlock = some k → k ≠ lb ∧ k ≠ sb ∧ k ≠ bm ∧ ¬ M k := by
    intro k hk
    rcases ho with ho | ⟨j, hj, hjl⟩
    · exact h.nrow k (by rw [← ho, hk])
    · rw [hj] at hk; cases hk
      exact ⟨by have := h.lbl; omega, by have := h.dsk.sbl; omega, by have := h.dsk.bml; omega, fun e => by have := h.mlt _ e; omega⟩
  have hd1 : Dsk w' sb bm (Nof M lb sb bm sv) l root := h.dsk.grown hg (fun e => (h.nrow sb e.symm).2.1 rfl) (fun e => (h.nrow bm e.symm).2.2.1 rfl) (fun k hk e => e.2.2.2.1 hk)
  have hd2 : Dsk w' sb bm (Nof M lb sb bm sv') l root := by
    have hlo : Dsk w' sb bm (fun i => Nof M lb sb bm sv i ∧ i < w.heap.size) l root := by
      exact h.dsk.low.grown hg (fun e => (h.nrow sb e.symm).2.1 rfl) (fun e => (h.nrow bm e.symm).2.2.1 rfl) (fun k hk e => e.1.2.2.2.1 hk)
    refine hlo.mono (fun k hk => ⟨hk.1.1, hk.1.2.1, hk.1.2.2.1, fun e => ?_, hk.1.2.2.2.2⟩) (fun e => e.2.1 rfl) (fun e => e.2.2.1 rfl)
    rcases ho with ho | ⟨j, hj, hjl⟩
    · exact hk.1.2.2.2.1 (by rw [← ho]; exact e)
    · rw [hj] at e; cases e; have := hk.2; omega
  refine ⟨⟨?_, ?_, ?_, h.ne1, h.ne2, hn, h.m1, h.m2, h.m3, fun k hk => ?_⟩, ?_, ?_, ?_, ?_⟩
  · rw [heap_set hb1]; rfl
  · exact hrow.kept hg2 (.inr fun e => (hn lb e).1 rfl)
  · exact hd2.grown hg2 (fun e => h.ne1 (by cases e; rfl)) (fun e => h.ne2 (by cases e; rfl)) (fun k hk e => by cases hk; exact e.1 rfl)
  · have := h.mlt k hk; have := hg.size; simp; omega
  · exact (Kpt.of hg h.mlt fun k hk => (h.nrow k hk).2.2.2).trans (Kpt.of hg2 (fun k hk => Nat.lt_of_lt_of_le (h.mlt k hk) hg.size) fun k hk => by cases hk; exact h.m1)
  · simp [World.cell?, hb1]
  · simp [World.frozen?, hb1]
  · simp [World.cell?, hb1]
theorem Bts.kpt {v : Value} {zs : List Int} (h : Bts w.heap.size w v zs) (hk : Kpt M w w') (hm : ∀ b off len cap, v = .slice (some ⟨b, off, none⟩) len cap → M b) : Bts w'.heap.size w' v zs := by
  obtain ⟨e | ⟨b, off, cap, e, hb, hl, hmx, hc⟩, hz⟩ := h
  · exact ⟨.inl e, hz⟩
  · refine ⟨.inr ⟨b, off, cap, e, Nat.lt_of_lt_of_le hb hk.size, hl, hmx, fun j hj => ?_⟩, hz⟩
    have := hk.block b (hm b off _ cap e)
    rw [← hc j hj]
    simp [World.cell?, this]
end
end Go.Proofs.Ytgblekdllcngnaa
