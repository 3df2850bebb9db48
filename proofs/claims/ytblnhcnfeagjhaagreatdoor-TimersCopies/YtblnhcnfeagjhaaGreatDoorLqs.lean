/- A table in a loop that puts entries into its queue, appends to a row of its own and makes other blocks. -/
import Derived.Test.YtblnhcnfeagjhaaGreatDoorDut
namespace Go.Proofs.YtblnhcnfeagjhaaGreatDoor
open Go.RowKit Go.IntWalk Go.Maps Go.Shelf
set_option linter.unusedVariables false
/-- The loop's memory: the table, a row dv that is gone through, a row nv that grows. -/
structure Lq (Y : Nat → Prop) (w wr : World) (S : Nat → Prop) (tb mb wb qb : Nat) (S1 : Nat → Prop) (t : Int) (M : List Tmr) (L1 : List W.E) (L2 : List Q.E) (dv nv : Value) : Prop where
  ex : ∃ S2, Tb wr tb mb wb qb S1 S2 t M L1 L2 ∧ (∀ k, S2 k → Gw S w wr k) ∧ (∀ k, dv.ownBlock = some k → ¬ S2 k) ∧ (∀ k, nv.ownBlock = some k → ¬ S2 k) ∧ (∀ k, Y k → ¬ S2 k)
  kp : Kp S w wr
  fp : ∀ k, fpT tb mb S1 (fun _ => False) M k → S k
  sl : ∀ k, S k → k < w.heap.size
  dn : ∀ k, dv.ownBlock = some k → w.heap.size ≤ k ∧ k < wr.heap.size
  nn : ∀ k, nv.ownBlock = some k → w.heap.size ≤ k ∧ k < wr.heap.size
  ap : ∀ k, dv.ownBlock = some k → nv.ownBlock ≠ some k
  yn : ∀ k, Y k → w.heap.size ≤ k ∧ k < wr.heap.size
  yp : ∀ k, Y k → nv.ownBlock ≠ some k
section
variable {Y : Nat → Prop} {w wr w' : World} {S : Nat → Prop} {tb mb wb qb : Nat} {S1 : Nat → Prop} {t : Int} {M : List Tmr} {L1 : List W.E} {L2 : List Q.E} {dv nv : Value}
theorem Lq.put (h : Lq Y w wr S tb mb wb qb S1 t M L1 L2 dv nv) (hg : wr.grownBy w' none) (n : ByteArray) (a : Int) (hn : n.size ≤ maxLen) (ha : 0 ≤ a ∧ a < 18446744073709551616) (hl : L2.length < 100000) :
    Calls Tryz.prog 46 #[ptr qb, .string n, .int .u64 a] w' fun r w5 => (∃ b, r = .returned (.bool b)) ∧ Lq Y w w5 S tb mb wb qb S1 t M L1 (Q.putE ⟨n, a⟩ L2) dv nv ∧ (∀ j, (dv.ownBlock = some j ∨ nv.ownBlock = some j ∨ Y j ∨ (wr.heap.size ≤ j ∧ j < w'.heap.size)) → w5.heap[j]? = w'.heap[j]?) := by
  obtain ⟨S2, h1, h2, h3, h4, h9⟩ := h.ex
  have hs := hg.size
  have hT := h1.keep hg
  refine (Q.put_any w' hT.qu ⟨n, a⟩ ⟨hn, ha⟩ hl).mono ?_
  rintro r w5 ⟨rfl, h5, h6⟩
  have hs5 := h6.size
  have hkp := h.kp.size
  refine ⟨⟨_, rfl⟩, ⟨⟨Q.Gw S2 w' w5, hT.queue h6 h5, ?_, ?_, ?_, ?_⟩, ?_, h.fp, h.sl, ?_, ?_, h.ap, ?_, h.yp⟩, ?_⟩
  · intro k hk
    rcases hk with hk | hk
    · exact (h2 k hk).imp id fun e => ⟨e.1, by omega⟩
    · exact .inr ⟨by omega, hk.2⟩
  · intro k hk e
    have := h.dn k hk
    rcases e with e | e
    · exact h3 k hk e
    · omega
  · intro k hk e
    have := h.nn k hk
    rcases e with e | e
    · exact h4 k hk e
    · omega
  · intro k hk e
    have := h.yn k hk
    rcases e with e | e
    · exact h9 k hk e
    · omega
  · refine (h.kp.trans (Kp.of0 (C := S) hg) (fun _ _ h => h)).trans (kpQ h6) fun k hl hk => ?_
    rcases h2 k hk with e | e
    · exact e
    · omega
  · intro k hk
    have := h.dn k hk
    exact ⟨this.1, by omega⟩
  · intro k hk
    have := h.nn k hk
    exact ⟨this.1, by omega⟩
  · intro k hk
    have := h.yn k hk
    exact ⟨this.1, by omega⟩
  · intro j hj
    rcases hj with hj | hj | hj | hj
    · exact h6.block j (by have := h.dn j hj; omega) (h3 j hj)
    · exact h6.block j (by have := h.nn j hj; omega) (h4 j hj)
    · exact h6.block j (by have := h.yn j hj; omega) (h9 j hj)
    · exact h6.block j hj.2 fun e => by have := (h1.s2 j e).1; omega
theorem Lq.app {Y' : Nat → Prop} (h : Lq Y w wr S tb mb wb qb S1 t M L1 L2 dv nv) {nv' : Value} (hg : wr.grownBy w' nv.ownBlock) (ho : nv'.ownBlock = nv.ownBlock ∨ ∃ k, nv'.ownBlock = some k ∧ wr.heap.size ≤ k) (hl : ∀ k, nv'.ownBlock = some k → k < w'.heap.size) (hY' : ∀ k, Y' k → Y k ∨ (wr.heap.size ≤ k ∧ k < w'.heap.size ∧ nv'.ownBlock ≠ some k)) :
    Lq Y' w w' S tb mb wb qb S1 t M L1 L2 dv nv' ∧ ∀ j, dv.ownBlock = some j ∨ Y j → w'.heap[j]? = wr.heap[j]? := by
  obtain ⟨S2, h1, h2, h3, h4, h9⟩ := h.ex
  have hs := hg.size
  have hkp := h.kp.size
  have hne : ∀ k, S k → some k ≠ nv.ownBlock := fun k hk e => by have := h.sl k hk; have := (h.nn k e.symm).1; omega
  refine ⟨⟨⟨S2, h1.kept hs fun k hk hl => hg.block k hl ?_, ?_, h3, ?_, fun k hk => (hY' k hk).elim (h9 k) fun e hS => by have := (h1.s2 k hS).1; omega⟩, ?_, h.fp, h.sl, ?_, ?_, ?_, ?_, ?_⟩, ?_⟩
  · rcases hk with rfl | rfl | hk | hk | hk
    · exact hne _ (h.fp _ (.inl rfl))
    · exact hne _ (h.fp _ (.inr (.inl rfl)))
    · exact hne _ (h.fp _ (.inr (.inr (.inl hk))))
    · exact fun e => h4 k e.symm hk
    · exact hne _ (h.fp _ (.inr (.inr (.inr (.inr hk)))))
  · intro k hk
    exact (h2 k hk).imp id fun e => ⟨e.1, by omega⟩
  · intro k hk e
    rcases ho with ho | ⟨j, hj, hjl⟩
    · exact h4 k (ho ▸ hk) e
    · rw [hj] at hk; cases hk
      have := (h1.s2 k e).1
      omega
  · exact ⟨hg.os.trans h.kp.os, hg.tape.trans h.kp.tape, hg.output.trans h.kp.output, Nat.le_trans hkp hs, fun i hi hn => (hg.block i (by omega) fun e => by have := (h.nn i e.symm).1; omega).trans (h.kp.block i hi hn)⟩
  · intro k hk
    have := h.dn k hk
    exact ⟨this.1, by omega⟩
  · intro k hk
    refine ⟨?_, hl k hk⟩
    rcases ho with ho | ⟨j, hj, hjl⟩
    · exact (h.nn k (ho ▸ hk)).1
    · rw [hj] at hk; cases hk; omega
  · intro k hk e
    rcases ho with ho | ⟨j, hj, hjl⟩
    · exact h.ap k hk (ho ▸ e)
    · rw [hj] at e; cases e
      have := (h.dn k hk).2
      omega
  · intro k hk
    rcases hY' k hk with hk | hk
    · have := h.yn k hk
      exact ⟨this.1, by omega⟩
    · exact ⟨by omega, hk.2.1⟩
  · intro k hk e
    rcases hY' k hk with hk | hk
    · rcases ho with ho | ⟨j, hj, hjl⟩
      · exact h.yp k hk (ho ▸ e)
      · rw [hj] at e; cases e
        have := (h.yn k hk).2
        omega
    · exact hk.2.2 e
  · intro j hj
    rcases hj with hj | hj
    · exact hg.block j (h.dn j hj).2 fun e => h.ap j hj e.symm
    · exact hg.block j (h.yn j hj).2 fun e => h.yp j hj e.symm
/-- More blocks that are not the table's. -/
theorem Lq.more {Y' : Nat → Prop} (h : Lq Y w wr S tb mb wb qb S1 t M L1 L2 dv nv) (hY : ∀ S2, Tb wr tb mb wb qb S1 S2 t M L1 L2 → (∀ k, S2 k → ¬ Y k) → ∀ k, Y' k → Y k ∨ (¬ S2 k ∧ w.heap.size ≤ k ∧ k < wr.heap.size ∧ nv.ownBlock ≠ some k)) : Lq Y' w wr S tb mb wb qb S1 t M L1 L2 dv nv := by
  obtain ⟨S2, h1, h2, h3, h4, h9⟩ := h.ex
  have hY2 := hY S2 h1 fun k hk e => h9 k e hk
  refine ⟨⟨S2, h1, h2, h3, h4, fun k hk => ?_⟩, h.kp, h.fp, h.sl, h.dn, h.nn, h.ap, fun k hk => ?_, fun k hk => ?_⟩
  · rcases hY2 k hk with e | e
    · exact h9 k e
    · exact e.1
  · rcases hY2 k hk with e | e
    · exact h.yn k e
    · exact ⟨e.2.1, e.2.2.1⟩
  · rcases hY2 k hk with e | e
    · exact h.yp k e
    · exact e.2.2.2
end
end Go.Proofs.YtblnhcnfeagjhaaGreatDoor
