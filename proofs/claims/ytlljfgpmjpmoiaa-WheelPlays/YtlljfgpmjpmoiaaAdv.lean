/- Advance of a wheel. -/
import Derived.Test.YtlljfgpmjpmoiaaLoo
namespace Go.Proofs.Ytlljfgpmjpmoiaa
open Go.RowKit Go.IntWalk Go.Maps Go.Shelf
set_option linter.unusedVariables false
/-- What is due, and what is not. -/
def due (t : Int) (L : List E) : List E := L.filter fun x => decide (x.at_ ≤ t)
def rst (t : Int) (L : List E) : List E := L.filter fun x => decide (t < x.at_)
theorem mem_due {t : Int} {L : List E} {x : E} : x ∈ due t L ↔ x ∈ L ∧ x.at_ ≤ t := by simp [due]
theorem mem_rst {t : Int} {L : List E} {x : E} : x ∈ rst t L ↔ x ∈ L ∧ t < x.at_ := by simp [rst]
theorem Srt.due {L : List E} (h : Srt L) (t : Int) : Srt (due t L) := h.sub List.filter_sublist
theorem Srt.rst {L : List E} (h : Srt L) (t : Int) : Srt (rst t L) := h.sub List.filter_sublist
/-- k timers of those that were loose have been gone through. -/
structure Ad (S : Nat → Prop) (w wr : World) (wb bd : Nat) (bs : Nat → Nat) (t : Int) (L : List E) (c : Nat → List E) (v : Value) (M : List E) (k : Nat) (d : Value) (D : List E) : Prop where
  wf : ∃ Lk ck, Wf wr wb bd bs t Lk ck ∧ Srt Lk ∧ (∀ x, x ∈ Lk ↔ x ∈ L ∧ ¬ (x ∈ M.take k ∧ x.at_ ≤ t)) ∧ ∀ i, i < 65 → ∀ x, x ∈ ck i ↔ x ∈ c i ∨ (x ∈ M.take k ∧ t < x.at_ ∧ pE t x = i)
  row : Rw 52 wr v M
  rod : Rw 52 wr d D
  de : D = due t (M.take k)
  nev : ∀ j, v.ownBlock = some j → w.heap.size ≤ j
  ned : ∀ j, d.ownBlock = some j → w.heap.size ≤ j ∧ v.ownBlock ≠ some j
  kp : Kp S w wr
theorem take_mem {M : List E} {k : Nat} {x y : E} (hx : M[k]? = some x) : y ∈ M.take (k + 1) ↔ y ∈ M.take k ∨ y = x := by
  rw [List.take_add_one, hx]
  simp
section
variable {S : Nat → Prop} {w wr w1 w2 : World} {wb bd : Nat} {bs : Nat → Nat} {t : Int} {L : List E} {c : Nat → List E} {v d d' : Value} {M D : List E} {k : Nat} {x : E}
/-- One that is not due stands anew. -/
theorem Ad.stand (h : Ad S w wr wb bd bs t L c v M k d D) (hS : ∀ j, fpw wb bd bs j → S j) (hSl : ∀ j, S j → j < w.heap.size) (hx : M[k]? = some x) (hxt : t < x.at_) {l : List E} {Lk : List E} {ck : Nat → List E} (hg1 : wr.grownBy w1 none)
    (hW : Wf wr wb bd bs t Lk ck) (hLs : Srt Lk) (hLm : ∀ y, y ∈ Lk ↔ y ∈ L ∧ ¬ (y ∈ M.take k ∧ y.at_ ≤ t)) (hck : ∀ i, i < 65 → ∀ y, y ∈ ck i ↔ y ∈ c i ∨ (y ∈ M.take k ∧ t < y.at_ ∧ pE t y = i))
    (hs : Sset w2 (bs (pE t x)) l) (hm : ∀ y, y ∈ l ↔ y = x ∨ y ∈ ck (pE t x)) (hg2 : w1.grownBy w2 (some (bs (pE t x)))) : Ad S w w2 wb bd bs t L c v M (k + 1) d D := by
  have hp : pE t x < 65 := plc_lt
  have hbS := hS _ (.inr (.inr ⟨_, hp, rfl⟩))
  have hbl := hSl _ hbS
  refine ⟨⟨Lk, fun i => if i = pE t x then l else ck i, (hW.keep hg1).turnSet hp hg2 hs fun j hj => rfl, hLs, fun y => ?_, fun i hi y => ?_⟩, ?_, ?_, ?_, h.nev, h.ned, (h.kp.on (Kp.of0 hg1)).on (Kp.set hg2 hbS)⟩
  · rw [hLm, take_mem hx]
    constructor
    · rintro ⟨a, b⟩
      refine ⟨a, ?_⟩
      rintro ⟨e | e, f⟩
      · exact b ⟨e, f⟩
      · subst e; omega
    · rintro ⟨a, b⟩
      exact ⟨a, fun e => b ⟨.inl e.1, e.2⟩⟩
  · rw [take_mem hx]
    by_cases e : i = pE t x
    · subst e
      simp only [if_true]
      rw [hm, hck _ hp]
      constructor
      · rintro (e | e | e)
        · subst e; exact .inr ⟨.inr rfl, hxt, rfl⟩
        · exact .inl e
        · exact .inr ⟨.inl e.1, e.2⟩
      · rintro (e | ⟨e | e, f⟩)
        · exact .inr (.inl e)
        · exact .inr (.inr ⟨e, f⟩)
        · exact .inl e
    · simp only [e, if_false]
      rw [hck i hi]
      constructor
      · rintro (e | e)
        · exact .inl e
        · exact .inr ⟨.inl e.1, e.2⟩
      · rintro (e2 | ⟨e2 | e2, f⟩)
        · exact .inl e2
        · exact .inr ⟨e2, f⟩
        · subst e2; exact absurd f.2.symm e
  · exact World.ownsRow.kept (World.ownsRow.kept h.row hg1 (Classical.em _)) hg2 (.inr fun e => by have := h.nev _ e; omega)
  · exact World.ownsRow.kept (World.ownsRow.kept h.rod hg1 (Classical.em _)) hg2 (.inr fun e => by have := (h.ned _ e).1; omega)
  · rw [h.de, List.take_add_one, hx]
    have : ¬ x.at_ ≤ t := by omega
    simp [due, this]
/-- One that is due is taken out. -/
theorem Ad.take (h : Ad S w wr wb bd bs t L c v M k d D) (hS : ∀ j, fpw wb bd bs j → S j) (hSl : ∀ j, S j → j < w.heap.size) (hxL : x ∈ L) (hun : ∀ y ∈ L, y.n = x.n → y = x) (hx : M[k]? = some x) (hxt : x.at_ ≤ t) {Lk : List E} {ck : Nat → List E} {wa wc wd : World} (hg1 : wr.grownBy wa none)
    (hW : Wf wr wb bd bs t Lk ck) (hLs : Srt Lk) (hLm : ∀ y, y ∈ Lk ↔ y ∈ L ∧ ¬ (y ∈ M.take k ∧ y.at_ ≤ t)) (hck : ∀ i, i < 65 → ∀ y, y ∈ ck i ↔ y ∈ c i ∨ (y ∈ M.take k ∧ t < y.at_ ∧ pE t y = i))
    (hd : Dl wc bd (delN x.n Lk)) (hg2 : wa.grownBy wc (some bd)) (hg3 : wc.grownBy wd none) (hr : Rw 52 w2 d' (D ++ [x])) (hg4 : wd.grownBy w2 d.ownBlock) (ho : d'.ownBlock = d.ownBlock ∨ ∃ j, d'.ownBlock = some j ∧ wd.heap.size ≤ j) : Ad S w w2 wb bd bs t L c v M (k + 1) d' (D ++ [x]) := by
  have hbS := hS _ (.inr (.inl rfl))
  have hbl := hSl _ hbS
  have hwr := h.kp.size
  have hwa := hg1.size
  have hwc := hg2.size
  have hwd := hg3.size
  have hrow : Rw 52 wd v M := World.ownsRow.kept (World.ownsRow.kept (World.ownsRow.kept h.row hg1 (Classical.em _)) hg2 (.inr fun e => by have := h.nev _ e; omega)) hg3 (Classical.em _)
  have hvl : ∀ j, v.ownBlock = some j → j < wr.heap.size := fun j hj => (h.row.lt j hj).2
  have w1 : Wf wd wb bd bs t (delN x.n Lk) ck := ((hW.keep hg1).turnDl hg2 hd).keep hg3
  refine ⟨⟨delN x.n Lk, ck, w1.kept fun j hj => hg4.block j (w1.fpl j hj) fun e => ?_, hLs.del _, fun y => ?_, fun i hi y => ?_⟩, ?_, hr, ?_, h.nev, fun j hj => ?_, ?_⟩
  · have h1 := (h.ned j e.symm).1
    have h2 := hSl j (hS j hj)
    omega
  · rw [mem_delN, hLm, take_mem hx]
    constructor
    · rintro ⟨⟨a, b⟩, cn⟩
      refine ⟨a, ?_⟩
      rintro ⟨e | e, f⟩
      · exact b ⟨e, f⟩
      · subst e; exact cn rfl
    · rintro ⟨a, b⟩
      exact ⟨⟨a, fun e => b ⟨.inl e.1, e.2⟩⟩, fun en => b ⟨.inr (hun y a en), by rw [hun y a en]; exact hxt⟩⟩
  · rw [hck i hi, take_mem hx]
    constructor
    · rintro (e | e)
      · exact .inl e
      · exact .inr ⟨.inl e.1, e.2⟩
    · rintro (e2 | ⟨e2 | e2, f⟩)
      · exact .inl e2
      · exact .inr ⟨e2, f⟩
      · subst e2
        have := f.1
        omega
  · refine World.ownsRow.kept hrow hg4 ?_
    cases hv : v.ownBlock with
    | none => exact .inl rfl
    | some j => exact .inr fun e => (h.ned j e.symm).2 hv
  · rw [h.de, List.take_add_one, hx]
    simp [due, hxt]
  · rcases ho with ho | ⟨i, hi, hil⟩
    · exact h.ned j (by rw [← ho]; exact hj)
    · rw [hi] at hj
      cases hj
      exact ⟨by omega, fun e => by have := hvl _ e; omega⟩
  · refine (((h.kp.on (Kp.of0 hg1)).on (Kp.set hg2 hbS)).on (Kp.of0 hg3)).trans (Kp.of (C := fun j => w.heap.size ≤ j) hg4 fun j hj => (h.ned j hj).1) fun i hi h2 => ?_
    omega
end
end Go.Proofs.Ytlljfgpmjpmoiaa
