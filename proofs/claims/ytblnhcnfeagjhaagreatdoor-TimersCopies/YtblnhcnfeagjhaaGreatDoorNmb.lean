/- The variable of the library: a table of powers of ten. -/
import Derived.Test.YtblnhcnfeagjhaaGreatDoorLay
import Derived.Test.YtblnhcnfeagjhaaGreatDoorBase
import Derived.Test.YtblnhcnfeagjhaaGreatDoorNum
import Derived.Lib.SmallJoins
namespace Go.Proofs.YtblnhcnfeagjhaaGreatDoor
open Go.RowKit Go.IntWalk Go.Maps Go.Shelf
set_option linter.unusedVariables false
theorem gTb : Tryz.prog.globalNamed "internal/strconv.uint64pow10" = some 0 := by kernel_rfl
/-- What the library's variable holds. -/
structure Dr (w : World) : Prop where
  tb : Lib.TabIs Tryz.prog w "internal/strconv.uint64pow10" .u64 Lib.pow10Tab
theorem Dr.below {w w' : World} {B : Nat} (h : Dr w) (hb : Below B w w') (hB : w.heap.size ≤ B) : Dr w' := ⟨Go.Joins.var_stays gTb h.tb hb hB⟩
theorem grown_of {w w' : World} (h : Below w.heap.size w w') : w.grownBy w' none := ⟨h.os, h.tape, h.output, h.size, fun k hk _ => h.block k hk⟩
theorem below_of' {w w' : World} (h : w.grownBy w' none) : Below w.heap.size w w' := ⟨h.os, h.tape, h.output, h.size, fun k hk => h.block k hk (by simp)⟩
theorem Dr.keep {w w' : World} (h : Dr w) (hg : w.grownBy w' none) : Dr w' := h.below (below_of' hg) (Nat.le_refl _)
theorem grown_grow (w : World) (k : Nat) (os : Array Obj) : w.grownBy (Sort.grow (w.drewN k) os) none := ⟨rfl, rfl, rfl, by show w.heap.size ≤ (w.heap ++ os).size; simp, fun j hj _ => by show (w.heap ++ os)[j]? = w.heap[j]?; rw [Array.getElem?_append_left hj]⟩
theorem str_eq (a b : K) : ((bt a).toList == (bt b).toList) = decide (a = b) := by
  rw [bt_toList, bt_toList, Bool.eq_iff_iff]
  simp only [beq_iff_eq, decide_eq_true_eq]
end Go.Proofs.YtblnhcnfeagjhaaGreatDoor
