/- What the listed variables hold; a world for the witness. -/
import Derived.Test.YtmahpceokpajgaaDoorRows
import Derived.Test.YtmahpceokpajgaaDoorNmb
import Derived.ProofKit
import Derived.LaidMore
import Derived.OpenShut
import Derived.Stop.Joined
import Derived.Lib.LaidTab
import Derived.Stop.LaidErr
import Derived.MakeChecks
namespace Go.Proofs.YtmahpceokpajgaaDoor
open Go.ChangeShapes Go.WideShapes Go.ChangeAt Go.WideMaps Go.WideElems Go.RowKit
set_option linter.unusedVariables false
theorem ownK : ownKnob Tryd.prog.godebug = none := by kernel_rfl
/-- The list of the rows. -/
def laid5 {H : Type} : List (String × DataW H) := [("math/bits.deBruijn32tab", Rows.laid_math_bits_deBruijn32tab), ("math/bits.deBruijn64tab", Rows.laid_math_bits_deBruijn64tab), ("internal/strconv.uint64pow10", Rows.laid_internal_strconv_uint64pow10), ("strconv.ErrRange", Rows.laid_strconv_ErrRange), ("strconv.ErrSyntax", Rows.laid_strconv_ErrSyntax)]
theorem tyEs : (Tryd.prog.globals[1]?).map (·.type) = some 95 := by kernel_rfl
theorem tyEr : (Tryd.prog.globals[2]?).map (·.type) = some 95 := by kernel_rfl
theorem tyTb : (Tryd.prog.globals[0]?).map (·.type) = some 130 := by kernel_rfl
theorem cl145 : Tryd.prog.cellsOf 145 = 1 := by kernel_rfl
theorem cl9 : Tryd.prog.cellsOf 9 = 1 := by kernel_rfl
theorem cl93 : Tryd.prog.cellsOf 93 = 1 := by kernel_rfl
theorem cl130 : Tryd.prog.cellsOf 130 = 20 := by kernel_rfl
theorem star : "*" ++ "errors.errorString" = "*errors.errorString" := by decide
theorem row143 (u : TypeId) (h : Tryd.prog.typeName? 3 u = some "*errors.errorString") : u = 143 :=
  typeName_ptr_named (nm := "errors.errorString") (by rw [star]; kernel_rfl) (by kernel_rfl) (by decide) u (by rw [star]; exact h)
theorem of_laid {W : World} (h : laidMetH Tryd.prog laid5 W) : Dr W := by
  rw [MakeChecks.laidMetH_plain _ _ _ (by kernel_rfl)] at h
  have h3 := h.tail.tail
  have hT : Lib.TabIs Tryd.prog W "internal/strconv.uint64pow10" .u64 Lib.pow10Tab := Lib.tabIs_of_head gTb tyTb Tryd.underlying130 Tryd.underlying93 cl93 cl130 h3
  obtain ⟨a0, s0, v0, _⟩ := laid_sentinel h3.tail gEr tyEr Tryd.underlying95 row143 Tryd.underlying143 Tryd.underlying145 rfl rfl Tryd.underlying9 cl145 cl9
  obtain ⟨a1, s1, v1, _⟩ := laid_sentinel h3.tail.tail gEs tyEs Tryd.underlying95 row143 Tryd.underlying143 Tryd.underlying145 rfl rfl Tryd.underlying9 cl145 cl9
  exact ⟨⟨_, _, v1⟩, ⟨_, _, v0⟩, hT⟩
theorem door_met (os : Os) (args : Array Value) : laidMetH Tryd.prog laid5 ((World.doorLaid Tryd.prog 2000 os).forCall (fun _ _ => 0) ⟨#[], args, []⟩).memory :=
  laidMetH_of_parts3 (fuel := 8) (laidMet_of_run' 8 (by kernel_rfl) (by kernel_rfl)) (by kernel_rfl) (by kernel_rfl)
theorem door_shaped (os : Os) (args : Array Value) : ((World.doorLaid Tryd.prog 2000 os).forCall (fun _ _ => 0) ⟨#[], args, []⟩).Shaped Tryd.prog := World.shaped_of_RefB (by kernel_rfl) (by kernel_rfl)
theorem laidOut : laidOutB Tryd.prog = true := by kernel_rfl
theorem i64_in {a : Int} (h : (Lit.int .i64 a).wf = true) : In64 a := by
  have e1 : IntKind.i64.min = -9223372036854775808 := rfl
  have e2 : IntKind.i64.max = 9223372036854775807 := rfl
  simp [Lit.wf, e1, e2] at h
  constructor <;> omega
end Go.Proofs.YtmahpceokpajgaaDoor
