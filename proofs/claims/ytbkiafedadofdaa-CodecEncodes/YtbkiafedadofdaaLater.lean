/- A region that leaves its order open, whose operations only read what lay before it, and whose callees change nothing of that: one walk in the text's order serves every order. The class of worlds: those in which whatever lay in w lies as it lay. -/
import Derived.Test.YtbkiafedadofdaaLists
import Derived.Deep.QuietTactic
import Derived.BigQuiet
namespace Go.Proofs.Ytbkiafedadofdaa
open Go.RowKit
set_option linter.unusedVariables false

/-- A world in which whatever lay in w lies as it lay. -/
structure Lat (w : World) where
  W : World
  h : Below w.heap.size w W
theorem wp_region_lat {P : Program} {id : Nat} {Q : Exit → Act → World → Prop} {a : Act} {w : World} {l : List Oper} (hm : P.follows .mixedOrders = true) (hB : Region.lexB .any l.toArray = true)
    (h : wpQuiet P l.toArray (fun w' => ∃ p : Lat w, w' = p.W) (fun a' => ∀ w', (∃ p : Lat w, w' = p.W) → Q .normal a' w') l a) : (Code.region id l.toArray true).wp P Q a w :=
  wp_region_quiet (C := fun w' => ∃ p : Lat w, w' = p.W) hm hB ⟨⟨_, (Below.refl _ w).drew⟩, rfl⟩ (by simpa using h)
theorem lat_nonempty (w : World) : Nonempty (Lat w) := ⟨⟨w, Below.refl _ _⟩⟩
theorem lat_cell {w : World} {b o : Nat} {v : Value} (h : w.cell? ⟨b, o, none⟩ = some v) (p : Lat w) : p.W.cell? ⟨b, o, none⟩ = some v := (p.h.cell (p := ⟨b, o, none⟩) (World.block_lt_of_cell? w _ h)).trans h
theorem lat_conv {w : World} {v : Value} {zs : List Int} {A : ByteArray} (h : Bts w.heap.size w v zs) (HA : Hid (strOfNums zs = A)) (p : Lat w) : (convert 23 9 v).run Try.prog p.W = .ok (.string A) p.W := by
  rw [← HA.out]; exact run_conv (h.below p.h)
theorem lat_alive {w : World} (p : Lat w) : Calls Try.prog 10 #[] p.W fun e w'' => e = .returned (.bool true) ∧ ∃ p' : Lat w, w'' = p'.W :=
  (alive_any p.W).mono fun e w'' ⟨he, hB⟩ => ⟨he, ⟨w'', p.h.trans (hB.mono p.h.size)⟩, rfl⟩
end Go.Proofs.Ytbkiafedadofdaa
