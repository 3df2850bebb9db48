/- A region that leaves its order open, whose operations only read what lay before it, and whose callees change nothing of that: one walk in the text's order serves every order. -/
import Derived.Test.YtmhpbemfejkdaaaLive
import Derived.Deep.QuietTactic
import Derived.BigQuiet
namespace Go.Proofs.Ytmhpbemfejkdaaa
open Go.RowKit
set_option linter.unusedVariables false

/-- A world in which whatever lay in w lies as it lay. -/
structure Lat (w : World) where
  W : World
  h : w.grownBy W none
theorem wp_region_lat {P : Program} {id : Nat} {Q : Exit → Act → World → Prop} {a : Act} {w : World} {l : List Oper} (hm : P.follows .mixedOrders = true) (hB : Region.lexB .any l.toArray = true)
    (h : wpQuiet P l.toArray (fun w' => ∃ p : Lat w, w' = p.W) (fun a' => ∀ w', (∃ p : Lat w, w' = p.W) → Q .normal a' w') l a) : (Code.region id l.toArray true).wp P Q a w :=
  wp_region_quiet (C := fun w' => ∃ p : Lat w, w' = p.W) hm hB ⟨⟨_, grown_drew w⟩, rfl⟩ (by simpa using h)
theorem lat_nonempty (w : World) : Nonempty (Lat w) := ⟨⟨w, grown_refl _⟩⟩
theorem lat_cell {w : World} {b o : Nat} {v : Value} (h : w.cell? ⟨b, o, none⟩ = some v) (p : Lat w) : p.W.cell? ⟨b, o, none⟩ = some v := grown_cell p.h h
theorem lat_conv {w : World} {v : Value} {zs : List Int} {A : ByteArray} (h : Bts w.heap.size w v zs) (HA : Hid (A = strOfNums zs)) (p : Lat w) : (convert 27 9 v).run Try.prog p.W = .ok (.string A) p.W := by
  rw [HA.out]; exact run_conv (h.grown0 p.h)
theorem lat_alive {w : World} (p : Lat w) : Calls Try.prog 24 #[] p.W fun e w'' => e = .returned (.bool true) ∧ ∃ p' : Lat w, w'' = p'.W :=
  (alive_any p.W).mono fun e w'' ⟨he, hB⟩ => ⟨he, ⟨w'', grown_none p.h hB⟩, rfl⟩
theorem lat_safe {w : World} {sb bm : Nat} {N : Nat → Prop} {l : List Sg} {root : List Int} (h : Dsk w sb bm N l root) {n : Int} {x : Sg} (hx : getS n l = some x) (p : Lat w) :
    Calls Try.prog 26 #[.pointer (some ⟨sb, 0, none⟩), .int .i64 n] p.W fun e w'' => e = .returned (.int .i64 x.s) ∧ ∃ p' : Lat w, w'' = p'.W :=
  (safe_some p.W (h.grown0 p.h) hx).mono fun e w'' ⟨he, hB⟩ => ⟨he, ⟨w'', grown_none p.h hB⟩, rfl⟩
end Go.Proofs.Ytmhpbemfejkdaaa
