/- What the law's alive returns, and regions that leave their order open and only read or call what adds memory. -/
import Derived.Test.YtecngalecbeajaaBase
import Derived.Deep.QuietTactic
import Derived.BigQuiet
namespace Go.Proofs.Ytecngalecbeajaa
open Go.RowKit Go.IntWalk
set_option linter.unusedVariables false

set_option maxRecDepth 100000 in
set_option maxHeartbeats 1000000 in
theorem alive_any (w : World) : Calls Try.prog 14 #[] w fun e w' => e = .returned (.bool true) ∧ Below w.heap.size w w' := by
  go_enter Try.func14, Try.ntmps14
  go_wp2_with fail
  refine (next_any 5 3 11 ⟨by decide, by decide⟩ ⟨by decide, by decide⟩ ⟨by decide, by decide⟩ _).mono ?_
  rintro x w1 ⟨rfl, hB1⟩
  rw [show nxt 5 3 11 = 14 from by decide, show isN 5 3 11 = true from by decide]
  go_wp2_with fail
  refine (count_any 5 3 11 ⟨by decide, by decide⟩ ⟨by decide, by decide⟩ ⟨by decide, by decide⟩ _).mono ?_
  rintro x w2 ⟨rfl, hB2⟩
  rw [show cnt 5 3 11 = 3 from by decide]
  go_wp2_with fail
  refine (plus_any 18446744073709551615 1 ⟨by decide, by decide⟩ ⟨by decide, by decide⟩ _).mono ?_
  rintro x w3 ⟨rfl, rfl⟩
  rw [show pls 18446744073709551615 1 = 18446744073709551615 from by decide]
  go_wp2
  go_ret
  exact ⟨rfl, hB1.trans (hB2.mono hB1.size)⟩

/-- A world in which whatever lay in w lies as it lay. -/
structure Lat (w : World) where
  W : World
  h : Below w.heap.size w W
theorem wp_region_lat {P : Program} {id : Nat} {Q : Exit → Act → World → Prop} {a : Act} {w : World} {l : List Oper} (hm : P.follows .mixedOrders = true) (hB : Region.lexB .any l.toArray = true)
    (h : wpQuiet P l.toArray (fun w' => ∃ p : Lat w, w' = p.W) (fun a' => ∀ w', (∃ p : Lat w, w' = p.W) → Q .normal a' w') l a) : (Code.region id l.toArray true).wp P Q a w :=
  wp_region_quiet (C := fun w' => ∃ p : Lat w, w' = p.W) hm hB ⟨⟨_, (Below.refl _ w).drew⟩, rfl⟩ (by simpa using h)
theorem lat_nonempty (w : World) : Nonempty (Lat w) := ⟨⟨w, Below.refl _ _⟩⟩
theorem lat_alive {w : World} (p : Lat w) : Calls Try.prog 14 #[] p.W fun e w'' => e = .returned (.bool true) ∧ ∃ p' : Lat w, w'' = p'.W :=
  (alive_any p.W).mono fun e w'' ⟨he, hB⟩ => ⟨he, ⟨w'', p.h.trans (hB.mono p.h.size)⟩, rfl⟩
theorem lat_count {w : World} {a e n : Int} (ha : U a) (he : U e) (hn : U n) {c : Int} (hc : Hid (cnt a e n = c)) (p : Lat w) : Calls Try.prog 15 #[.int .u64 a, .int .u64 e, .int .u64 n] p.W fun e w'' => e = .returned (.int .u64 c) ∧ ∃ p' : Lat w, w'' = p'.W :=
  (count_any a e n ha he hn p.W).mono fun e w'' ⟨he, hB⟩ => ⟨by rw [he, hc.out], ⟨w'', p.h.trans (hB.mono p.h.size)⟩, rfl⟩
theorem lat_rcount {w : World} {a e n : Int} (ha : U a) (he : U e) (hn : U n) {c : Int} (hc : Hid (cnt a e n = c)) (p : Lat w) : Calls Try.prog 16 #[.int .u64 a, .int .u64 e, .int .u64 n] p.W fun e w'' => e = .returned (.int .u64 c) ∧ ∃ p' : Lat w, w'' = p'.W :=
  (rcount_any a e n ha he hn p.W).mono fun e w'' ⟨he, hB⟩ => ⟨by rw [he, hc.out], p, hB.symm⟩
theorem lat_plus {w : World} {a b : Int} (ha : U a) (hb : U b) {c : Int} (hc : Hid (pls a b = c)) (p : Lat w) : Calls Try.prog 17 #[.int .u64 a, .int .u64 b] p.W fun e w'' => e = .returned (.int .u64 c) ∧ ∃ p' : Lat w, w'' = p'.W :=
  (plus_any a b ha hb p.W).mono fun e w'' ⟨he, hB⟩ => ⟨by rw [he, hc.out], p, hB.symm⟩
theorem lat_rplus {w : World} {a b : Int} (ha : U a) (hb : U b) {c : Int} (hc : Hid (pls a b = c)) (p : Lat w) : Calls Try.prog 18 #[.int .u64 a, .int .u64 b] p.W fun e w'' => e = .returned (.int .u64 c) ∧ ∃ p' : Lat w, w'' = p'.W :=
  (rplus_any a b ha hb p.W).mono fun e w'' ⟨he, hB⟩ => ⟨by rw [he, hc.out], p, hB.symm⟩
end Go.Proofs.Ytecngalecbeajaa
