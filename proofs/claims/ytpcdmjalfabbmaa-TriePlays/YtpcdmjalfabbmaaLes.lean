/- cmp.Less of bytes; bytes in a row: read, stored. -/
import Derived.Test.YtpcdmjalfabbmaaCol
import Derived.BigRegion
import Derived.Laws.OwnMore
namespace Go.Proofs.Ytpcdmjalfabbmaa
open Go.RowKit Go.Shelf Go.IntWalk Go.Maps
set_option linter.unusedVariables false
theorem nan_any (w : World) (x : UInt8) : Calls Try.prog 72 #[u8 x] w fun r w' => r = .returned (.bool false) ∧ w' = w := by
  go_enter Try.func72, Try.ntmps72
  go_wp2
  go_ret
  simp
theorem u8_lt (x y : UInt8) : ((x.toNat : Int) < (y.toNat : Int)) = (x < y) := by
  rw [UInt8.lt_iff_toNat_lt]
  exact propext Int.ofNat_lt
theorem less_any (w : World) (x y : UInt8) : Calls Try.prog 62 #[u8 x, u8 y] w fun r w' => r = .returned (.bool (decide (x < y))) ∧ w' = w := by
  go_enter Try.func62, Try.ntmps62
  go_wp2_with fail
  refine (nan_any w x).mono ?_
  rintro r w' ⟨rfl, rfl⟩
  go_wp2
  go_ret
  simp [UInt8.lt_iff_toNat_lt]
theorem Br.at {w : World} {base : Nat} {a : Option Addr} {len cap : Nat} {ks : List UInt8} (h : Br w base (.slice a len cap) ks) {i : Nat} {e : UInt8} (hi : ks[i]? = some e) :
    ∃ g, a = some ⟨g, 0, none⟩ ∧ g < w.heap.size ∧ len = ks.length ∧ w.cell? ⟨g, i, none⟩ = some (u8 e) ∧ ∀ k, w.frozen? ⟨g, k, none⟩ = false := by
  have hl := (List.getElem?_eq_some_iff.1 hi).1
  rcases id h.2 with ⟨e1, h0⟩ | ⟨g, c, cur, e1, _, hg, _⟩
  · omega
  · simp only [Value.slice.injEq] at e1
    obtain ⟨rfl, rfl, rfl⟩ := e1
    have k1 := h.cells (g := g) rfl i (u8 e) (by simp [hi])
    rw [addr_add, Nat.zero_add] at k1
    exact ⟨g, rfl, (Array.getElem?_eq_some_iff.1 hg).1, rfl, k1, fun k => by simp [World.frozen?, hg]⟩
theorem Br.set {w : World} {base g len cap : Nat} {ks : List UInt8} (h : Br w base (.slice (some ⟨g, 0, none⟩) len cap) ks) (i : Nat) (c : UInt8) (hi : i < ks.length) :
    Br (w.setCell ⟨g, i, none⟩ (u8 c)) base (.slice (some ⟨g, 0, none⟩) len cap) (ks.set i c) := by
  have h1 : len = ks.length := by
    obtain ⟨a, cp, e⟩ := h.shape
    cases e
    rfl
  subst h1
  have h2 := (World.ownsRow.stored h i (u8 c)).1
  have e : (ks.set i c).length = ks.length := by simp
  unfold Br
  rw [List.map_set]
  simpa using h2
end Go.Proofs.Ytpcdmjalfabbmaa
