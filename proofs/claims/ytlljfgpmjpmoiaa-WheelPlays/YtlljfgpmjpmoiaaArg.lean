/- A script of acts, and a list of ticks, as the walks want them. -/
import Derived.Test.YtlljfgpmjpmoiaaLive
namespace Go.Proofs.Ytlljfgpmjpmoiaa
open Go.RowKit Go.IntWalk Go.Maps Go.Shelf
set_option linter.unusedVariables false
def Ac.cells (x : Ac) : List Value := [.int .i64 x.kd, .string x.nm, .int .u64 x.at_, .int .u64 x.by_]
/-- A slice v of acts xs, in a block below n₀. -/
def Acs (n₀ : Nat) (W : World) (v : Value) (xs : List Ac) : Prop :=
  ((v = .slice none 0 0 ∨ ∃ ad cap, v = .slice (some ad) 0 cap) ∧ xs = []) ∨ ∃ b off cap, v = .slice (some ⟨b, off, none⟩) xs.length cap ∧ b < n₀ ∧ xs.length ≤ cap ∧ cap ≤ maxLen ∧
    ∀ (j : Nat) (x : Ac), xs[j]? = some x → x.ok ∧ W.cell? ⟨b, off + j * 4, none⟩ = some (.int .i64 x.kd) ∧ W.cell? ⟨b, off + j * 4 + 1, none⟩ = some (.string x.nm) ∧ W.cell? ⟨b, off + j * 4 + 2, none⟩ = some (.int .u64 x.at_) ∧ W.cell? ⟨b, off + j * 4 + 3, none⟩ = some (.int .u64 x.by_)
theorem Acs.shape {n₀ : Nat} {W : World} {v : Value} {xs : List Ac} (h : Acs n₀ W v xs) : ∃ a cap, v = .slice a xs.length cap ∧ xs.length ≤ maxLen := by
  obtain ⟨rfl | ⟨ad, cap, rfl⟩, rfl⟩ | ⟨b, off, cap, rfl, _, h1, h2, _⟩ := id h
  · exact ⟨_, _, rfl, by simp⟩
  · exact ⟨_, _, rfl, by simp⟩
  · exact ⟨_, _, rfl, by omega⟩
theorem Acs.below {n₀ : Nat} {A B : World} (h : Below n₀ A B) {v : Value} {xs : List Ac} (k : Acs n₀ A v xs) : Acs n₀ B v xs := by
  rcases k with e | ⟨b, off, cap, e, hb, hl, hm, hc⟩
  · exact .inl e
  · exact .inr ⟨b, off, cap, e, hb, hl, hm, fun j x hj => ⟨(hc j x hj).1, (h.cell (p := ⟨b, off + j * 4, none⟩) hb).trans (hc j x hj).2.1, (h.cell (p := ⟨b, off + j * 4 + 1, none⟩) hb).trans (hc j x hj).2.2.1, (h.cell (p := ⟨b, off + j * 4 + 2, none⟩) hb).trans (hc j x hj).2.2.2.1, (h.cell (p := ⟨b, off + j * 4 + 3, none⟩) hb).trans (hc j x hj).2.2.2.2⟩⟩
theorem Acs.at {n₀ : Nat} {W : World} {a : Option Addr} {len cap : Nat} {xs : List Ac} (h : Acs n₀ W (.slice a len cap) xs) {j : Nat} {x : Ac} (hj : xs[j]? = some x) :
    ∃ b off, a = some ⟨b, off, none⟩ ∧ b < n₀ ∧ x.ok ∧ W.cell? ⟨b, off + j * 4, none⟩ = some (.int .i64 x.kd) ∧ W.cell? ⟨b, off + j * 4 + 1, none⟩ = some (.string x.nm) ∧ W.cell? ⟨b, off + j * 4 + 2, none⟩ = some (.int .u64 x.at_) ∧ W.cell? ⟨b, off + j * 4 + 3, none⟩ = some (.int .u64 x.by_) := by
  obtain ⟨_, rfl⟩ | ⟨b, off, c, e, hb, hl, hm, hc⟩ := h
  · simp at hj
  · simp only [Value.slice.injEq] at e
    exact ⟨b, off, e.1, hb, hc j x hj⟩
/-- A slice v of ticks ys, in a block below n₀. -/
def Us (n₀ : Nat) (W : World) (v : Value) (ys : List Int) : Prop :=
  ((v = .slice none 0 0 ∨ ∃ ad cap, v = .slice (some ad) 0 cap) ∧ ys = []) ∨ ∃ b off cap, v = .slice (some ⟨b, off, none⟩) ys.length cap ∧ b < n₀ ∧ ys.length ≤ cap ∧ cap ≤ maxLen ∧
    ∀ (j : Nat) (y : Int), ys[j]? = some y → (0 ≤ y ∧ y < 18446744073709551616) ∧ W.cell? ⟨b, off + j, none⟩ = some (.int .u64 y)
theorem Us.shape {n₀ : Nat} {W : World} {v : Value} {ys : List Int} (h : Us n₀ W v ys) : ∃ a cap, v = .slice a ys.length cap ∧ ys.length ≤ maxLen := by
  obtain ⟨rfl | ⟨ad, cap, rfl⟩, rfl⟩ | ⟨b, off, cap, rfl, _, h1, h2, _⟩ := id h
  · exact ⟨_, _, rfl, by simp⟩
  · exact ⟨_, _, rfl, by simp⟩
  · exact ⟨_, _, rfl, by omega⟩
theorem Us.below {n₀ : Nat} {A B : World} (h : Below n₀ A B) {v : Value} {ys : List Int} (k : Us n₀ A v ys) : Us n₀ B v ys := by
  rcases k with e | ⟨b, off, cap, e, hb, hl, hm, hc⟩
  · exact .inl e
  · exact .inr ⟨b, off, cap, e, hb, hl, hm, fun j y hj => ⟨(hc j y hj).1, (h.cell (p := ⟨b, off + j, none⟩) hb).trans (hc j y hj).2⟩⟩
theorem Us.at {n₀ : Nat} {W : World} {a : Option Addr} {len cap : Nat} {ys : List Int} (h : Us n₀ W (.slice a len cap) ys) {j : Nat} {y : Int} (hj : ys[j]? = some y) :
    ∃ b off, a = some ⟨b, off, none⟩ ∧ b < n₀ ∧ (0 ≤ y ∧ y < 18446744073709551616) ∧ W.cell? ⟨b, off + j, none⟩ = some (.int .u64 y) := by
  obtain ⟨_, rfl⟩ | ⟨b, off, c, e, hb, hl, hm, hc⟩ := h
  · simp at hj
  · simp only [Value.slice.injEq] at e
    exact ⟨b, off, e.1, hb, hc j y hj⟩
end Go.Proofs.Ytlljfgpmjpmoiaa
