/- A script of acts, as the walks want it. -/
import Derived.Test.YtpcdmjalfabbmaaLiv
namespace Go.Proofs.Ytpcdmjalfabbmaa
open Go.RowKit Go.IntWalk Go.Maps Go.Shelf
set_option linter.unusedVariables false
/-- An act: its kind, key and value. -/
structure Ac where
  kd : Int
  ky : K
  vl : ByteArray
def Ac.ok (x : Ac) : Prop := (-9223372036854775808 ≤ x.kd ∧ x.kd < 9223372036854775808) ∧ x.ky.length ≤ maxLen ∧ x.vl.size ≤ maxLen
def Ac.cells (x : Ac) : List Value := [.int .i64 x.kd, .string (bt x.ky), .string x.vl]
/-- A prefix, how many, a key. -/
structure Oq where
  pf : K
  mo : Int
  ky : K
def Oq.ok (x : Oq) : Prop := (-9223372036854775808 ≤ x.mo ∧ x.mo < 9223372036854775808) ∧ x.pf.length ≤ maxLen ∧ x.ky.length ≤ maxLen
def Oq.cells (x : Oq) : List Value := [.string (bt x.pf), .int .i64 x.mo, .string (bt x.ky)]
/-- A slice v of acts xs, in a block below n₀. -/
def Acs (n₀ : Nat) (W : World) (v : Value) (xs : List Ac) : Prop :=
  ((v = .slice none 0 0 ∨ ∃ ad cap, v = .slice (some ad) 0 cap) ∧ xs = []) ∨ ∃ b off cap, v = .slice (some ⟨b, off, none⟩) xs.length cap ∧ b < n₀ ∧ xs.length ≤ cap ∧ cap ≤ maxLen ∧
    ∀ (j : Nat) (x : Ac), xs[j]? = some x → x.ok ∧ W.cell? ⟨b, off + j * 3, none⟩ = some (.int .i64 x.kd) ∧ W.cell? ⟨b, off + j * 3 + 1, none⟩ = some (.string (bt x.ky)) ∧ W.cell? ⟨b, off + j * 3 + 2, none⟩ = some (.string x.vl)
theorem Acs.shape {n₀ : Nat} {W : World} {v : Value} {xs : List Ac} (h : Acs n₀ W v xs) : ∃ a cap, v = .slice a xs.length cap ∧ xs.length ≤ maxLen := by
  obtain ⟨rfl | ⟨ad, cap, rfl⟩, rfl⟩ | ⟨b, off, cap, rfl, _, h1, h2, _⟩ := id h
  · exact ⟨_, _, rfl, by simp⟩
  · exact ⟨_, _, rfl, by simp⟩
  · exact ⟨_, _, rfl, by omega⟩
theorem Acs.below {n₀ : Nat} {A B : World} (h : Below n₀ A B) {v : Value} {xs : List Ac} (k : Acs n₀ A v xs) : Acs n₀ B v xs := by
  rcases k with e | ⟨b, off, cap, e, hb, hl, hm, hc⟩
  · exact .inl e
  · exact .inr ⟨b, off, cap, e, hb, hl, hm, fun j x hj => ⟨(hc j x hj).1, (h.cell (p := ⟨b, off + j * 3, none⟩) hb).trans (hc j x hj).2.1, (h.cell (p := ⟨b, off + j * 3 + 1, none⟩) hb).trans (hc j x hj).2.2.1, (h.cell (p := ⟨b, off + j * 3 + 2, none⟩) hb).trans (hc j x hj).2.2.2⟩⟩
theorem Acs.at {n₀ : Nat} {W : World} {a : Option Addr} {len cap : Nat} {xs : List Ac} (h : Acs n₀ W (.slice a len cap) xs) {j : Nat} {x : Ac} (hj : xs[j]? = some x) :
    ∃ b off, a = some ⟨b, off, none⟩ ∧ b < n₀ ∧ x.ok ∧ W.cell? ⟨b, off + j * 3, none⟩ = some (.int .i64 x.kd) ∧ W.cell? ⟨b, off + j * 3 + 1, none⟩ = some (.string (bt x.ky)) ∧ W.cell? ⟨b, off + j * 3 + 2, none⟩ = some (.string x.vl) := by
  obtain ⟨_, rfl⟩ | ⟨b, off, c, e, hb, hl, hm, hc⟩ := h
  · simp at hj
  · simp only [Value.slice.injEq] at e
    exact ⟨b, off, e.1, hb, hc j x hj⟩
end Go.Proofs.Ytpcdmjalfabbmaa
