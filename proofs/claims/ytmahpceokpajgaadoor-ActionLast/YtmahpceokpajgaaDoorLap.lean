/- What the steps of ActionLast do. -/
import Derived.Test.YtmahpceokpajgaaDoorDox
namespace Go.Proofs.YtmahpceokpajgaaDoor
open Go.RowKit Go.IntWalk Go.Maps Go.Shelf
set_option linter.unusedVariables false
/-- The law's steps. -/
def lasS (k : K) (x y : Int) (d : Bool) : List Sp := [⟨1, k, [102, 105, 114, 115, 116], 0⟩, if d then ⟨2, k, [], 0⟩ else ⟨1, k, Lib.itoa x, 0⟩, ⟨3, k, [], y⟩, ⟨4, k, [], 0⟩]
def lasM (x : Int) (d : Bool) : Int := if d then 0 else x
/-- .. and what they write. -/
def lasW (k : K) (x y : Int) (d : Bool) : List Wr := [⟨k, bt [102, 105, 114, 115, 116], true⟩, if d then ⟨k, ⟨#[]⟩, false⟩ else ⟨k, bt (Lib.itoa x), true⟩, ⟨k, bt (sumK (some (lasM x d)) y), true⟩]
theorem las_wr {k : K} {x y : Int} {d : Bool} (hk : 1 ≤ k.length ∧ k.length ≤ 16) (hx : In64 x) : wrE (lasS k x y d) = 0 := by
  have hne : k.isEmpty = false := by cases k with
    | nil => simp at hk
    | cons a r => rfl
  have hl := itoa_len hx
  unfold wrE
  rw [if_pos (by simp [lasS]), if_pos]
  cases d <;> simp [lasS, rgt, hne, hk.2] <;> omega
theorem num48 : numOf [48] = some 0 := by decide +kernel
theorem las_add {k : K} {x : Int} {d : Bool} (hx : In64 x) (y : Int) : addO [] [⟨k, bt [102, 105, 114, 115, 116], true⟩, if d then ⟨k, ⟨#[]⟩, false⟩ else ⟨k, bt (Lib.itoa x), true⟩] ⟨3, k, [], y⟩ = some (lasM x d) := by
  unfold addO dval wlast
  cases d
  · simp [lasM, bt, numOf_itoa hx]
  · simp [lasM, num48]
theorem las_do {k : K} {x y : Int} {d : Bool} (hx : In64 x) : doX [] (lasS k x y d) [] [] = if sumE (some (lasM x d)) y = 0 then (0, lasW k x y d, [k]) else (sumE (some (lasM x d)) y, [], []) := by
  have h := las_add (k := k) (d := d) hx y
  cases d
  · simp only [Bool.false_eq_true, if_false] at h
    simp [lasS, lasW, doX, stE, stW, stC, h]
  · simp only [if_true] at h
    simp [lasS, lasW, doX, stE, stW, stC, h]
theorem las_all (k : K) (x y : Int) (d : Bool) : wrAll [] (lasW k x y d) = [⟨k, bt (sumK (some (lasM x d)) y)⟩] := by
  have hi : ¬ k < k := List.lt_irrefl k
  cases d <;> simp [lasW, wrAll, wrOne, putE, delE, hi]
theorem las_gt (k : K) (v : ByteArray) : gt [(⟨k, v⟩ : E)] k = some v := by simp [gt]
end Go.Proofs.YtmahpceokpajgaaDoor
