/- Steps, as the walks want them; Right. -/
import Derived.Test.YtmahpceokpajgaaDoorTxt
import Derived.RangeFuncRecord
namespace Go.Proofs.YtmahpceokpajgaaDoor
open Go.RowKit Go.IntWalk Go.Maps Go.Shelf
set_option linter.unusedVariables false
/-- A step. -/
structure Sp where
  kd : Int
  ky : K
  vl : K
  n : Int
def Sp.ok (x : Sp) : Prop := In64 x.kd ∧ x.ky.length ≤ maxLen ∧ x.vl.length ≤ maxLen ∧ In64 x.n
def Sp.val (x : Sp) : Value := .agg #[.int .i64 x.kd, .string (bt x.ky), .string (bt x.vl), .int .i64 x.n]
/-- A slice v of steps xs, in a block below n₀. -/
def Sps (n₀ : Nat) (W : World) (v : Value) (xs : List Sp) : Prop :=
  ((v = .slice none 0 0 ∨ ∃ ad cap, v = .slice (some ad) 0 cap) ∧ xs = []) ∨ ∃ b off cap, v = .slice (some ⟨b, off, none⟩) xs.length cap ∧ b < n₀ ∧ xs.length ≤ cap ∧ cap ≤ maxLen ∧
    ∀ (j : Nat) (x : Sp), xs[j]? = some x → x.ok ∧ W.cell? ⟨b, off + j * 4, none⟩ = some (.int .i64 x.kd) ∧ W.cell? ⟨b, off + j * 4 + 1, none⟩ = some (.string (bt x.ky)) ∧ W.cell? ⟨b, off + j * 4 + 2, none⟩ = some (.string (bt x.vl)) ∧ W.cell? ⟨b, off + j * 4 + 3, none⟩ = some (.int .i64 x.n)
theorem Sps.shape {n₀ : Nat} {W : World} {v : Value} {xs : List Sp} (h : Sps n₀ W v xs) : ∃ a cap, v = .slice a xs.length cap ∧ xs.length ≤ maxLen := by
  obtain ⟨rfl | ⟨ad, cap, rfl⟩, rfl⟩ | ⟨b, off, cap, rfl, _, h1, h2, _⟩ := id h
  · exact ⟨_, _, rfl, by simp⟩
  · exact ⟨_, _, rfl, by simp⟩
  · exact ⟨_, _, rfl, by omega⟩
theorem Sps.below {n₀ m : Nat} {A B : World} (h : Below m A B) {v : Value} {xs : List Sp} (k : Sps n₀ A v xs) (hm : n₀ ≤ m) : Sps n₀ B v xs := by
  rcases k with e | ⟨b, off, cap, e, hb, hl, hm', hc⟩
  · exact .inl e
  · have hbm : b < m := by omega
    exact .inr ⟨b, off, cap, e, hb, hl, hm', fun j x hj => ⟨(hc j x hj).1, (h.cell (p := ⟨b, off + j * 4, none⟩) hbm).trans (hc j x hj).2.1, (h.cell (p := ⟨b, off + j * 4 + 1, none⟩) hbm).trans (hc j x hj).2.2.1, (h.cell (p := ⟨b, off + j * 4 + 2, none⟩) hbm).trans (hc j x hj).2.2.2.1, (h.cell (p := ⟨b, off + j * 4 + 3, none⟩) hbm).trans (hc j x hj).2.2.2.2⟩⟩
theorem Sps.keep {n₀ : Nat} {A B : World} (h : A.grownBy B none) {v : Value} {xs : List Sp} (k : Sps n₀ A v xs) (hm : n₀ ≤ A.heap.size) : Sps n₀ B v xs := k.below (below_of' h) hm
theorem Sps.up {n₀ m : Nat} {A : World} {v : Value} {xs : List Sp} (k : Sps n₀ A v xs) (hm : n₀ ≤ m) : Sps m A v xs := by
  rcases k with e | ⟨b, off, cap, e, hb, r⟩
  · exact .inl e
  · exact .inr ⟨b, off, cap, e, by omega, r⟩
theorem Sps.at {n₀ : Nat} {W : World} {a : Option Addr} {len cap : Nat} {xs : List Sp} (h : Sps n₀ W (.slice a len cap) xs) {j : Nat} {x : Sp} (hj : xs[j]? = some x) :
    ∃ b off, a = some ⟨b, off, none⟩ ∧ b < n₀ ∧ x.ok ∧ W.cell? ⟨b, off + j * 4, none⟩ = some (.int .i64 x.kd) ∧ W.cell? ⟨b, off + j * 4 + 1, none⟩ = some (.string (bt x.ky)) ∧ W.cell? ⟨b, off + j * 4 + 2, none⟩ = some (.string (bt x.vl)) ∧ W.cell? ⟨b, off + j * 4 + 3, none⟩ = some (.int .i64 x.n) := by
  obtain ⟨_, rfl⟩ | ⟨b, off, c, e, hb, hl, hm, hc⟩ := h
  · simp at hj
  · simp only [Value.slice.injEq] at e
    exact ⟨b, off, e.1, hb, hc j x hj⟩
theorem cell_new (W : World) (cs : Array Value) (t : TypeId) {i : Nat} {v : Value} (h : cs[i]? = some v) : (W.alloc (.cells cs t)).cell? ⟨W.heap.size, i, none⟩ = some v := by
  have := World.alloc_heap_new W (.cells cs t)
  simp only [World.cell?, this]
  exact h
/-- Is a step right? -/
def rgt (x : Sp) : Bool := !x.ky.isEmpty && decide (x.ky.length ≤ 16) && decide (x.vl.length ≤ 60) && ((x.kd == 1 && x.n == 0) || (x.kd == 3 && x.vl.isEmpty) || ((x.kd == 2 || x.kd == 4) && (x.vl.isEmpty && x.n == 0)))
set_option maxRecDepth 100000 in
set_option maxHeartbeats 1000000 in
theorem right_any (w : World) (x : Sp) (hx : x.ok) {r : Bool} (hr : Hid (rgt x = r)) : Calls Tryd.prog 16 #[x.val] w fun e w' => e = .returned (.bool r) ∧ w.grownBy w' none := by
  obtain ⟨kd, ky, vl, n⟩ := x
  have hg := World.grownBy_alloc w (.cells #[.int .i64 kd, .string (bt ky), .string (bt vl), .int .i64 n] 36) none
  have z1 := bt_size ky
  have z2 := bt_size vl
  simp only [Sp.val]
  replace hg : Hid _ := ⟨hg⟩
  clear hx
  go_enter Tryd.func16, Tryd.ntmps16
  go_wp2
  all_goals
    go_ret
    refine ⟨?_, hg.out⟩
    rw [← hr.out]
    congr 2
    simp only [bt_toList, beq_iff_eq, beq_eq_false_iff_ne, ne_eq, List.isEmpty_iff] at *
    have g1 : ¬ (16 : Int) < (ky.length : Int) ↔ ky.length ≤ 16 := by omega
    have g2 : ¬ (60 : Int) < (vl.length : Int) ↔ vl.length ≤ 60 := by omega
    try simp_all [rgt]
    try (intros; omega)
end Go.Proofs.YtmahpceokpajgaaDoor
