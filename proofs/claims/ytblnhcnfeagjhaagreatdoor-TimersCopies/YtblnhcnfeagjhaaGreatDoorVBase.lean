/- What the functions of calendar and of the document's answer return, whatever they are asked. -/
import Derived.WalkKit
import Derived.WalkSpells
import Derived.WalkLawsBesides
import Derived.Outline
import Derived.Lib.SmallJoins
import Derived.Test.YtblnhcnfeagjhaaGreatDoorProg
namespace Go.Proofs.YtblnhcnfeagjhaaGreatDoor.V
open Go.RowKit Go.IntWalk
set_option linter.unusedVariables false

/-- An equation that the walks do not use. -/
structure Hid (p : Prop) : Prop where
  out : p

/-- The steps from a deadline to a tick, and what is left. -/
def ahd (a e n : Int) : Int := if e = 0 then 0 else (n - a) / e
def bey (a e n : Int) : Int := if e = 0 then n - a else (n - a) % e
def pls (a b : Int) : Int := if 18446744073709551615 - a < b then 18446744073709551615 else a + b
def nxt (a e n : Int) : Int := if n < a then a else if e = 0 ∨ 18446744073709551615 - (n - bey a e n) < e then 0 else n - bey a e n + e
def isN (a e n : Int) : Bool := decide (n < a) || !(decide (e = 0) || decide (18446744073709551615 - (n - bey a e n) < e))
def cnt (a e n : Int) : Int := if n < a then 0 else pls (ahd a e n) 1
def lst (a e n : Int) : Int := if n < a then 0 else n - bey a e n
def idx (a e n : Int) : Int := if n < a then 0 else if bey a e n = 0 then ahd a e n else 0
def isI (a e n : Int) : Bool := !(decide (n < a)) && decide (bey a e n = 0)

def U (x : Int) : Prop := 0 ≤ x ∧ x < 18446744073709551616

set_option maxRecDepth 100000 in
set_option maxHeartbeats 1000000 in
/-- calendar.steps, ahead of the deadline. -/
theorem steps_none (a e n : Int) (ha : U a) (he : U e) (hn : U n) (h : n < a) (w : World) :
    Calls Tryz.prog 56 #[.int .u64 a, .int .u64 e, .int .u64 n] w fun x w' => x = .returned (.tuple #[.agg #[.int .u64 0, .int .u64 0, .int .u64 0], .bool false]) ∧ Below w.heap.size w w' := by
  obtain ⟨a0, a1⟩ := ha
  obtain ⟨e0, e1⟩ := he
  obtain ⟨n0, n1⟩ := hn
  go_enter Tryz.func56, Tryz.ntmps56
  go_wp2
  refine bodyPost_ret (v := .tuple #[.agg #[.int .u64 0, .int .u64 0, .int .u64 0], .bool false]) (by rw [results_cell_tmp rfl]; go_simp) rfl ?_
  exact ⟨rfl, (Below.refl _ _).alloc (Nat.le_refl _) _⟩
set_option maxRecDepth 100000 in
set_option maxHeartbeats 1000000 in
/-- calendar.steps, of a deadline that comes but once. -/
theorem steps_once (a n : Int) (ha : U a) (hn : U n) (h : ¬ n < a) (w : World) :
    Calls Tryz.prog 56 #[.int .u64 a, .int .u64 0, .int .u64 n] w fun x w' => x = .returned (.tuple #[.agg #[.int .u64 0, .int .u64 a, .int .u64 (n - a)], .bool true]) ∧ Below w.heap.size w w' := by
  obtain ⟨a0, a1⟩ := ha
  obtain ⟨n0, n1⟩ := hn
  have hc : n - (n - a) = a := by omega
  go_enter Tryz.func56, Tryz.ntmps56
  go_wp2
  refine bodyPost_ret (v := .tuple #[.agg #[.int .u64 0, .int .u64 a, .int .u64 (n - a)], .bool true]) (by rw [results_cell_tmp rfl]; go_simp) rfl ?_
  refine ⟨rfl, ?_⟩
  repeat' first | exact Below.refl _ _ | refine Below.setCell ?_ (Nat.le_refl _) _ | refine Below.alloc ?_ (Nat.le_refl _) _
set_option maxRecDepth 100000 in
set_option maxHeartbeats 1000000 in
/-- calendar.steps, of a deadline that comes again. -/
theorem steps_again (a e n q r : Int) (ha : U a) (he : U e) (hn : U n) (h : ¬ n < a) (h0 : 0 < e) (hq : (n - a) / e = q) (hr : (n - a) % e = r) (q0 : 0 ≤ q) (q1 : q ≤ n - a) (r0 : 0 ≤ r) (r1 : r ≤ n - a) (w : World) :
    Calls Tryz.prog 56 #[.int .u64 a, .int .u64 e, .int .u64 n] w fun x w' => x = .returned (.tuple #[.agg #[.int .u64 q, .int .u64 (n - r), .int .u64 r], .bool true]) ∧ Below w.heap.size w w' := by
  obtain ⟨a0, a1⟩ := ha
  obtain ⟨e0, e1⟩ := he
  obtain ⟨n0, n1⟩ := hn
  go_enter Tryz.func56, Tryz.ntmps56
  go_wp2
  refine bodyPost_ret (v := .tuple #[.agg #[.int .u64 q, .int .u64 (n - r), .int .u64 r], .bool true]) (by rw [results_cell_tmp rfl]; go_simp) rfl ?_
  refine ⟨rfl, ?_⟩
  repeat' first | exact Below.refl _ _ | refine Below.setCell ?_ (Nat.le_refl _) _ | refine Below.alloc ?_ (Nat.le_refl _) _
theorem quo_le {x e : Int} (hx : 0 ≤ x) (he : 0 < e) : 0 ≤ x / e ∧ x / e ≤ x ∧ 0 ≤ x % e ∧ x % e ≤ x ∧ x % e < e := by
  have h1 := Int.ediv_nonneg hx (Int.le_of_lt he)
  have h2 := Int.ediv_le_self e hx
  have h3 := Int.emod_nonneg x (Int.ne_of_gt he)
  have h4 := Int.emod_lt_of_pos x he
  have h5 := Int.mul_ediv_add_emod x e
  have h6 : 0 ≤ e * (x / e) := Int.mul_nonneg (Int.le_of_lt he) h1
  omega
/-- calendar.steps, at the deadline or behind it. -/
theorem steps_some (a e n q r : Int) (ha : U a) (he : U e) (hn : U n) (h : ¬ n < a) (hq : ahd a e n = q) (hr : bey a e n = r) (w : World) :
    Calls Tryz.prog 56 #[.int .u64 a, .int .u64 e, .int .u64 n] w fun x w' => x = .returned (.tuple #[.agg #[.int .u64 q, .int .u64 (n - r), .int .u64 r], .bool true]) ∧ Below w.heap.size w w' := by
  by_cases h0 : e = 0
  · subst h0
    have e1 : q = 0 := hq.symm.trans (if_pos rfl)
    have e2 : r = n - a := hr.symm.trans (if_pos rfl)
    subst e1 e2
    refine (steps_once a n ha hn h w).mono ?_
    rintro x w' ⟨rfl, hB⟩
    rw [show n - (n - a) = a from by omega]
    exact ⟨rfl, hB⟩
  · have e1 : (n - a) / e = q := (if_neg h0).symm.trans hq
    have e2 : (n - a) % e = r := (if_neg h0).symm.trans hr
    have hp : 0 < e := by have := he.1; omega
    obtain ⟨k1, k2, k3, k4, k5⟩ := quo_le (x := n - a) (e := e) (by omega) hp
    rw [e1] at k1 k2
    rw [e2] at k3 k4
    exact steps_again a e n q r ha he hn h hp e1 e2 k1 k2 k3 k4 w
theorem bey_bd {a e n : Int} (ha : U a) (he : U e) (hn : U n) (h : ¬ n < a) : 0 ≤ bey a e n ∧ bey a e n ≤ n - a ∧ 0 ≤ ahd a e n ∧ ahd a e n ≤ n - a ∧ e * ahd a e n + bey a e n = n - a ∧ (0 < e → bey a e n < e) := by
  unfold bey ahd
  by_cases h0 : e = 0
  · rw [if_pos h0, if_pos h0]
    subst h0
    omega
  · rw [if_neg h0, if_neg h0]
    have hp : 0 < e := by have := he.1; omega
    obtain ⟨k1, k2, k3, k4, k5⟩ := quo_le (x := n - a) (e := e) (by omega) hp
    exact ⟨k3, k4, k1, k2, Int.mul_ediv_add_emod _ _, fun _ => k5⟩
set_option maxRecDepth 100000 in
set_option maxHeartbeats 1000000 in
theorem next_none (a e n : Int) (ha : U a) (he : U e) (hn : U n) (h : n < a) (w : World) :
    Calls Tryz.prog 55 #[.int .u64 a, .int .u64 e, .int .u64 n] w fun x w' => x = .returned (.tuple #[.int .u64 a, .bool true]) ∧ Below w.heap.size w w' := by
  go_enter Tryz.func55, Tryz.ntmps55
  go_wp2_with fail
  refine (steps_none a e n ha he hn h _).mono ?_
  rintro x w1 ⟨rfl, hB⟩
  go_wp2
  go_ret2
  refine ⟨rfl, ?_⟩
  repeat' first | exact hB | refine Below.setCell ?_ hB.size _ | refine Below.alloc ?_ hB.size _
set_option maxRecDepth 100000 in
set_option maxHeartbeats 1000000 in
theorem next_last (a e n q r : Int) (ha : U a) (he : U e) (hn : U n) (h : ¬ n < a) (hq : ahd a e n = q) (hr : bey a e n = r) (r0 : 0 ≤ r) (r1 : r ≤ n - a) (hl : e = 0 ∨ 18446744073709551615 - (n - r) < e) (w : World) :
    Calls Tryz.prog 55 #[.int .u64 a, .int .u64 e, .int .u64 n] w fun x w' => x = .returned (.tuple #[.int .u64 0, .bool false]) ∧ Below w.heap.size w w' := by
  go_enter Tryz.func55, Tryz.ntmps55
  go_wp2_with fail
  refine (steps_some a e n q r ha he hn (by omega) hq hr _).mono ?_
  rintro x w1 ⟨rfl, hB⟩
  obtain ⟨a0, a1⟩ := ha
  obtain ⟨e0, e1⟩ := he
  obtain ⟨n0, n1⟩ := hn
  clear hq hr
  by_cases h0 : e = 0
  · subst h0
    go_wp2
    go_ret2
    refine ⟨rfl, ?_⟩
    repeat' first | exact hB | refine Below.setCell ?_ hB.size _ | refine Below.alloc ?_ hB.size _
  · have hl' : 18446744073709551615 - (n - r) < e := by omega
    clear hl
    go_wp2
    go_ret2
    refine ⟨rfl, ?_⟩
    repeat' first | exact hB | refine Below.setCell ?_ hB.size _ | refine Below.alloc ?_ hB.size _
set_option maxRecDepth 100000 in
set_option maxHeartbeats 1000000 in
theorem next_more (a e n q r : Int) (ha : U a) (he : U e) (hn : U n) (h : ¬ n < a) (hq : ahd a e n = q) (hr : bey a e n = r) (r0 : 0 ≤ r) (r1 : r ≤ n - a) (h0 : ¬ e = 0) (hl : ¬ 18446744073709551615 - (n - r) < e) (w : World) :
    Calls Tryz.prog 55 #[.int .u64 a, .int .u64 e, .int .u64 n] w fun x w' => x = .returned (.tuple #[.int .u64 (n - r + e), .bool true]) ∧ Below w.heap.size w w' := by
  go_enter Tryz.func55, Tryz.ntmps55
  go_wp2_with fail
  refine (steps_some a e n q r ha he hn (by omega) hq hr _).mono ?_
  rintro x w1 ⟨rfl, hB⟩
  obtain ⟨a0, a1⟩ := ha
  obtain ⟨e0, e1⟩ := he
  obtain ⟨n0, n1⟩ := hn
  clear hq hr
  have hd0 : (e == 0) = false := beq_eq_false_iff_ne.2 h0
  have hd1 : decide (18446744073709551615 - (n - r) < e) = false := decide_eq_false (by omega)
  go_wp2
  go_ret2
  refine ⟨rfl, ?_⟩
  repeat' first | exact hB | refine Below.setCell ?_ hB.size _ | refine Below.alloc ?_ hB.size _
/-- calendar.Next. -/
theorem next_any (a e n : Int) (ha : U a) (he : U e) (hn : U n) (w : World) :
    Calls Tryz.prog 55 #[.int .u64 a, .int .u64 e, .int .u64 n] w fun x w' => x = .returned (.tuple #[.int .u64 (nxt a e n), .bool (isN a e n)]) ∧ Below w.heap.size w w' := by
  by_cases h : n < a
  · rw [show nxt a e n = a from if_pos h, show isN a e n = true from by simp [isN, h]]
    exact next_none a e n ha he hn h w
  · obtain ⟨k1, k2, _⟩ := bey_bd ha he hn h
    by_cases hl : e = 0 ∨ 18446744073709551615 - (n - bey a e n) < e
    · rw [show nxt a e n = 0 from by rw [nxt, if_neg h, if_pos hl], show isN a e n = false from by simp [isN, h]; omega]
      exact next_last a e n _ _ ha he hn h rfl rfl k1 k2 hl w
    · rw [show nxt a e n = n - bey a e n + e from by rw [nxt, if_neg h, if_neg hl], show isN a e n = true from by simp [isN, h]; omega]
      exact next_more a e n _ _ ha he hn h rfl rfl k1 k2 (by omega) (by omega) w
set_option maxRecDepth 100000 in
set_option maxHeartbeats 1000000 in
theorem index_none (a e n : Int) (ha : U a) (he : U e) (hn : U n) (h : n < a) (w : World) :
    Calls Tryz.prog 30 #[.int .u64 a, .int .u64 e, .int .u64 n] w fun x w' => x = .returned (.tuple #[.int .u64 0, .bool false]) ∧ Below w.heap.size w w' := by
  go_enter Tryz.func30, Tryz.ntmps30
  go_wp2_with fail
  refine (steps_none a e n ha he hn h _).mono ?_
  rintro x w1 ⟨rfl, hB⟩
  go_wp2
  go_ret2
  refine ⟨rfl, ?_⟩
  repeat' first | exact hB | refine Below.setCell ?_ hB.size _ | refine Below.alloc ?_ hB.size _
set_option maxRecDepth 100000 in
set_option maxHeartbeats 1000000 in
theorem index_off (a e n q r : Int) (ha : U a) (he : U e) (hn : U n) (h : ¬ n < a) (hq : ahd a e n = q) (hr : bey a e n = r) (h0 : ¬ r = 0) (w : World) :
    Calls Tryz.prog 30 #[.int .u64 a, .int .u64 e, .int .u64 n] w fun x w' => x = .returned (.tuple #[.int .u64 0, .bool false]) ∧ Below w.heap.size w w' := by
  go_enter Tryz.func30, Tryz.ntmps30
  go_wp2_with fail
  refine (steps_some a e n q r ha he hn (by omega) hq hr _).mono ?_
  rintro x w1 ⟨rfl, hB⟩
  clear hq hr
  go_wp2
  go_ret2
  refine ⟨rfl, ?_⟩
  repeat' first | exact hB | refine Below.setCell ?_ hB.size _ | refine Below.alloc ?_ hB.size _
set_option maxRecDepth 100000 in
set_option maxHeartbeats 1000000 in
theorem index_at (a e n q : Int) (ha : U a) (he : U e) (hn : U n) (h : ¬ n < a) (hq : ahd a e n = q) (hr : bey a e n = 0) (w : World) :
    Calls Tryz.prog 30 #[.int .u64 a, .int .u64 e, .int .u64 n] w fun x w' => x = .returned (.tuple #[.int .u64 q, .bool true]) ∧ Below w.heap.size w w' := by
  go_enter Tryz.func30, Tryz.ntmps30
  go_wp2_with fail
  refine (steps_some a e n q 0 ha he hn (by omega) hq hr _).mono ?_
  rintro x w1 ⟨rfl, hB⟩
  clear hq hr
  go_wp2
  go_ret2
  refine ⟨rfl, ?_⟩
  repeat' first | exact hB | refine Below.setCell ?_ hB.size _ | refine Below.alloc ?_ hB.size _
/-- calendar.Index. -/
theorem index_any (a e n : Int) (ha : U a) (he : U e) (hn : U n) (w : World) :
    Calls Tryz.prog 30 #[.int .u64 a, .int .u64 e, .int .u64 n] w fun x w' => x = .returned (.tuple #[.int .u64 (idx a e n), .bool (isI a e n)]) ∧ Below w.heap.size w w' := by
  by_cases h : n < a
  · rw [show idx a e n = 0 from if_pos h, show isI a e n = false from by simp [isI, h]]
    exact index_none a e n ha he hn h w
  · by_cases h0 : bey a e n = 0
    · rw [show idx a e n = ahd a e n from by rw [idx, if_neg h, if_pos h0], show isI a e n = true from by simp [isI, h, h0]]
      exact index_at a e n _ ha he hn h rfl h0 w
    · rw [show idx a e n = 0 from by rw [idx, if_neg h, if_neg h0], show isI a e n = false from by simp [isI, h0]]
      exact index_off a e n _ _ ha he hn h rfl rfl h0 w
set_option maxRecDepth 100000 in
set_option maxHeartbeats 1000000 in
theorem rsteps_once (a n : Int) (w : World) :
    Calls Tryz.prog 96 #[.int .u64 a, .int .u64 0, .int .u64 n] w fun x w' => x = .returned (.int .u64 0) ∧ w = w' := by
  go_enter Tryz.func96, Tryz.ntmps96
  go_wp2
  go_ret
  exact ⟨rfl, rfl⟩
set_option maxRecDepth 100000 in
set_option maxHeartbeats 1000000 in
theorem rsteps_again (a e n q : Int) (ha : U a) (he : U e) (hn : U n) (h : ¬ n < a) (h0 : 0 < e) (hq : (n - a) / e = q) (q0 : 0 ≤ q) (q1 : q ≤ n - a) (w : World) :
    Calls Tryz.prog 96 #[.int .u64 a, .int .u64 e, .int .u64 n] w fun x w' => x = .returned (.int .u64 q) ∧ w = w' := by
  obtain ⟨a0, a1⟩ := ha
  obtain ⟨e0, e1⟩ := he
  obtain ⟨n0, n1⟩ := hn
  have hd0 : (e == 0) = false := beq_eq_false_iff_ne.2 (by omega)
  go_enter Tryz.func96, Tryz.ntmps96
  go_wp2
  go_ret
  exact ⟨rfl, rfl⟩
/-- belfryref05.Steps. -/
theorem rsteps_any (a e n q : Int) (ha : U a) (he : U e) (hn : U n) (h : ¬ n < a) (hq : ahd a e n = q) (w : World) :
    Calls Tryz.prog 96 #[.int .u64 a, .int .u64 e, .int .u64 n] w fun x w' => x = .returned (.int .u64 q) ∧ w = w' := by
  by_cases h0 : e = 0
  · subst h0
    have e1 : q = 0 := hq.symm.trans (if_pos rfl)
    subst e1
    exact rsteps_once a n w
  · have e1 : (n - a) / e = q := (if_neg h0).symm.trans hq
    have hp : 0 < e := by have := he.1; omega
    obtain ⟨k1, k2, k3, k4, k5⟩ := quo_le (x := n - a) (e := e) (by omega) hp
    rw [e1] at k1 k2
    exact rsteps_again a e n q ha he hn h hp e1 k1 k2 w
theorem wrap_mul {e q x : Int} (h : e * q = x) (h0 : 0 ≤ x) (h1 : x < 18446744073709551616) : IntKind.u64.wrap (e * q) = x := by
  rw [h, IntKind.wrap_u64]
  omega
theorem mul_of {a e n : Int} (ha : U a) (he : U e) (hn : U n) (h : ¬ n < a) : e * ahd a e n = n - a - bey a e n := by
  obtain ⟨_, _, _, _, k, _⟩ := bey_bd ha he hn h
  omega
set_option maxRecDepth 100000 in
set_option maxHeartbeats 1000000 in
theorem rnext_none (a e n : Int) (h : n < a) (w : World) :
    Calls Tryz.prog 73 #[.int .u64 a, .int .u64 e, .int .u64 n] w fun x w' => x = .returned (.tuple #[.int .u64 a, .bool true]) ∧ w = w' := by
  go_enter Tryz.func73, Tryz.ntmps73
  go_wp2
  go_ret2
  exact ⟨rfl, rfl⟩
set_option maxRecDepth 100000 in
set_option maxHeartbeats 1000000 in
theorem rnext_once (a n : Int) (ha : U a) (hn : U n) (h : ¬ n < a) (w : World) :
    Calls Tryz.prog 73 #[.int .u64 a, .int .u64 0, .int .u64 n] w fun x w' => x = .returned (.tuple #[.int .u64 0, .bool false]) ∧ w = w' := by
  go_enter Tryz.func73, Tryz.ntmps73
  go_wp2_with fail
  refine (rsteps_once a n _).mono ?_
  rintro x w1 ⟨rfl, rfl⟩
  obtain ⟨a0, a1⟩ := ha
  obtain ⟨n0, n1⟩ := hn
  go_wp2
  go_ret2
  exact ⟨rfl, rfl⟩
set_option maxRecDepth 100000 in
set_option maxHeartbeats 1000000 in
theorem rnext_last (a e n q r : Int) (ha : U a) (he : U e) (hn : U n) (h : ¬ n < a) (h0 : ¬ e = 0) (hq : ahd a e n = q) (hm : e * q = n - a - r) (r0 : 0 ≤ r) (r1 : r ≤ n - a) (hl : 18446744073709551615 - (n - r) < e) (w : World) :
    Calls Tryz.prog 73 #[.int .u64 a, .int .u64 e, .int .u64 n] w fun x w' => x = .returned (.tuple #[.int .u64 0, .bool false]) ∧ w = w' := by
  go_enter Tryz.func73, Tryz.ntmps73
  go_wp2_with fail
  refine (rsteps_any a e n q ha he hn (by omega) hq _).mono ?_
  rintro x w1 ⟨rfl, rfl⟩
  obtain ⟨a0, a1⟩ := ha
  obtain ⟨e0, e1⟩ := he
  obtain ⟨n0, n1⟩ := hn
  have hw := wrap_mul hm (by omega) (by omega)
  have hs : a + (n - a - r) = n - r := by omega
  have hd0 : (e == 0) = false := beq_eq_false_iff_ne.2 h0
  clear hq hm
  go_wp2
  go_ret2
  exact ⟨rfl, rfl⟩
set_option maxRecDepth 100000 in
set_option maxHeartbeats 1000000 in
theorem rnext_more (a e n q r : Int) (ha : U a) (he : U e) (hn : U n) (h : ¬ n < a) (h0 : ¬ e = 0) (hq : ahd a e n = q) (hm : e * q = n - a - r) (r0 : 0 ≤ r) (r1 : r ≤ n - a) (hl : ¬ 18446744073709551615 - (n - r) < e) (w : World) :
    Calls Tryz.prog 73 #[.int .u64 a, .int .u64 e, .int .u64 n] w fun x w' => x = .returned (.tuple #[.int .u64 (n - r + e), .bool true]) ∧ w = w' := by
  go_enter Tryz.func73, Tryz.ntmps73
  go_wp2_with fail
  refine (rsteps_any a e n q ha he hn (by omega) hq _).mono ?_
  rintro x w1 ⟨rfl, rfl⟩
  obtain ⟨a0, a1⟩ := ha
  obtain ⟨e0, e1⟩ := he
  obtain ⟨n0, n1⟩ := hn
  have hw := wrap_mul hm (by omega) (by omega)
  have hs : a + (n - a - r) = n - r := by omega
  have hd0 : (e == 0) = false := beq_eq_false_iff_ne.2 h0
  have hd1 : decide (18446744073709551615 - (n - r) < e) = false := decide_eq_false (by omega)
  clear hq hm
  go_wp2
  go_ret2
  exact ⟨rfl, rfl⟩
/-- belfryref05.Next. -/
theorem rnext_any (a e n : Int) (ha : U a) (he : U e) (hn : U n) (w : World) :
    Calls Tryz.prog 73 #[.int .u64 a, .int .u64 e, .int .u64 n] w fun x w' => x = .returned (.tuple #[.int .u64 (nxt a e n), .bool (isN a e n)]) ∧ w = w' := by
  by_cases h : n < a
  · rw [show nxt a e n = a from if_pos h, show isN a e n = true from by simp [isN, h]]
    exact rnext_none a e n h w
  · obtain ⟨k1, k2, _⟩ := bey_bd ha he hn h
    by_cases hl : e = 0 ∨ 18446744073709551615 - (n - bey a e n) < e
    · rw [show nxt a e n = 0 from by rw [nxt, if_neg h, if_pos hl], show isN a e n = false from by simp [isN, h]; omega]
      by_cases h0 : e = 0
      · subst h0
        exact rnext_once a n ha hn h w
      · exact rnext_last a e n _ _ ha he hn h h0 rfl (mul_of ha he hn h) k1 k2 (by omega) w
    · rw [show nxt a e n = n - bey a e n + e from by rw [nxt, if_neg h, if_neg hl], show isN a e n = true from by simp [isN, h]; omega]
      exact rnext_more a e n _ _ ha he hn h (by omega) rfl (mul_of ha he hn h) k1 k2 (by omega) w
end Go.Proofs.YtblnhcnfeagjhaaGreatDoor.V
