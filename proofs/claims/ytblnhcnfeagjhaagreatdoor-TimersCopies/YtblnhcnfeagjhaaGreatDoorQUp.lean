/- container/heap's up. -/
import Derived.Test.YtblnhcnfeagjhaaGreatDoorQSwap
import Derived.Test.YtblnhcnfeagjhaaGreatDoorQEnds
namespace Go.Proofs.YtblnhcnfeagjhaaGreatDoor.Q
open Go.RowKit Go.IntWalk Go.Maps
set_option linter.unusedVariables false
theorem m_push (a : Option Addr) (w : World) : (method 454 139 (.pointer a) "Push").run Tryz.prog w = .ok (176, .pointer a) w := by kernel_rfl
theorem m_pop (a : Option Addr) (w : World) : (method 454 139 (.pointer a) "Pop").run Tryz.prog w = .ok (175, .pointer a) w := by kernel_rfl
theorem m_len (a : Option Addr) (w : World) : (method 454 139 (.pointer a) "Len").run Tryz.prog w = .ok (144, .pointer a) w := by kernel_rfl
theorem m_less (a : Option Addr) (w : World) : (method 454 139 (.pointer a) "Less").run Tryz.prog w = .ok (174, .pointer a) w := by kernel_rfl
theorem m_swap (a : Option Addr) (w : World) : (method 454 139 (.pointer a) "Swap").run Tryz.prog w = .ok (177, .pointer a) w := by kernel_rfl
/-- The same entries, those from n on in their places. -/
structure Sm (es es' : List E) (n : Nat) : Prop where
  len : es'.length = es.length
  mem : ∀ x, x ∈ es' ↔ x ∈ es
  rest : ∀ k, n ≤ k → es'[k]? = es[k]?
theorem Sm.refl (es : List E) (n : Nat) : Sm es es n := ⟨rfl, fun _ => Iff.rfl, fun _ _ => rfl⟩
theorem Sm.trans {a b c : List E} {n : Nat} (h : Sm a b n) (k : Sm b c n) : Sm a c n := ⟨k.len.trans h.len, fun x => (k.mem x).trans (h.mem x), fun i hi => (k.rest i hi).trans (h.rest i hi)⟩
theorem Sm.swp {es : List E} {i j n : Nat} {a b : E} (hi : es[i]? = some a) (hj : es[j]? = some b) (h1 : i < n) (h2 : j < n) : Sm es (swp es i j a b) n :=
  ⟨swp_len _ _ _ _ _, swp_mem hi hj, fun k hk => by rw [swp_at hi hj, if_neg (by omega), if_neg (by omega)]⟩
theorem some_at {es : List E} {k : Nat} (h : k < es.length) : ∃ a, es[k]? = some a := ⟨es[k], List.getElem?_eq_getElem h⟩
theorem half (j : Nat) (hj : 0 < j) (hl : j ≤ 100000) : (Int.tdiv ((j : Int) - 1) 2) = (((j - 1) / 2 : Nat) : Int) := by
  rw [Int.tdiv_eq_ediv_of_nonneg (by omega)]
  omega
set_option maxRecDepth 100000 in
set_option maxHeartbeats 4000000 in
theorem up_any (w : World) {qb bm : Nat} {rv : Value} {es : List E} (h : Ln w qb bm rv es) (j n : Nat) (hj : j < n) (hn : n ≤ es.length) (hu : Hu es n j) :
    Calls Tryz.prog 107 #[.iface 139 (.pointer (some ⟨qb, 0, none⟩)), .int .i64 j] w fun r w' => r = .returned (.tuple #[]) ∧ ∃ es', Ln w' qb bm rv es' ∧ Tn w w' qb bm rv rv ∧ Hp es' n ∧ Sm es es' n := by
  have m1 := m_less
  have m2 := m_swap
  have hl := h.len
  go_enter Tryz.func107, Tryz.ntmps107
  go_wp2_with fail
  go_loopw [1] (fun v wr => ∃ (k : Nat) (fs : List E), v = .int .i64 k ∧ k < n ∧ Hid (Ln wr qb bm rv fs ∧ Tn w wr qb bm rv rv ∧ Hu fs n k ∧ Sm es fs n))
    (fun v _ => (intOf v).toNat)
  case atStart => exact ⟨j, es, rfl, hj, ⟨h, Tn.of0 (grown_refl w), hu, Sm.refl _ _⟩⟩
  case round =>
    obtain ⟨k, fs, rfl, hk, ⟨hL, hT, hU, hS⟩⟩ := hrel
    have hfl := hS.len
    by_cases k0 : k = 0
    · subst k0
      have hq : Hp fs n := hU.done (fun h => absurd h (by omega))
      go_wp2_with fail
      go_end0
      exact ⟨rfl, fs, hL, hT, hq, hS⟩
    · obtain ⟨p, hp⟩ : ∃ p, p = (k - 1) / 2 := ⟨_, rfl⟩
      have hpk : p < k := by omega
      have hpd : ((k : Int) - 1).tdiv 2 = (p : Int) := by rw [half k (by omega) (by omega), hp]
      have hne : ((p : Int) == k) = false := by simp; omega
      obtain ⟨b, hb⟩ := some_at (es := fs) (k := k) (by omega)
      obtain ⟨a, ha⟩ := some_at (es := fs) (k := p) (by omega)
      replace hL : Hid _ := ⟨hL⟩
      replace hT : Hid _ := ⟨hT⟩
      replace hU : Hid _ := ⟨hU⟩
      replace hS : Hid _ := ⟨hS⟩
      replace hp : Hid _ := ⟨hp⟩
      go_wp2_with fail
      refine (less_any wr hL.out hb ha).mono ?_
      rintro r w1 ⟨rfl, hg1⟩
      by_cases hlt : lt b a
      · have hd : ltb b a = true := ltb_iff.2 hlt
        go_wp2_with fail
        refine (swap_any w1 (hL.out.keep hg1) ha hb).mono ?_
        rintro r w2 ⟨rfl, hL2, hT2⟩
        go_wp2_with fail
        go_roundw
        case rel =>
          refine ⟨p, _, rfl, by omega, ⟨hL2, (hT.out.trans (Tn.of0 hg1)).trans hT2, ?_, hS.out.trans (Sm.swp ha hb (by omega) (by omega))⟩⟩
          rw [hp.out] at ha ⊢
          exact hU.out.up (by omega) hk (by omega) ha hb hlt
        case measure => simp [intOf]; omega
      · have hd : ltb b a = false := ltb_f hlt
        have hq : Hp fs n := hU.out.done (fun h1 h2 x y hx hy => by
          rw [← hp.out, ha] at hy
          rw [hb] at hx
          cases hx; cases hy
          exact hlt)
        go_wp2_with fail
        go_end0
        exact ⟨rfl, fs, hL.out.keep hg1, hT.out.trans (Tn.of0 hg1), hq, hS.out⟩
end Go.Proofs.YtblnhcnfeagjhaaGreatDoor.Q
