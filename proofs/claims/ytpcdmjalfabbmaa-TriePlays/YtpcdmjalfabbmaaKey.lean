/- The iterator that maps.Keys hands back: each byte once. -/
import Derived.Test.YtpcdmjalfabbmaaAbs
import Derived.RangeFuncKeeps
import Derived.RangeFuncBound
import Derived.RangeFuncLeaves
import Derived.RangeFuncNested
import Derived.RangeFuncCalls
import Derived.OwnWalkIn
import Derived.TacticsInMore
import Derived.Shelf.Abstract
import Derived.LoopIn
import Derived.LoopNIn
import Derived.Shelf.RegionOpen
import Derived.RangeFuncBox
import Derived.Sort.MapsRangeIn
namespace Go.Proofs.Ytpcdmjalfabbmaa
open Go.RowKit Go.Shelf Go.IntWalk Go.Maps
set_option linter.unusedVariables false
attribute [local go_sem] Oper.semAt_some
/-- What has come: each once; and all that is not to come. -/
def Came (f : UInt8 → Option Nat) (left : Lit → Bool) (ys : List UInt8) : Prop := ys.Nodup ∧ ∀ c, c ∈ ys ↔ ((f c).isSome = true ∧ left (kc c) = false)
theorem Came.step {f : UInt8 → Option Nat} {left : Lit → Bool} {ys : List UInt8} (h : Came f left ys) {x : UInt8} (hl : left (kc x) = true) (hx : (f x).isSome = true) : Came f (fun z => left z && !z.sameKey (kc x)) (ys ++ [x]) := by
  have hn : x ∉ ys := fun hm => by
    have := ((h.2 x).1 hm).2
    rw [hl] at this
    cases this
  have e : ∀ c : UInt8, Lit.sameKey (kc c) (kc x) = decide (c = x) := fun c => by
    by_cases hc : c = x
    · subst hc; rw [WideAt.sameKey_self (kc_key c)]; simp
    · cases hs : Lit.sameKey (kc c) (kc x) with
      | false => simp [hc]
      | true => exact absurd (kc_inj (WideAt.sameKey_eq hs)) hc
  refine ⟨List.nodup_append.2 ⟨h.1, by simp, fun a ha b hb => by simp at hb; subst hb; exact fun e' => hn (e' ▸ ha)⟩, fun c => ?_⟩
  by_cases hc : c = x
  · subst hc; simp [hx, e]
  · simp [h.2 c, hc, e]
theorem Came.len {f : UInt8 → Option Nat} {left : Lit → Bool} {ys : List UInt8} (h : Came f left ys) : ys.length ≤ 256 := bytes_le h.1
set_option maxRecDepth 100000 in
set_option maxHeartbeats 4000000 in
theorem keys1_in (n : Nat) (hn : 3 ≤ n) (l Bm b : Nat) {f : UInt8 → Option Nat} (J Jx : List UInt8 → World → Prop) (W : World) (hJa : AbidesFrom W.heap.size J)
    (hY : ∀ pre x W, J pre W → pre.length < 257 → YieldAt Fence.wide (n - 1) Try.prog l #[.int .u8 x.toNat] W fun e W' =>
      (e = .returned (.bool true) ∧ J (pre ++ [x]) W' ∧ KeepsWalks W W') ∨ (e = .returned (.bool false) ∧ Jx (pre ++ [x]) W'))
    (hBm : W.cell? ⟨Bm, 0, none⟩ = some (.map (some b))) (hkm : Km W b f) (h0 : J [] W) :
    CallsIn Fence.wide n Try.prog 52 #[.func (.yield l) #[] #[], ptr Bm] W fun e W' => (∃ v, e = .returned v) ∧
      ((∃ ys, (ys.Nodup ∧ ∀ c, c ∈ ys ↔ (f c).isSome = true) ∧ J ys W') ∨ (∃ pre, True ∧ Jx pre W')) := by
  obtain ⟨D, hown, hD1, hD2, _⟩ := hkm.own
  refine callsIn_of_wp Try.func52 rfl trivial ?_ rfl
  simp only [Try.ntmps52, List.size_toArray, List.length_cons, List.length_nil, Nat.reduceAdd, Nat.reduceSub, Array.replicate_succ, Array.replicate_zero, List.push_toArray, List.append_toArray, List.nil_append, List.cons_append]
  have hKd := keyed5
  gi_wp2_with (first
    | (gi_at_range; refine wpListIn_range_own _ rfl _ 62 rfl 5 56 keyed5 Try.underlying62 pElem b (Maps.size D) D rfl hown ?_; intro w0 hrg0 hg0 hs0)
    | gi_in)
  go_frame
  gi_loopw [3] (fun _ wr => ∃ (left : Lit → Bool) (cnt : Nat) (ys : List UInt8), wr.ranges Try.prog 5 pElem b W.heap.size (Maps.size D) D left cnt ∧ Hid (Came f left ys ∧ J ys wr))
    (fun _ wr => wr.rangeLeft b W.heap.size)
  case atStart =>
    refine ⟨_, _, [], hrg0, ⟨⟨by simp, fun c => ?_⟩, hJa [] W w0 none h0 hg0 (fun r e => by cases e)⟩⟩
    rw [hD1]
    cases (f c).isSome <;> simp
  case round =>
    obtain ⟨left, cnt, ys, hrg, hR⟩ := hrel
    gi_wp2_with (first
      | (gi_at_next; refine wpListIn_next_ranges _ rfl _ rfl 5 keyed5 pElem (fun d : UInt8 => Value.int .u8 d.toNat) (fun a : Option Addr => Value.pointer a) (fun key kl hk => by obtain ⟨x, hx, _⟩ := inv5 hk; exact ⟨x, hx⟩) (fun v y hv => pElem_shape hv) b W.heap.size (Maps.size D) _ _ _ rfl hrg ?_ ?_)
      | gi_in)
    · intro hc0 hl0
      have hfin : Hid ((ys.Nodup ∧ ∀ c, c ∈ ys ↔ (f c).isSome = true) ∧ J ys wr) := ⟨⟨hR.out.1.1, fun c => by rw [hR.out.1.2 c, hl0]; simp⟩, hR.out.2⟩
      gi_wp2
      go_end0
      exact ⟨⟨_, rfl⟩, .inl ⟨ys, hfin.out⟩⟩
    · intro x a kl yd yp w2 cnt2 hkey hlk hv hat hrg2 hlt hg2 hs2 hen
      obtain ⟨x', ex, rfl⟩ := inv5 hkey
      have hxx : x = x' := by
        simp only [Value.int.injEq, true_and] at ex
        exact UInt8.toNat_inj.1 (by omega)
      subst hxx
      have hhas : (f x).isSome = true := by rw [← hD1]; exact has_true_of_atKey hat
      have hJ2 : J ys w2 := hJa ys wr w2 (some W.heap.size) hR.out.2 hg2 (fun r e => by cases e; exact ⟨Nat.le_refl _, hrg.iter_walk⟩)
      have hC2 := hR.out.1.step hlk hhas
      have hyl := hR.out.1.len
      obtain ⟨fn, tmps, assign, body, hy, hRo⟩ := hY ys x w2 hJ2 (by omega)
      clear hs2 hat hv hkey ex
      replace hC2 : Hid _ := ⟨hC2⟩
      replace hhas : Hid _ := ⟨hhas⟩
      gi_wp2
      refine ⟨fun h => (by cases h), hRo.mono ?_⟩
      rintro e W3 (⟨rfl, hJ3, hk3⟩ | ⟨rfl, hJx3⟩)
      · gi_wp2
        have hrg3 := hrg2.of_walks hk3
        go_roundw
        case rel => exact ⟨_, cnt2, ys ++ [x], hrg3, ⟨hC2.out, hJ3⟩⟩
        case measure => rw [hrg3.left_eq, hrg.left_eq]; exact hlt
      · gi_wp2
        refine bodyPost_ret (results_none rfl _ _ _) rfl ?_
        exact ⟨⟨_, rfl⟩, .inr ⟨_, trivial, hJx3⟩⟩
set_option maxHeartbeats 1000000 in
/-- maps.Keys: the map is boxed. -/
theorem keys_in (n : Nat) (mb : Option Nat) (w : World) :
    CallsIn Fence.wide n Try.prog 49 #[.map mb] w fun e w' => e = .returned (.func (.func 52) #[] #[ptr w.heap.size]) ∧ w' = w.alloc (.cells #[.map mb] 62) := by
  refine callsIn_of_wp Try.func49 rfl trivial ?_ rfl
  simp only [Try.ntmps49, List.size_toArray, List.length_cons, List.length_nil, Nat.reduceAdd, Nat.reduceSub, Array.replicate_succ, Array.replicate_zero, List.push_toArray, List.append_toArray, List.nil_append, List.cons_append]
  gi_wp2
  go_ret
  exact ⟨rfl, rfl⟩
theorem keys_stops (n : Nat) (hn : 3 ≤ n) (Bm b : Nat) {f : UInt8 → Option Nat} (w : World) (hBm : Bm < w.heap.size) (hc : w.cell? ⟨Bm, 0, none⟩ = some (.map (some b))) (hkm : Km w b f) :
    SeqStopsK Fence.wide n Try.prog 52 #[ptr Bm] (fun x : UInt8 => #[Value.int .u8 x.toNat]) KeepsWalks (fun ys => ys.Nodup ∧ ∀ c, c ∈ ys ↔ (f c).isSome = true) (fun _ => True) 257 w := fun l J Jx W hW hJ _ hY h0 =>
  keys1_in n hn l Bm b J Jx W hJ hY ((hW.cell (p := ⟨Bm, 0, none⟩) hBm).trans hc) (hkm.kept (hW.block b hkm.lt)) h0
end Go.Proofs.Ytpcdmjalfabbmaa
