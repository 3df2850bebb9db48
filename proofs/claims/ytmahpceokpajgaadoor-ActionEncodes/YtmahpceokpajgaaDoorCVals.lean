/- The iterator slices.Values over a list of fields in memory: its contract, for every loop body that keeps what lay below a block number. -/
import Derived.RangeFuncNested
import Derived.RangeFuncBound
import Derived.RangeFuncCalls
import Derived.RangeFuncLeaves
import Derived.RangeFuncBox
import Derived.Shelf.Abstract
import Derived.Shelf.RegionOpen
import Derived.WalkKit
import Derived.OwnWalkIn
import Derived.TacticsInMore
import Derived.LoopNIn
import Derived.LoopIn
import Derived.Maps.AppendAt
import Derived.Test.YtmahpceokpajgaaDoorMca
namespace Go.Proofs.YtmahpceokpajgaaDoor.C
open Go.RowKit Go.Shelf Plain Go.IntWalk
set_option linter.unusedVariables false
attribute [local go_sem] Oper.semAt_some

/-- A field as it lies in memory: its tag, its slice, the bytes that it holds. -/
structure Fd where
  tag : Int
  a : Option Addr
  len : Nat
  cap : Nat
  zs : List Int
def Fd.sl (x : Fd) : Value := .slice x.a x.len x.cap
/-- It can be read: its bytes lie below n₀. -/
def Fd.ok (n₀ : Nat) (W : World) (x : Fd) : Prop := Bts n₀ W x.sl x.zs ∧ -9223372036854775808 ≤ x.tag ∧ x.tag ≤ 9223372036854775807
theorem Fd.ok.below {n₀ : Nat} {A B : World} (h : Below n₀ A B) {x : Fd} (k : x.ok n₀ A) : x.ok n₀ B := ⟨k.1.below h, k.2⟩
theorem Fd.ok.mono {n₀ n₁ : Nat} {A : World} {x : Fd} (k : x.ok n₀ A) (h : n₀ ≤ n₁) : x.ok n₁ A := ⟨k.1.mono h, k.2⟩
theorem Fd.ok.len {n₀ : Nat} {A : World} {x : Fd} (k : x.ok n₀ A) : x.len = x.zs.length := by
  obtain ⟨⟨⟨e | ⟨ad, cap, e⟩, h⟩ | ⟨b, off, cap, e, _⟩, _⟩, _⟩ := k
  · simp [Fd.sl] at e; simp [h, e]
  · simp [Fd.sl] at e; simp [h, e]
  · simp [Fd.sl] at e; exact e.2.1
/-- What is known to be readable. -/
abbrev FdOk (n₀ : Nat) (W : World) := { x : Fd // x.ok n₀ W }
def Fd.val (x : Fd) : Value := .agg #[.int .i64 x.tag, .slice x.a x.len x.cap]

/-- The slice v holds the fields xs, in a block below n₀; or it is nil, and there are none. -/
def Flds (n₀ : Nat) (W : World) (v : Value) (xs : List Fd) : Prop :=
  (((v = .slice none 0 0 ∨ ∃ ad cap, v = .slice (some ad) 0 cap) ∧ xs = []) ∨ ∃ b off cap, v = .slice (some ⟨b, off, none⟩) xs.length cap ∧ b < n₀ ∧ xs.length ≤ cap ∧ cap ≤ maxLen ∧ ∀ j x, xs[j]? = some x → W.cell? ⟨b, off + j * 2, none⟩ = some (.int .i64 x.tag) ∧ W.cell? ⟨b, off + j * 2 + 1, none⟩ = some (.slice x.a x.len x.cap)) ∧ ∀ x ∈ xs, x.ok n₀ W
theorem Flds.below {n₀ : Nat} {A B : World} (h : Below n₀ A B) {v : Value} {xs : List Fd} : Flds n₀ A v xs → Flds n₀ B v xs
  | ⟨.inl e, hz⟩ => ⟨.inl e, fun x hx => (hz x hx).below h⟩
  | ⟨.inr ⟨b, off, cap, e, hb, hl, hm, hc⟩, hz⟩ => ⟨.inr ⟨b, off, cap, e, hb, hl, hm, fun j x hj => ⟨(h.cell (p := ⟨b, off + j * 2, none⟩) hb).trans (hc j x hj).1, (h.cell (p := ⟨b, off + j * 2 + 1, none⟩) hb).trans (hc j x hj).2⟩⟩, fun x hx => (hz x hx).below h⟩
theorem Flds.mono {n₀ n₁ : Nat} {A : World} {v : Value} {xs : List Fd} (h : Flds n₀ A v xs) (hn : n₀ ≤ n₁) : Flds n₁ A v xs := by
  obtain ⟨e | ⟨b, off, cap, e, hb, r⟩, hz⟩ := h
  · exact ⟨.inl e, fun x hx => (hz x hx).mono hn⟩
  · exact ⟨.inr ⟨b, off, cap, e, by omega, r⟩, fun x hx => (hz x hx).mono hn⟩

def upto {α : Type} (f : Nat → α) (k : Nat) : List α := (List.range k).map f
theorem upto_succ {α : Type} (f : Nat → α) (k : Nat) : upto f (k + 1) = upto f k ++ [f k] := by simp [upto, List.range_succ]
theorem upto_length {α : Type} (f : Nat → α) (k : Nat) : (upto f k).length = k := by simp [upto]

set_option maxRecDepth 100000 in
set_option maxHeartbeats 2000000 in
theorem values1_in (F : Fence) (n : Nat) (h7 : F.fn 54) (hro : F.round = none) (hn : 1 ≤ n) (l Bs n₀ b off len cap : Nat) {α : Type} (f : Nat → α) (q : α → Fd) (hm : len ≤ 9223372036854775807) (hb : b < n₀) (J Jx : List α → World → Prop) (W : World) (hn0 : n₀ ≤ W.heap.size) (hJa : AbidesFrom W.heap.size J)
    (hY : ∀ pre x W, J pre W → pre.length < len → YieldAt F (n - 1) Tryd.prog l #[.agg #[.int .i64 (q x).tag, .slice (q x).a (q x).len (q x).cap]] W fun e W' =>
      (e = .returned (.bool true) ∧ J (pre ++ [x]) W' ∧ Below n₀ W W') ∨ (e = .returned (.bool false) ∧ Jx (pre ++ [x]) W'))
    (hBs : W.cell? ⟨Bs, 0, none⟩ = some (.slice (some ⟨b, off, none⟩) len cap)) (hc : ∀ j, j < len → W.cell? ⟨b, off + j * 2, none⟩ = some (.int .i64 (q (f j)).tag) ∧ W.cell? ⟨b, off + j * 2 + 1, none⟩ = some (.slice (q (f j)).a (q (f j)).len (q (f j)).cap)) (h0 : J [] W) :
    CallsIn F n Tryd.prog 54 #[.func (.yield l) #[] #[], .pointer (some ⟨Bs, 0, none⟩)] W fun e W' => (∃ v, e = .returned v) ∧
      ((∃ ys, ys = upto f len ∧ J ys W') ∨ (∃ pre, (∃ k, k ≤ len ∧ pre = upto f k) ∧ Jx pre W')) := by
  refine callsIn_of_wp Tryd.func54 rfl h7 ?_ hro
  simp only [Tryd.ntmps54, List.size_toArray, List.length_cons, List.length_nil, Nat.reduceAdd, Nat.reduceSub, Array.replicate_succ, Array.replicate_zero, List.push_toArray, List.append_toArray, List.nil_append, List.cons_append]
  gi_wp2
  gi_loopw [7] (fun i wr => ∃ k : Nat, k ≤ len ∧ i = .int .i64 k ∧ J (upto f k) wr ∧ Below n₀ W wr)
    (fun i _ => len - (intOf i).toNat)
  case atStart => exact ⟨0, Nat.zero_le _, rfl, h0, Below.refl _ _⟩
  case round =>
    obtain ⟨k, hk, rfl, hJs, hnx⟩ := hrel
    by_cases hlt : k < len
    · have hc1 : wr.cell? ⟨b, off + k * 2, none⟩ = some (.int .i64 (q (f k)).tag) := (hnx.cell (p := ⟨b, off + k * 2, none⟩) hb).trans (hc k hlt).1
      have hc2 : wr.cell? ⟨b, off + k * 2 + 1, none⟩ = some (.slice (q (f k)).a (q (f k)).len (q (f k)).cap) := (hnx.cell (p := ⟨b, off + k * 2 + 1, none⟩) hb).trans (hc k hlt).2
      have hsz := hnx.size
      obtain ⟨fn, tmps, assign, body, hy, hR⟩ := hY _ (f k) (wr.alloc (.cells #[.int .i64 (q (f k)).tag, .slice (q (f k)).a (q (f k)).len (q (f k)).cap] 55)) (hJa _ wr _ none hJs (World.grownBy_alloc _ _ _) (fun _ e => by cases e)) (by rw [upto_length]; exact hlt)
      gi_wp2
      refine hR.mono ?_
      rintro e W3 (⟨rfl, hJ3, hk3⟩ | ⟨rfl, hJx3⟩)
      · gi_wp2
        go_roundw
        case rel => exact ⟨k + 1, by omega, by simp, by rw [upto_succ]; exact hJ3, hnx.trans (((Below.refl n₀ wr).alloc (by omega) _).trans hk3)⟩
        case measure => simp [intOf]; omega
      · gi_wp2
        refine bodyPost_ret (results_none rfl _ _ _) rfl ?_
        exact ⟨⟨_, rfl⟩, .inr ⟨_, ⟨k + 1, by omega, (upto_succ _ _).symm⟩, hJx3⟩⟩
    · obtain rfl : k = len := by omega
      gi_wp2
      go_end0
      exact ⟨⟨_, rfl⟩, .inl ⟨_, rfl, hJs⟩⟩

set_option maxRecDepth 100000 in
set_option maxHeartbeats 1000000 in
/-- .. at a slice without elements: no round. -/
theorem values1_nil_in (F : Fence) (n : Nat) (h7 : F.fn 54) (hro : F.round = none) (l Bs : Nat) {α : Type} (J : List α → World → Prop) (W : World) (a : Option Addr) (cap : Nat) (hBs : W.cell? ⟨Bs, 0, none⟩ = some (.slice a 0 cap)) (h0 : J [] W) :
    CallsIn F n Tryd.prog 54 #[.func (.yield l) #[] #[], .pointer (some ⟨Bs, 0, none⟩)] W fun e W' => (∃ v, e = .returned v) ∧ J [] W' := by
  refine callsIn_of_wp Tryd.func54 rfl h7 ?_ hro
  simp only [Tryd.ntmps54, List.size_toArray, List.length_cons, List.length_nil, Nat.reduceAdd, Nat.reduceSub, Array.replicate_succ, Array.replicate_zero, List.push_toArray, List.append_toArray, List.nil_append, List.cons_append]
  gi_wp2
  gi_loopw [7] (fun i wr => i = .int .i64 0 ∧ J [] wr) (fun _ _ => 0)
  case atStart => exact ⟨rfl, h0⟩
  case round =>
    obtain ⟨rfl, hJs⟩ := hrel
    gi_wp2
    go_end0
    exact ⟨⟨_, rfl⟩, hJs⟩

set_option maxHeartbeats 1000000 in
/-- slices.Values: the slice value is boxed; the function value captures the box. -/
theorem values_in (F : Fence) (n : Nat) (h5 : F.fn 39) (hro : F.round = none) (a : Option Addr) (len cap : Nat) (w : World) :
    CallsIn F n Tryd.prog 39 #[.slice a len cap] w fun e w' => e = .returned (.func (.func 54) #[] #[.pointer (some ⟨w.heap.size, 0, none⟩)]) ∧ w' = w.alloc (.cells #[.slice a len cap] 53) := by
  refine callsIn_of_wp Tryd.func39 rfl h5 ?_ hro
  simp only [Tryd.ntmps39, List.size_toArray, List.length_cons, List.length_nil, Nat.reduceAdd, Nat.reduceSub, Array.replicate_succ, Array.replicate_zero, List.push_toArray, List.append_toArray, List.nil_append, List.cons_append]
  gi_wp2
  go_ret
  exact ⟨rfl, rfl⟩

theorem upto_list {α : Type} [Inhabited α] (ys : List α) {k : Nat} (hk : k ≤ ys.length) : upto (fun j => ys[j]?.getD default) k = ys.take k := by
  apply List.ext_getElem
  · simp [upto, hk]
  · intro i h1 h2
    have : i < ys.length := by simp [upto] at h1; omega
    simp [upto, this]

/-- slices.Values hands back a value that gives all of the fields, in order; or a beginning of them. -/
theorem values_stops (F : Fence) (n : Nat) (h7 : F.fn 54) (hro : F.round = none) (hn : 1 ≤ n) (Bs n₀ : Nat) (W₀ : World) (sv : Value) (ys : List (FdOk n₀ W₀)) (w : World) (hBs : Bs < w.heap.size) (hn₀ : n₀ ≤ w.heap.size)
    (hc : w.cell? ⟨Bs, 0, none⟩ = some sv) (hI : Flds n₀ w sv (ys.map (·.1))) :
    SeqStopsK F n Tryd.prog 54 #[.pointer (some ⟨Bs, 0, none⟩)] (fun x : FdOk n₀ W₀ => #[.agg #[.int .i64 x.1.tag, .slice x.1.a x.1.len x.1.cap]]) (Below n₀) (fun zs => zs = ys) (fun pre => pre <+: ys) ys.length w := fun l J Jx W hW hJ _ hY h0 => by
  have hc' := (hW.cell (p := ⟨Bs, 0, none⟩) hBs).trans hc
  have hsz := hW.size
  obtain ⟨⟨rfl | ⟨ad, cap, rfl⟩, e⟩ | ⟨b, off, cap, rfl, hb, hl, hm, hcs⟩, _⟩ := hI.below (hW.mono hn₀)
  · have e' : ys = [] := List.map_eq_nil_iff.1 e
    subst e'
    exact (values1_nil_in F n h7 hro l Bs J W none 0 hc' h0).mono fun e W' ⟨he, hj⟩ => ⟨he, .inl ⟨_, rfl, hj⟩⟩
  · have e' : ys = [] := List.map_eq_nil_iff.1 e
    subst e'
    exact (values1_nil_in F n h7 hro l Bs J W _ cap hc' h0).mono fun e W' ⟨he, hj⟩ => ⟨he, .inl ⟨_, rfl, hj⟩⟩
  · by_cases hy0 : ys.length = 0
    · have e' : ys = [] := List.eq_nil_of_length_eq_zero hy0
      subst e'
      have d : FdOk n₀ W₀ := ⟨⟨0, none, 0, 0, []⟩, ⟨⟨.inl ⟨.inl rfl, rfl⟩, fun z hz => by cases hz⟩, by decide, by decide⟩⟩
      refine (values1_in F n h7 hro hn l Bs n₀ b off 0 cap (fun _ => d) (fun x => x.1) (by omega) hb J Jx W (by omega) hJ hY hc' (fun j hj => by omega) h0).mono ?_
      rintro e W' ⟨he, ⟨zs, rfl, hj⟩ | ⟨pre, ⟨k, hk, rfl⟩, hj⟩⟩
      · exact ⟨he, .inl ⟨_, rfl, hj⟩⟩
      · obtain rfl : k = 0 := by omega
        exact ⟨he, .inr ⟨_, List.prefix_rfl, hj⟩⟩
    · haveI : Inhabited (FdOk n₀ W₀) := ⟨ys[0]'(by omega)⟩
      simp only [List.length_map] at hc' hl
      refine (values1_in F n h7 hro hn l Bs n₀ b off ys.length cap (fun j => ys[j]?.getD default) (fun x => x.1) (by unfold maxLen at hm; omega) hb J Jx W (by omega) hJ hY hc' (fun j hj => hcs j _ (by simp [hj])) h0).mono ?_
      rintro e W' ⟨he, ⟨zs, rfl, hj⟩ | ⟨pre, ⟨k, hk, rfl⟩, hj⟩⟩
      · exact ⟨he, .inl ⟨_, by rw [upto_list ys (Nat.le_refl _), List.take_length], hj⟩⟩
      · exact ⟨he, .inr ⟨_, by rw [upto_list ys hk]; exact List.take_prefix _ _, hj⟩⟩
end Go.Proofs.YtmahpceokpajgaaDoor.C
