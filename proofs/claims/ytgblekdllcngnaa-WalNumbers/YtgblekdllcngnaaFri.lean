/- The iterator wal.frames: which frames it gives, in order. -/
import Derived.Test.YtgblekdllcngnaaFrc
import Derived.Test.YtgblekdllcngnaaIter
namespace Go.Proofs.Ytgblekdllcngnaa
open Go.RowKit Go.Shelf Plain Go.IntWalk
set_option linter.unusedVariables false
attribute [local go_sem] Oper.semAt_some

/-- A frame as it is given: its slice, its bytes. -/
abbrev FrOk (n₀ : Nat) (W : World) := { p : Value × List Int // Bts n₀ W p.1 p.2 ∧ 7 ≤ p.2.length ∧ p.2.length ≤ 1006 }
def fby {n₀ : Nat} {W : World} (ys : List (FrOk n₀ W)) : List (List Int) := ys.map (fun y => y.1.2)
theorem fby_snoc {n₀ : Nat} {W : World} (ys : List (FrOk n₀ W)) (x : FrOk n₀ W) : fby (ys ++ [x]) = fby ys ++ [x.1.2] := by unfold fby; rw [List.map_append]; rfl

set_option maxRecDepth 100000 in
set_option maxHeartbeats 4000000 in
theorem frames1_in (n : Nat) (hn : 3 ≤ n) (l Bs n₀ : Nat) (W₀ : World) (zs : List Int) (sv : Value) (J Jx : List (FrOk n₀ W₀) → World → Prop) (W : World) (hn0 : n₀ ≤ W.heap.size) (hBW : Below n₀ W₀ W) (hJa : AbidesFrom W.heap.size J)
    (hY : ∀ pre x W, J pre W → pre.length < zs.length + 1 → YieldAt Fence.wide (n - 1) Try.prog l #[x.1.1] W fun e W' =>
      (e = .returned (.bool true) ∧ J (pre ++ [x]) W' ∧ Below n₀ W W') ∨ (e = .returned (.bool false) ∧ Jx (pre ++ [x]) W'))
    (hBs : W.cell? ⟨Bs, 0, none⟩ = some sv) (hz : Bts n₀ W sv zs) (h0 : J [] W) :
    CallsIn Fence.wide n Try.prog 57 #[.func (.yield l) #[] #[], .pointer (some ⟨Bs, 0, none⟩)] W fun e W' => (∃ v, e = .returned v) ∧
      ((∃ ys, fby ys = frs zs ∧ J ys W') ∨ (∃ pre, fby pre <+: frs zs ∧ Jx pre W')) := by
  refine callsIn_of_wp Try.func57 rfl trivial ?_ rfl
  simp only [Try.ntmps57, List.size_toArray, List.length_cons, List.length_nil, Nat.reduceAdd, Nat.reduceSub, Array.replicate_succ, Array.replicate_zero, List.push_toArray, List.append_toArray, List.nil_append, List.cons_append]
  obtain ⟨a, len, cap, rfl, hlen⟩ := hz.form
  clear hlen
  gi_wp2_with fail
  gi_loopw [3] (fun v wr => ∃ (pre : List (FrOk n₀ W₀)) (rest : List Int), Bts n₀ wr v rest ∧ frs zs = fby pre ++ frs rest ∧ J pre wr ∧ Below n₀ W wr) (fun v _ => lenV v)
  case atStart => exact ⟨[], zs, hz, rfl, h0, Below.refl _ _⟩
  case round =>
    obtain ⟨pre, rest, hbr, hp, hJs, hnx⟩ := hrel
    obtain ⟨ra, rl, rc, rfl, hrl⟩ := hbr.form
    have hsz := hnx.size
    have hprel : pre.length < zs.length + 1 := by
      have h1 := frs_len_le zs
      rw [hp, List.length_append] at h1
      unfold fby at h1
      rw [List.length_map] at h1
      omega
    have HR : Hid (rl = rest.length) := hrl
    clear hrl
    gi_wp2_with fail
    refine ⟨trivial, (fun h => by cases h), ?_⟩
    refine (callsIn_wide.2 (frameSize_any n₀ _ rl rc rest _ hbr)).mono ?_
    rintro e w1 ⟨rfl, hB1⟩
    have hs1 := hB1.size
    have hJ1 : J pre w1 := hJa _ wr _ none hJs (below_grown hB1) (fun _ e => by cases e)
    have hb1 : Bts n₀ w1 (.slice ra rl rc) rest := hbr.below (hB1.mono (by omega))
    by_cases hf : fsz rest = 0
    · have hp' : frs zs = fby pre := by rw [hp, frs_none hf, List.append_nil]
      rw [show ((fsz rest : Nat) : Int) = 0 from by omega]
      clear hf
      gi_wp2
      refine ⟨(fun _ h => by cases h), ?_⟩
      gi_wp2
      refine bodyPost_ret (results_none rfl _ _ _) rfl ?_
      exact ⟨⟨_, rfl⟩, .inl ⟨pre, hp'.symm, hJ1⟩⟩
    · have hle := fsz_le rest
      have hpo := fsz_pos hf
      have hcap := bts_cap hb1
      have hrl := HR.out
      have hb2 := bts_cut hb1 0 (fsz rest) (by omega) (by omega)
      rw [List.drop_zero, Nat.sub_zero, Nat.sub_zero] at hb2
      have hb3 := bts_cut hb1 (fsz rest) rl (by omega) (Nat.le_refl _)
      rw [hrl, take_drop_all, ← hrl] at hb3
      have hfe := frs_some hf
      have htl : (rest.take (fsz rest)).length = fsz rest := by rw [List.length_take]; omega
      have hr1 := fun W => run_h 32 Try.underlying32 W ra rl rc (fsz rest) (by omega) (by omega)
      have hr2 := fun W => run_l 32 Try.underlying32 W ra rl rc (fsz rest) (by omega) (by omega) (by omega)
      simp only [Int.toNat_natCast] at hr1 hr2
      have hne0 : ((fsz rest : Int) == 0) = false := by simp; omega
      have HP : Hid (7 ≤ fsz rest ∧ fsz rest ≤ 1006) := hpo
      have HT : Hid ((rest.take (fsz rest)).length = fsz rest) := htl
      generalize fsz rest = N at *
      clear htl hpo hle hf hcap hrl hbr
      have hx0 : Bts n₀ W₀ (.slice (cutA ra rc 0) N rc) (rest.take N) := hb2.above (hBW.trans (hnx.trans (hB1.mono (by omega))))
      have hlx : 7 ≤ (rest.take N).length ∧ (rest.take N).length ≤ 1006 := by rw [HT.out]; exact HP.out
      obtain ⟨fn, tmps, assign, body, hy, hR⟩ := hY pre ⟨(.slice (cutA ra rc 0) N rc, rest.take N), hx0, hlx.1, hlx.2⟩ _ hJ1 hprel
      dsimp only at hy
      gi_wp2
      refine ⟨(fun h => by cases h), hR.mono ?_⟩
      rintro e W3 (⟨rfl, hJ3, hk3⟩ | ⟨rfl, hJx3⟩)
      · gi_wp2
        go_roundw
        case rel =>
          refine ⟨pre ++ [⟨(.slice (cutA ra rc 0) N rc, rest.take N), hx0, hlx.1, hlx.2⟩], rest.drop N, hb3.below hk3, ?_, hJ3, hnx.trans ((hB1.mono (by omega)).trans hk3)⟩
          rw [fby_snoc, List.append_assoc, hp, hfe]
          rfl
        case measure => have := HP.out; have := HR.out; have := HT.out; have := List.length_take (i := N) (l := rest); simp only [lenV]; omega
      · gi_wp2
        refine bodyPost_ret (results_none rfl _ _ _) rfl ?_
        refine ⟨⟨_, rfl⟩, .inr ⟨_, ?_, hJx3⟩⟩
        rw [fby_snoc, hp, hfe]
        exact ⟨frs (rest.drop N), by simp⟩
set_option maxHeartbeats 1000000 in
/-- wal.frames: the bytes are boxed; the function value captures the box. -/
theorem frames_in (n : Nat) (a : Option Addr) (len cap : Nat) (w : World) :
    CallsIn Fence.wide n Try.prog 42 #[.slice a len cap] w fun e w' => e = .returned (.func (.func 57) #[] #[.pointer (some ⟨w.heap.size, 0, none⟩)]) ∧ w' = w.alloc (.cells #[.slice a len cap] 32) := by
  refine callsIn_of_wp Try.func42 rfl trivial ?_ rfl
  simp only [Try.ntmps42, List.size_toArray, List.length_cons, List.length_nil, Nat.reduceAdd, Nat.reduceSub, Array.replicate_succ, Array.replicate_zero, List.push_toArray, List.append_toArray, List.nil_append, List.cons_append]
  gi_wp2
  go_ret
  exact ⟨rfl, rfl⟩
theorem frames_stops (n : Nat) (hn : 3 ≤ n) (Bs n₀ : Nat) (W₀ : World) (sv : Value) (zs : List Int) (w : World) (hBs : Bs < w.heap.size) (hn₀ : n₀ ≤ w.heap.size) (hB : Below n₀ W₀ w)
    (hc : w.cell? ⟨Bs, 0, none⟩ = some sv) (hz : Bts n₀ w sv zs) :
    SeqStopsK Fence.wide n Try.prog 57 #[.pointer (some ⟨Bs, 0, none⟩)] (fun x : FrOk n₀ W₀ => #[x.1.1]) (Below n₀) (fun ys => fby ys = frs zs) (fun pre => fby pre <+: frs zs) (zs.length + 1) w := fun l J Jx W hW hJ _ hY h0 => by
  have hc' := (hW.cell (p := ⟨Bs, 0, none⟩) hBs).trans hc
  have hsz := hW.size
  exact frames1_in n hn l Bs n₀ W₀ zs sv J Jx W (by omega) (hB.trans (hW.mono hn₀)) hJ hY hc' (hz.below (hW.mono hn₀)) h0
end Go.Proofs.Ytgblekdllcngnaa
