/- The iterator Trie.along. -/
import Derived.Test.YtpcdmjalfabbmaaPut
import Derived.RangeFuncKeeps
import Derived.RangeFuncBound
import Derived.RangeFuncLeaves
import Derived.RangeFuncNested
import Derived.RangeFuncCalls
import Derived.OwnWalkIn
import Derived.TacticsInMore
import Derived.Shelf.Abstract
import Derived.LoopIn
import Derived.LoopNIn
import Derived.Shelf.RegionOpen
import Derived.RangeFuncBox
namespace Go.Proofs.Ytpcdmjalfabbmaa
open Go.RowKit Go.Shelf Go.IntWalk Go.Maps
set_option linter.unusedVariables false
attribute [local go_sem] Oper.semAt_some
/-- The places shorter than n that begin k. -/
def al (P : List K) (k : K) (n : Nat) : List K := ((List.range n).map fun i => k.take i).filter fun q => decide (q ∈ P)
theorem al_zero (P : List K) (k : K) : al P k 0 = [] := rfl
theorem al_succ (P : List K) (k : K) (n : Nat) : al P k (n + 1) = al P k n ++ if k.take n ∈ P then [k.take n] else [] := by
  unfold al
  rw [List.range_succ, List.map_append, List.filter_append]
  congr 1
  by_cases h : k.take n ∈ P <;> simp [h]
theorem al_at {P : List K} {k p : K} (hp : p ∈ P) (h : p <+: k) : al P k (p.length + 1) = al P k p.length ++ [p] := by
  have e := (List.prefix_iff_eq_take.1 h).symm
  rw [al_succ, e, if_pos hp]
theorem al_skip {P : List K} {k : K} {m : Nat} : ∀ (d : Nat), (∀ i, m ≤ i → i < m + d → k.take i ∉ P) → al P k (m + d) = al P k m
  | 0, _ => rfl
  | d + 1, h => by
    rw [← Nat.add_assoc, al_succ, if_neg (h (m + d) (by omega) (by omega)), List.append_nil]
    exact al_skip d fun i h1 h2 => h i h1 (by omega)
theorem al_len (P : List K) (k : K) (n : Nat) : (al P k n).length ≤ n := by
  unfold al
  refine Nat.le_trans (List.length_filter_le _ _) ?_
  simp
theorem al_kid {P : List K} {k p q : K} (hK : Kid P p q) (h : q <+: k) : al P k q.length = al P k p.length ++ [p] := by
  have hl := pre_len_lt hK.pre hK.ne
  have hp := hK.pre.trans h
  obtain ⟨d, hd⟩ : ∃ d, q.length = p.length + 1 + d := ⟨q.length - (p.length + 1), by omega⟩
  rw [hd, al_skip d, al_at hK.up hp]
  intro i h1 h2 hi
  have hik : k.take i <+: k := List.take_prefix i k
  have hil : (k.take i).length = i := by
    rw [List.length_take]
    have := h.length_le
    omega
  have a1 : p <+: k.take i := by
    rcases pre_lin hp hik with h3 | h3
    · exact h3
    · have := h3.length_le
      omega
  have a2 : k.take i <+: q := by
    rcases pre_lin hik h with h3 | h3
    · exact h3
    · have := h3.length_le
      omega
  rcases hK.btw _ hi a1 a2 with e | e
  · have := congrArg List.length e
    omega
  · have := congrArg List.length e
    omega
theorem al_top {P : List K} {k p : K} (hT : Top P k p) : al P k (k.length + 1) = al P k p.length ++ [p] := by
  have hl := hT.2.1.length_le
  obtain ⟨d, hd⟩ : ∃ d, k.length + 1 = p.length + 1 + d := ⟨k.length - p.length, by omega⟩
  rw [hd, al_skip d, al_at hT.1 hT.2.1]
  intro i h1 h2 hi
  have h3 := (hT.2.2 _ hi (List.take_prefix i k)).length_le
  rw [List.length_take] at h3
  omega
theorem Tm.below {w w' : World} {P : List K} {nb mb : K → Nat} {lab : K → K} {e : K → Option ByteArray} {n₀ : Nat} (h : Tm w P nb mb lab e) (hf : ∀ j, Fp P nb mb j → j < n₀) (hB : Below n₀ w w') : Tm w' P nb mb lab e := h.kept fun j hj => hB.block j (hf j hj)
set_option maxRecDepth 100000 in
set_option maxHeartbeats 4000000 in
theorem along1_in (n : Nat) (hn : 3 ≤ n) (l Bt Bk n₀ tb : Nat) {P : List K} {nb mb : K → Nat} {lab : K → K} {e : K → Option ByteArray} {m : Nat} (k : K) (hk : k.length ≤ 9223372036854775807) (J Jx : List K → World → Prop) (W : World) (hn0 : n₀ ≤ W.heap.size) (hJa : AbidesFrom W.heap.size J)
    (hY : ∀ pre x W, x ∈ P → x <+: k → J pre W → pre.length < k.length + 2 → YieldAt Fence.wide (n - 1) Try.prog l #[ptr (nb x), .string (bt (k.drop x.length))] W fun e W' =>
      (e = .returned (.bool true) ∧ J (pre ++ [x]) W' ∧ Below n₀ W W') ∨ (e = .returned (.bool false) ∧ Jx (pre ++ [x]) W'))
    (hBt : W.cell? ⟨Bt, 0, none⟩ = some (ptr tb)) (hBk : W.cell? ⟨Bk, 0, none⟩ = some (.string (bt k))) (hT : Tw W tb P nb mb lab e m) (hf : ∀ j, Fp P nb mb j → j < n₀) (h0 : J [] W) :
    CallsIn Fence.wide n Try.prog 45 #[.func (.yield l) #[] #[], ptr Bt, ptr Bk] W fun e W' => (∃ v, e = .returned v) ∧
      ((∃ ys, ys = al P k (k.length + 1) ∧ J ys W') ∨ (∃ pre, True ∧ Jx pre W')) := by
  refine callsIn_of_wp Try.func45 rfl trivial ?_ rfl
  simp only [Try.ntmps45, List.size_toArray, List.length_cons, List.length_nil, Nat.reduceAdd, Nat.reduceSub, Array.replicate_succ, Array.replicate_zero, List.push_toArray, List.append_toArray, List.nil_append, List.cons_append]
  haveI := lat_nonempty W
  have g1 := lat_cell hBt
  have g2 := lat_cell hBk
  have g3 := lat_cell hT.c0
  gi_wp2_with fail
  refine wpIn_wide.2 ?_
  refine wp_region_lat (by kernel_rfl) (by kernel_rfl) ?_
  repeat (go_big_quiet_step (fail))
  refine wpQuiet_nil ?_
  intro _ hw'
  obtain ⟨q, hw''⟩ := hw'
  subst hw''
  have hg0 := q.h
  obtain ⟨w1, hw1⟩ : ∃ w1, w1 = q.W := ⟨_, rfl⟩
  rw [← hw1] at hg0 ⊢
  clear hw1 q g1 g2 g3
  gi_wp2_with fail
  have hB1 : Below n₀ W w1 := ⟨hg0.os, hg0.tape, hg0.output, hg0.size, fun j hj => hg0.block j (by omega) (by simp)⟩
  have hJ1 : J [] w1 := hJa _ W _ none h0 hg0 (fun _ e => by cases e)
  have hst : Hid (J (al P k ([] : K).length) w1 ∧ Below n₀ W w1) := ⟨hJ1, hB1⟩
  clear hJ1 hB1 hg0 h0
  have htl := bt_toList
  gi_loopw [4, 5, 6] (fun s4 s5 s6 wr => ∃ p : K, p ∈ P ∧ p <+: k ∧ s4 = ptr (nb p) ∧ s5 = .string (bt (k.drop p.length)) ∧ Hid (J (al P k p.length) wr ∧ Below n₀ W wr))
    (fun _ s5 _ _ => match s5 with | .string s => s.size | _ => 0)
  case atStart => exact ⟨[], hT.tm.root, List.nil_prefix, rfl, rfl, hst⟩
  case round =>
    clear hst
    obtain ⟨p, hp, hpk, rfl, rfl, hR⟩ := hrel
    obtain ⟨hJs, hnx⟩ := hR.out
    have hsz := hnx.size
    have hple := hpk.length_le
    have hall := al_len P k p.length
    obtain ⟨fn, tmps, assign, body, hy, hR2⟩ := hY (al P k p.length) p _ hp hpk hJs (by omega)
    obtain ⟨rest, hr⟩ : ∃ rest, Hid (k.drop p.length = rest) := ⟨_, ⟨rfl⟩⟩
    rw [hr.out] at hy ⊢
    cases rest with
    | nil =>
      have hpe : p = k := hpk.eq_of_length (by have := congrArg List.length hr.out; simp at this; omega)
      have hend : Hid (al P k (k.length + 1) = al P k p.length ++ [p]) := ⟨al_top (hpe ▸ top_end hp)⟩
      rw [bt_nil] at hy ⊢
      clear hpe
      gi_wp2
      refine ⟨(fun h => by cases h), hR2.mono ?_⟩
      rintro e' W3 (⟨rfl, hJ3, hk3⟩ | ⟨rfl, hJx3⟩)
      · gi_wp2
        go_end0
        exact ⟨⟨_, rfl⟩, .inl ⟨_, hend.out.symm, hJ3⟩⟩
      · gi_wp2
        go_end0
        exact ⟨⟨_, rfl⟩, .inr ⟨_, trivial, hJx3⟩⟩
    | cons c t =>
      have hkp : Hid (p ++ c :: t = k) := ⟨by
        obtain ⟨x, hx⟩ := hpk
        have e1 := hr.out
        rw [← hx, List.drop_left' rfl] at e1
        rw [← hx, e1]⟩
      have hsz2 := bt_size (c :: t)
      have hl0 : 0 < (c :: t).length := by simp
      have hlen : (c :: t).length ≤ 9223372036854775807 := by
        have := congrArg List.length hr.out
        simp at this ⊢
        omega
      have hne : Hid ((c :: t == ([] : K)) = false) := ⟨rfl⟩
      have ix := get_bt (k := c :: t) (i := 0) (c := c) rfl
      obtain ⟨rest, hrest⟩ : ∃ rest, Hid (c :: t = rest) := ⟨_, ⟨rfl⟩⟩
      have hne2 := hne.out
      have hne3 : rest ≠ [] := by rw [← hrest.out]; simp
      rw [hrest.out] at hy hsz2 hl0 hlen ix hne2 ⊢
      gi_wp2
      refine ⟨(fun h => by cases h), hR2.mono ?_⟩
      rintro e' W3 (⟨rfl, hJ3, hk3⟩ | ⟨rfl, hJx3⟩)
      · have tm3 := hT.tm.below hf (hnx.trans hk3)
        obtain ⟨f, hkm, hF⟩ := tm3.km p hp
        haveI := lat_nonempty W3
        have k3 := lat_cell (tm3.c3 hp)
        cases hc : f c with
        | none =>
          have hTop := (top_none (l := t) hp (hF.none.1 hc)).1
          rw [hkp.out] at hTop
          have hend : Hid (al P k (k.length + 1) = al P k p.length ++ [p]) := ⟨al_top hTop⟩
          have kl := fun q : Lat W3 => (hkm.kept (q.h.block _ hkm.lt (by simp))).look_none hc
          clear hTop
          gi_wp2_with fail
          refine wpIn_wide.2 ?_
          refine wp_region_lat (by kernel_rfl) (by kernel_rfl) ?_
          repeat (go_big_quiet_step (fail))
          refine wpQuiet_nil ?_
          intro _ hw'
          obtain ⟨q, hw''⟩ := hw'
          subst hw''
          have hJ4 : J (al P k p.length ++ [p]) q.W := hJa _ W3 _ none hJ3 q.h (fun _ e => by cases e)
          gi_wp2_with fail
          refine ⟨trivial, ?_⟩
          gi_wp2
          refine bodyPost_ret (results_none rfl _ _ _) rfl ?_
          exact ⟨⟨_, rfl⟩, .inl ⟨_, hend.out.symm, hJ4⟩⟩
        | some b =>
          obtain ⟨q, hK, hcq, rfl⟩ := (hF c b).1 hc
          have kl := fun x : Lat W3 => (hkm.kept (x.h.block _ hkm.lt (by simp))).look hc
          have hlb := tm3.lb p q hK
          have hqi : lab q <+: c :: t ↔ q <+: k := by
            constructor
            · intro h1
              rw [hlb, ← hkp.out]
              exact (List.prefix_append_right_inj p).2 h1
            · intro h1
              rw [hlb, ← hkp.out] at h1
              exact (List.prefix_append_right_inj p).1 h1
          have hll : q.length = p.length + (lab q).length := by have := congrArg List.length hlb; simpa using this
          have n0 := tm3.c0 hK.lo
          replace hlb : Hid _ := ⟨hlb⟩
          replace hll : Hid _ := ⟨hll⟩
          by_cases hqk : q <+: k
          · have hp2 := hqi.2 hqk
            rw [hrest.out] at hp2 hqi
            have hhas := fun x => has_any x rest (lab q) (b := true) ⟨by simpa using hp2⟩
            have hle := hp2.length_le
            replace hqi : Hid _ := ⟨hqi⟩
            replace hp2 : Hid _ := ⟨hp2⟩
            have hcut := cut_bt rest (lab q).length
            have hszl := bt_size (lab q)
            obtain ⟨R, hRl⟩ : ∃ R, Hid ((lab q).length = R) := ⟨_, ⟨rfl⟩⟩
            rw [hRl.out] at hle hcut hszl
            have hle2 : (R : Int) ≤ rest.length := by omega
            gi_wp2_with fail
            refine wpIn_wide.2 ?_
            refine wp_region_lat (by kernel_rfl) (by kernel_rfl) ?_
            repeat (go_big_quiet_step (fail))
            refine wpQuiet_nil ?_
            intro _ hw'
            obtain ⟨x, hw''⟩ := hw'
            subst hw''
            have hJ4 : J (al P k p.length ++ [p]) x.W := hJa _ W3 _ none hJ3 x.h (fun _ e => by cases e)
            have hg4 := x.h
            have n4 := grown_cell x.h n0
            generalize x.W = w4 at *
            clear kl k3 n0 x ix
            gi_wp2_with fail
            refine ⟨trivial, fun h => (by cases h), ?_⟩
            refine (callsIn_wide.2 (hhas w4)).mono ?_
            rintro e2 w5 ⟨rfl, rfl⟩
            haveI := lat_nonempty w5
            have n5 := lat_cell n4
            gi_wp2_with fail
            refine wpIn_wide.2 ?_
            refine wp_region_lat (by kernel_rfl) (by kernel_rfl) ?_
            repeat (go_big_quiet_step (fail))
            refine wpQuiet_nil ?_
            intro _ hw'
            obtain ⟨x, hw''⟩ := hw'
            subst hw''
            have hJ6 : J (al P k p.length ++ [p]) x.W := hJa _ w5 _ none hJ4 x.h (fun _ e => by cases e)
            have hg6 := grown_none hg4 x.h
            generalize x.W = w6 at *
            gi_wp2
            have hpl := pre_len_lt hK.pre hK.ne
            have e1 := hll.out
            have e2 := hRl.out
            have hs3 := hk3.size
            refine ⟨⟨q, hK.lo, hqk, rfl, ?_, ⟨al_kid hK hqk ▸ hJ6, (hnx.trans hk3).trans ⟨hg6.os, hg6.tape, hg6.output, hg6.size, fun j hj => hg6.block j (by omega) (by simp)⟩⟩⟩, ?_⟩
            · have e3 : k.drop q.length = rest.drop R := by
                rw [← hkp.out, hrest.out, e1, ← List.drop_drop, List.drop_left' rfl, e2]
              rw [e3]
            · simp only [bt_size, List.length_drop]
              omega
          · have hp2 : ¬ lab q <+: c :: t := fun h1 => hqk (hqi.1 h1)
            have hTop := top_off (l := t) tm3.cl hK hcq (by rw [hkp.out]; exact hqk)
            rw [hkp.out] at hTop
            have hend : Hid (al P k (k.length + 1) = al P k p.length ++ [p]) := ⟨al_top hTop⟩
            rw [hrest.out] at hp2 hqi
            have hhas := fun x => has_any x rest (lab q) (b := false) ⟨by simpa using hp2⟩
            replace hqi : Hid _ := ⟨hqi⟩
            replace hp2 : Hid _ := ⟨hp2⟩
            clear hTop
            gi_wp2_with fail
            refine wpIn_wide.2 ?_
            refine wp_region_lat (by kernel_rfl) (by kernel_rfl) ?_
            repeat (go_big_quiet_step (fail))
            refine wpQuiet_nil ?_
            intro _ hw'
            obtain ⟨x, hw''⟩ := hw'
            subst hw''
            have hJ4 : J (al P k p.length ++ [p]) x.W := hJa _ W3 _ none hJ3 x.h (fun _ e => by cases e)
            have hg4 := x.h
            have n4 := grown_cell x.h n0
            generalize x.W = w4 at *
            clear kl k3 n0 x ix
            gi_wp2_with fail
            refine ⟨trivial, fun h => (by cases h), ?_⟩
            refine (callsIn_wide.2 (hhas w4)).mono ?_
            rintro e2 w5 ⟨rfl, rfl⟩
            gi_wp2
            refine bodyPost_ret (results_none rfl _ _ _) rfl ?_
            exact ⟨⟨_, rfl⟩, .inl ⟨_, hend.out.symm, hJ4⟩⟩
      · gi_wp2
        go_end0
        exact ⟨⟨_, rfl⟩, .inr ⟨_, trivial, hJx3⟩⟩
set_option maxHeartbeats 1000000 in
/-- Trie.along: the trie and the key are boxed. -/
theorem along_in (n : Nat) (a : Option Addr) (k : K) (w : World) :
    CallsIn Fence.wide n Try.prog 37 #[.pointer a, .string (bt k)] w fun e w' => e = .returned (.func (.func 45) #[] #[ptr w.heap.size, ptr (w.heap.size + 1)]) ∧ w' = (w.alloc (.cells #[.pointer a] 25)).alloc (.cells #[.string (bt k)] 9) := by
  refine callsIn_of_wp Try.func37 rfl trivial ?_ rfl
  simp only [Try.ntmps37, List.size_toArray, List.length_cons, List.length_nil, Nat.reduceAdd, Nat.reduceSub, Array.replicate_succ, Array.replicate_zero, List.push_toArray, List.append_toArray, List.nil_append, List.cons_append]
  gi_wp2
  go_ret
  exact ⟨rfl, rfl⟩
/-- What it hands back tells the places along a key. -/
theorem along_stops (n : Nat) (hn : 3 ≤ n) (Bt Bk n₀ tb : Nat) {P : List K} {nb mb : K → Nat} {lab : K → K} {e : K → Option ByteArray} {m : Nat} (k : K) (hk : k.length ≤ 9223372036854775807) (w : World) (hBt : Bt < w.heap.size) (hBk : Bk < w.heap.size) (hn₀ : n₀ ≤ w.heap.size)
    (hct : w.cell? ⟨Bt, 0, none⟩ = some (ptr tb)) (hck : w.cell? ⟨Bk, 0, none⟩ = some (.string (bt k))) (hT : Tw w tb P nb mb lab e m) (hf : ∀ j, Ft tb P nb mb j → j < n₀) :
    SeqStopsK Fence.wide n Try.prog 45 #[ptr Bt, ptr Bk] (fun x : K => #[ptr (nb x), .string (bt (k.drop x.length))]) (Below n₀) (fun ys => ys = al P k (k.length + 1)) (fun _ => True) (k.length + 2) w := fun l J Jx W hW hJ _ hY h0 => by
  have hsz := hW.size
  exact along1_in n hn l Bt Bk n₀ tb k hk J Jx W (by omega) hJ (fun pre x W _ _ => hY pre x W) ((hW.cell (p := ⟨Bt, 0, none⟩) hBt).trans hct) ((hW.cell (p := ⟨Bk, 0, none⟩) hBk).trans hck) (hT.kept fun j hj => hW.block j (by have := hf j hj; omega)) (fun j hj => hf j (.inr hj)) h0
/-- A place that begins a key. -/
abbrev Pk (P : List K) (k : K) := { x : K // x ∈ P ∧ x <+: k }
def pks {P : List K} {k : K} (ys : List (Pk P k)) : List K := ys.map (fun y => y.1)
theorem pks_snoc {P : List K} {k : K} (ys : List (Pk P k)) (x : Pk P k) : pks (ys ++ [x]) = pks ys ++ [x.1] := by simp [pks]
theorem pks_len {P : List K} {k : K} (ys : List (Pk P k)) : (pks ys).length = ys.length := by simp [pks]
theorem along_stopsP (n : Nat) (hn : 3 ≤ n) (Bt Bk n₀ tb : Nat) {P : List K} {nb mb : K → Nat} {lab : K → K} {e : K → Option ByteArray} {m : Nat} (k : K) (hk : k.length ≤ 9223372036854775807) (w : World) (hBt : Bt < w.heap.size) (hBk : Bk < w.heap.size) (hn₀ : n₀ ≤ w.heap.size)
    (hct : w.cell? ⟨Bt, 0, none⟩ = some (ptr tb)) (hck : w.cell? ⟨Bk, 0, none⟩ = some (.string (bt k))) (hT : Tw w tb P nb mb lab e m) (hf : ∀ j, Ft tb P nb mb j → j < n₀) :
    SeqStopsK Fence.wide n Try.prog 45 #[ptr Bt, ptr Bk] (fun x : Pk P k => #[ptr (nb x.1), .string (bt (k.drop x.1.length))]) (Below n₀) (fun ys => pks ys = al P k (k.length + 1)) (fun _ => True) (k.length + 2) w := fun l J Jx W hW hJ _ hY h0 => by
  have hsz := hW.size
  refine (along1_in n hn l Bt Bk n₀ tb k hk (fun ys W => ∃ zs : List (Pk P k), pks zs = ys ∧ J zs W) (fun ys W => ∃ zs : List (Pk P k), pks zs = ys ∧ Jx zs W) W (by omega) (fun s X Y row hs hg hr => ?_) (fun pre x W hx hxk hj hl => ?_) ((hW.cell (p := ⟨Bt, 0, none⟩) hBt).trans hct) ((hW.cell (p := ⟨Bk, 0, none⟩) hBk).trans hck) (hT.kept fun j hj => hW.block j (by have := hf j hj; omega)) (fun j hj => hf j (.inr hj)) ⟨[], rfl, h0⟩).mono ?_
  · obtain ⟨zs, h1, h2⟩ := hs
    exact ⟨zs, h1, hJ _ _ _ _ h2 hg hr⟩
  · obtain ⟨zs, rfl, h2⟩ := hj
    rw [pks_len] at hl
    refine (hY zs ⟨x, hx, hxk⟩ W h2 hl).mono ?_
    rintro e' W' (⟨h3, h4, h5⟩ | ⟨h3, h4⟩)
    · exact .inl ⟨h3, ⟨_, pks_snoc _ _, h4⟩, h5⟩
    · exact .inr ⟨h3, _, pks_snoc _ _, h4⟩
  · rintro e' W' ⟨h1, (⟨ys, rfl, zs, h3, h4⟩ | ⟨pre, _, zs, h3, h4⟩)⟩
    · exact ⟨h1, .inl ⟨zs, h3, h4⟩⟩
    · exact ⟨h1, .inr ⟨zs, trivial, h4⟩⟩
set_option maxRecDepth 100000 in
set_option maxHeartbeats 1000000 in
/-- .. of no trie: nothing. -/
theorem alongnil_stops (n : Nat) (hn : 3 ≤ n) (Bt Bk n₀ : Nat) {nb : K → Nat} (k : K) (w : World) (hBt : Bt < w.heap.size) (hct : w.cell? ⟨Bt, 0, none⟩ = some (.pointer none)) :
    SeqStopsK Fence.wide n Try.prog 45 #[ptr Bt, ptr Bk] (fun x : K => #[ptr (nb x), .string (bt (k.drop x.length))]) (Below n₀) (fun ys => ys = []) (fun _ => True) (k.length + 2) w := fun l J Jx W hW hJ _ hY h0 => by
  have hc := (hW.cell (p := ⟨Bt, 0, none⟩) hBt).trans hct
  refine callsIn_of_wp Try.func45 rfl trivial ?_ rfl
  simp only [List.append_toArray, List.cons_append, List.nil_append, Try.ntmps45, List.size_toArray, List.length_cons, List.length_nil, Nat.reduceAdd, Nat.reduceSub, Array.replicate_succ, Array.replicate_zero, List.push_toArray]
  gi_wp2
  refine bodyPost_ret (results_none rfl _ _ _) rfl ?_
  exact ⟨⟨_, rfl⟩, .inl h0⟩
end Go.Proofs.Ytpcdmjalfabbmaa
