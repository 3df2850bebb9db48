/- What a disk's Read, Safe, Root, Swap and Remove do. -/
import Derived.Test.YtgblekdllcngnaaCuts
import Derived.Deep.RegionHeld3
import Derived.RegionTactic
namespace Go.Proofs.Ytgblekdllcngnaa
open Go.RowKit Go.IntWalk Go.Maps
set_option linter.unusedVariables false

theorem grown_cell {w w' : World} (hg : w.grownBy w' none) {a : Addr} {v : Value} (h : w.cell? a = some v) : w'.cell? a = some v := hg.cell h (by simp)
theorem grown_frozen {w w' : World} (hg : w.grownBy w' none) {a : Addr} (h : a.block < w.heap.size) : w'.frozen? a = w.frozen? a := World.frozen?_of_block (hg.block a.block h (by simp))

set_option maxRecDepth 100000 in
set_option maxHeartbeats 1000000 in
/-- disk.Read. -/
theorem read_core (w : World) (dv : Value) (n : Int) (v : Value) (zs : List Int) (s e : Int)
    (hf : Calls Try.prog 50 #[dv, .int .i64 n] w fun r w' => r = .returned (.tuple #[.agg #[v, .int .i64 s], .int .i64 e]) ∧ w.grownBy w' none) (hb : Bts w.heap.size w v zs) (hl : zs.length ≤ 100000) :
    Calls Try.prog 27 #[dv, .int .i64 n] w fun r w' => ∃ v', r = .returned (.tuple #[v', .int .i64 e]) ∧ Btx (fun i => w.heap.size ≤ i) w' v' zs ∧ w.grownBy w' none := by
  obtain ⟨a, cap, rfl⟩ := hb.shape
  go_enter Try.func27, Try.ntmps27
  go_wp2_with fail
  refine hf.mono ?_
  rintro r w1 ⟨rfl, hg⟩
  go_wp2_with fail
  have hg2 := World.grownBy_alloc w1 (.cells #[.slice a zs.length cap, .int .i64 s] 67) none
  refine (clone_any _ zs _ ((hb.grown0 hg).grown0 hg2) hl).mono ?_
  rintro r w2 ⟨v2, rfl, hb2, hg3⟩
  go_wp2
  go_ret2
  have hs := hg.size
  exact ⟨_, rfl, hb2.mono fun k hk => by simp at hk; omega, grown_none (grown_none hg hg2) hg3⟩
theorem read_some (w : World) {sb bm : Nat} {N : Nat → Prop} {l : List Sg} {root : List Int} (h : Dsk w sb bm N l root) {n : Int} {x : Sg} (hx : getS n l = some x) :
    Calls Try.prog 27 #[.pointer (some ⟨sb, 0, none⟩), .int .i64 n] w fun r w' => ∃ v', r = .returned (.tuple #[v', .int .i64 0]) ∧ Btx (fun i => w.heap.size ≤ i) w' v' x.b ∧ w.grownBy w' none := by
  have hseg := h.seg x (getS_mem hx).1
  exact read_core w _ n x.v x.b x.s 0 (find_some w h hx) hseg.2.2.2.2.2.1 (by omega)
theorem read_none (w : World) {sb bm : Nat} {N : Nat → Prop} {l : List Sg} {root : List Int} (h : Dsk w sb bm N l root) {n : Int} (h0 : -9223372036854775808 ≤ n) (h1 : n < 9223372036854775808) (hx : getS n l = none) :
    Calls Try.prog 27 #[.pointer (some ⟨sb, 0, none⟩), .int .i64 n] w fun r w' => ∃ v', r = .returned (.tuple #[v', .int .i64 31]) ∧ Btx (fun i => w.heap.size ≤ i) w' v' [] ∧ w.grownBy w' none :=
  read_core w _ n _ [] 0 31 (find_none w h h0 h1 hx) (Btx.nil (fun _ => True) w).1 (by simp)
theorem read_nil (w : World) (n : Int) :
    Calls Try.prog 27 #[.pointer none, .int .i64 n] w fun r w' => ∃ v', r = .returned (.tuple #[v', .int .i64 1]) ∧ Btx (fun i => w.heap.size ≤ i) w' v' [] ∧ w.grownBy w' none :=
  read_core w _ n _ [] 0 1 (find_nil w n) (Btx.nil (fun _ => True) w).1 (by simp)

set_option maxRecDepth 100000 in
set_option maxHeartbeats 1000000 in
/-- disk.Root. -/
theorem root_any (w : World) {sb bm : Nat} {N : Nat → Prop} {l : List Sg} {root : List Int} (h : Dsk w sb bm N l root) :
    Calls Try.prog 23 #[.pointer (some ⟨sb, 0, none⟩)] w fun r w' => ∃ v', r = .returned v' ∧ Btx (fun i => w.heap.size ≤ i) w' v' root ∧ w.grownBy w' none := by
  obtain ⟨rv, c1, hb⟩ := h.c1
  have hl := h.rl
  obtain ⟨a, cap, rfl⟩ := hb.1.shape
  go_enter Try.func23, Try.ntmps23
  go_wp2_with fail
  refine (clone_any _ root w hb.1 (by omega)).mono ?_
  rintro r w1 ⟨v1, rfl, hb1, hg⟩
  go_wp2
  go_ret
  exact ⟨_, rfl, hb1, hg⟩
set_option maxRecDepth 100000 in
set_option maxHeartbeats 1000000 in
theorem root_nil (w : World) : Calls Try.prog 23 #[.pointer none] w fun r w' => r = .returned (.slice none 0 0) ∧ w = w' := by
  go_enter Try.func23, Try.ntmps23
  go_wp2
  go_ret
  exact ⟨rfl, rfl⟩

set_option maxRecDepth 100000 in
set_option maxHeartbeats 1000000 in
/-- disk.Swap. -/
theorem swap_ok (w : World) {sb bm : Nat} {N : Nat → Prop} {l : List Sg} {root : List Int} (h : Dsk w sb bm N l root) (v : Value) (zs : List Int) (hb : Bts w.heap.size w v zs) (hl : zs.length ≤ 1024) :
    Calls Try.prog 34 #[.pointer (some ⟨sb, 0, none⟩), v] w fun r w' => r = .returned (.int .i64 0) ∧ Dsk w' sb bm (Or_ N w) l zs ∧ w.grownBy w' (some sb) := by
  obtain ⟨a, cap, rfl⟩ := hb.shape
  have hd : decide ((zs.length : Int) > 1024) = false := by simp; omega
  go_enter Try.func34, Try.ntmps34
  go_wp2_with fail
  refine (clone_any _ zs w hb (by omega)).mono ?_
  rintro r w1 ⟨v1, rfl, hb1, hg⟩
  have h1 := h.wide.grown0 hg
  obtain ⟨rv, c1, hr⟩ := h1.c1
  have f1 := h1.f1
  obtain ⟨a1, cap1, rfl⟩ := hb1.1.shape
  go_wp2
  go_ret
  have hg2 := grown_setCell w1 ⟨sb, 1, none⟩ (.slice a1 zs.length cap1)
  have hns : ∀ k, some sb = some k → ¬ Or_ N w k := fun k hk => by cases hk; exact h1.nsb
  refine ⟨rfl, ⟨?_, ⟨_, ?_, ((hb1.mono fun k hk => .inr hk).grown hg2 hns)⟩, ?_, h1.nsb, h1.nbm, World.ownsMap.kept h1.mp hg2 (fun e => h.ne (by cases e; rfl)), h.up, h.len, fun x hx => ?_, hl⟩, grown_same hg hg2⟩
  · have c0 := h1.c0
    go_simp
  · have c0 := h1.c0
    go_simp
  · have c0 := h1.c0
    go_simp
  · obtain ⟨a1, a2, a3, a4, a5, a6⟩ := h1.seg x hx
    exact ⟨a1, a2, a3, a4, a5, a6.grown hg2 hns⟩
set_option maxRecDepth 100000 in
set_option maxHeartbeats 1000000 in
theorem swap_long (w : World) (sb : Nat) (a : Option Addr) (len cap : Nat) (hl : decide ((len : Int) > 1024) = true) :
    Calls Try.prog 34 #[.pointer (some ⟨sb, 0, none⟩), .slice a len cap] w fun r w' => r = .returned (.int .i64 32) ∧ w = w' := by
  go_enter Try.func34, Try.ntmps34
  go_wp2
  go_ret
  exact ⟨rfl, rfl⟩
set_option maxRecDepth 100000 in
set_option maxHeartbeats 1000000 in
theorem swap_nil (w : World) (v : Value) : Calls Try.prog 34 #[.pointer none, v] w fun r w' => r = .returned (.int .i64 1) ∧ w = w' := by
  go_enter Try.func34, Try.ntmps34
  go_wp2
  go_ret
  exact ⟨rfl, rfl⟩

/-- The map has turned. -/
theorem Dsk.turn {w w' : World} {sb bm : Nat} {N : Nat → Prop} {l l' : List Sg} {root : List Int} (h : Dsk w sb bm N l root) (hg : w.grownBy w' (some bm)) (hmp : Mp w' bm l') (hu : Up l') (hl : l'.length ≤ 128)
    (hs : ∀ x ∈ l', 0 ≤ x.n ∧ x.n < 9223372036854775808 ∧ x.b.length ≤ 1024 ∧ 0 ≤ x.s ∧ x.s ≤ x.b.length ∧ Btx N w x.v x.b) : Dsk w' sb bm N l' root := by
  obtain ⟨rv, c1, hr⟩ := h.c1
  have hne : some sb ≠ some bm := fun e => h.ne (by cases e; rfl)
  have hnm : ∀ k, some bm = some k → ¬ N k := fun k hk => by cases hk; exact h.nbm
  exact ⟨hg.cell h.c0 hne, ⟨rv, hg.cell c1 hne, hr.grown hg hnm⟩, (World.frozen?_of_block (a := ⟨sb, 1, none⟩) (hg.block sb h.sbl hne)).trans h.f1, h.nsb, h.nbm, hmp, hu, hl, fun x hx => by
    obtain ⟨a1, a2, a3, a4, a5, a6⟩ := hs x hx
    exact ⟨a1, a2, a3, a4, a5, a6.grown hg hnm⟩, h.rl⟩
theorem Dsk.turn_put {w w' : World} {sb bm : Nat} {N : Nat → Prop} {l : List Sg} {root : List Int} (h : Dsk w sb bm N l root) (hg : w.grownBy w' (some bm)) (x : Sg) (hmp : Mp w' bm (putS x l)) (hl : (getS x.n l).isSome = true ∨ l.length < 128)
    (hx : 0 ≤ x.n ∧ x.n < 9223372036854775808 ∧ x.b.length ≤ 1024 ∧ 0 ≤ x.s ∧ x.s ≤ x.b.length ∧ Btx N w x.v x.b) : Dsk w' sb bm N (putS x l) root := by
  refine h.turn hg hmp (h.up.put x) ?_ fun y hy => ?_
  · rw [putS_length h.up]
    have := h.len
    split
    · exact this
    · rcases hl with hl | hl
      · contradiction
      · omega
  · rcases mem_putS.1 hy with rfl | ⟨hy, _⟩
    · exact hx
    · exact h.seg y hy
set_option maxRecDepth 100000 in
set_option maxHeartbeats 1000000 in
/-- disk.Remove. -/
theorem remove_some (w : World) {sb bm : Nat} {N : Nat → Prop} {l : List Sg} {root : List Int} (h : Dsk w sb bm N l root) {n : Int} {x : Sg} (hx : getS n l = some x) :
    Calls Try.prog 36 #[.pointer (some ⟨sb, 0, none⟩), .int .i64 n] w fun r w' => r = .returned (.int .i64 0) ∧ Dsk w' sb bm N (delS n l) root ∧ w.grownBy w' (some bm) := by
  have hseg := h.seg x (getS_mem hx).1
  have hn := (getS_mem hx).2
  have hf := find_some w h hx
  obtain ⟨xn, xv, xb, xs⟩ := x
  dsimp only at hf hseg hn
  obtain ⟨a, cap, rfl⟩ := hseg.2.2.2.2.2.1.shape
  have h0 : -9223372036854775808 ≤ n := by omega
  have h1 : n < 9223372036854775808 := by omega
  clear hseg
  go_enter Try.func36, Try.ntmps36
  go_wp2_with fail
  refine hf.mono ?_
  rintro r w1 ⟨rfl, hg⟩
  have hg2 := World.grownBy_alloc w1 (.cells #[.slice a xb.length cap, .int .i64 xs] 67) none
  have h2 := (h.grown0 hg).grown0 hg2
  have c0 := h2.c0
  obtain ⟨w3, hrun, hmp, ht⟩ := h2.mp.drop h0 h1 0
  go_wp2
  go_ret
  exact ⟨rfl, h2.turn ht.grown hmp (h.up.del n) (Nat.le_trans (List.length_filter_le _ _) h.len) (fun y hy => h2.seg y (mem_delS.1 hy).1), grown_same (grown_none hg hg2) ht.grown⟩
set_option maxRecDepth 100000 in
set_option maxHeartbeats 1000000 in
theorem remove_core (w : World) (dv : Value) (n e : Int) (he : (e == 0) = false)
    (hf : Calls Try.prog 50 #[dv, .int .i64 n] w fun r w' => r = .returned (.tuple #[.agg #[.slice none 0 0, .int .i64 0], .int .i64 e]) ∧ w.grownBy w' none) :
    Calls Try.prog 36 #[dv, .int .i64 n] w fun r w' => r = .returned (.int .i64 e) ∧ w.grownBy w' none := by
  go_enter Try.func36, Try.ntmps36
  go_wp2_with fail
  refine hf.mono ?_
  rintro r w1 ⟨rfl, hg⟩
  go_wp2
  go_ret
  exact ⟨rfl, grown_none hg (World.grownBy_alloc w1 _ none)⟩
set_option maxRecDepth 100000 in
set_option maxHeartbeats 1000000 in
theorem sync_core (w : World) (dv : Value) (n e : Int) (he : (e == 0) = false)
    (hf : Calls Try.prog 50 #[dv, .int .i64 n] w fun r w' => r = .returned (.tuple #[.agg #[.slice none 0 0, .int .i64 0], .int .i64 e]) ∧ w.grownBy w' none) :
    Calls Try.prog 31 #[dv, .int .i64 n] w fun r w' => r = .returned (.int .i64 e) ∧ w.grownBy w' none := by
  go_enter Try.func31, Try.ntmps31
  go_wp2_with fail
  refine hf.mono ?_
  rintro r w1 ⟨rfl, hg⟩
  go_wp2
  go_ret
  exact ⟨rfl, grown_none hg (World.grownBy_alloc w1 _ none)⟩
set_option maxRecDepth 100000 in
set_option maxHeartbeats 1000000 in
theorem cut_core (w : World) (dv : Value) (n k e : Int) (he : (e == 0) = false)
    (hf : Calls Try.prog 50 #[dv, .int .i64 n] w fun r w' => r = .returned (.tuple #[.agg #[.slice none 0 0, .int .i64 0], .int .i64 e]) ∧ w.grownBy w' none) :
    Calls Try.prog 49 #[dv, .int .i64 n, .int .i64 k] w fun r w' => r = .returned (.int .i64 e) ∧ w.grownBy w' none := by
  go_enter Try.func49, Try.ntmps49
  go_wp2_with fail
  refine hf.mono ?_
  rintro r w1 ⟨rfl, hg⟩
  go_wp2
  go_ret
  exact ⟨rfl, grown_none hg (World.grownBy_alloc w1 _ none)⟩
set_option maxRecDepth 100000 in
set_option maxHeartbeats 1000000 in
/-- disk.Sync. -/
theorem sync_some (w : World) {sb bm : Nat} {N : Nat → Prop} {l : List Sg} {root : List Int} (h : Dsk w sb bm N l root) {n : Int} {x : Sg} (hx : getS n l = some x) :
    Calls Try.prog 31 #[.pointer (some ⟨sb, 0, none⟩), .int .i64 n] w fun r w' => r = .returned (.int .i64 0) ∧ Dsk w' sb bm N (putS ⟨n, x.v, x.b, x.b.length⟩ l) root ∧ w.grownBy w' (some bm) := by
  have hseg := h.seg x (getS_mem hx).1
  have hn := (getS_mem hx).2
  have hf := find_some w h hx
  have hxs : (getS n l).isSome = true := by rw [hx]; rfl
  have hmem := (getS_mem hx).1
  clear hx
  obtain ⟨xn, xv, xb, xs⟩ := x
  dsimp only at hf hseg hn ⊢
  subst hn
  obtain ⟨a, cap, rfl⟩ := hseg.2.2.2.2.2.1.shape
  go_enter Try.func31, Try.ntmps31
  go_wp2_with fail
  refine hf.mono ?_
  rintro r w1 ⟨rfl, hg⟩
  have hg2 := World.grownBy_alloc w1 (.cells #[.slice a xb.length cap, .int .i64 xb.length] 67) none
  have h2 := (h.grown0 hg).grown0 (hg2)
  have c0 := h2.c0
  have hlen := h.len
  obtain ⟨w3, hrun, hmp, ht⟩ := (h2.grown0 (grown_drew _)).mp.store h.up (by unfold maxLen; omega) ⟨xn, .slice a xb.length cap, xb, xb.length⟩ (by dsimp only; omega) (by dsimp only; omega)
  dsimp only at hrun
  go_wp2_with fail
  go_region
  all_goals
    go_wp2
    go_ret
    exact ⟨rfl, (h2.grown0 (grown_drew _)).turn_put ht.grown _ hmp (.inl hxs) ⟨hseg.1, hseg.2.1, hseg.2.2.1, by dsimp only; omega, by dsimp only; omega, ((h2.grown0 (grown_drew _)).seg _ hmem).2.2.2.2.2⟩, grown_same (grown_none (grown_none hg hg2) (grown_drew _)) ht.grown⟩
theorem allSafe_int (v : Value) (zs : List Int) (k : Int) (hk : Hid ((zs.length : Int) = k)) (w : World) (h : Bts w.heap.size w v zs) (hl : zs.length ≤ 100000) :
    Calls Try.prog 40 #[v] w fun e w' => ∃ v', e = .returned (.agg #[v', .int .i64 k]) ∧ Btx (fun i => w.heap.size ≤ i) w' v' zs ∧ w.grownBy w' none := by
  rw [← hk.out]
  exact allSafe_any v zs w h hl
set_option maxRecDepth 100000 in
set_option maxHeartbeats 1000000 in
/-- disk.Cut. -/
theorem cut_bad (w : World) {sb bm : Nat} {N : Nat → Prop} {l : List Sg} {root : List Int} (h : Dsk w sb bm N l root) {n : Int} {x : Sg} (hx : getS n l = some x) (k : Int) (hk : k < 0 ∨ x.b.length < k) :
    Calls Try.prog 49 #[.pointer (some ⟨sb, 0, none⟩), .int .i64 n, .int .i64 k] w fun r w' => r = .returned (.int .i64 31) ∧ w.grownBy w' none := by
  have hseg := h.seg x (getS_mem hx).1
  have hf := find_some w h hx
  clear hx
  obtain ⟨xn, xv, xb, xs⟩ := x
  dsimp only at hf hseg hk ⊢
  obtain ⟨a, cap, rfl⟩ := hseg.2.2.2.2.2.1.shape
  clear hseg
  by_cases hk0 : k < 0
  · have hd : decide (k < 0) = true := by simpa using hk0
    clear hk hk0
    go_enter Try.func49, Try.ntmps49
    go_wp2_with fail
    refine hf.mono ?_
    rintro r w1 ⟨rfl, hg⟩
    go_wp2
    go_ret
    exact ⟨rfl, grown_none hg (World.grownBy_alloc w1 _ none)⟩
  · have hd : decide (k < 0) = false := by simpa using hk0
    have hd2 : decide (k > (xb.length : Int)) = true := by simp; omega
    clear hk hk0
    go_enter Try.func49, Try.ntmps49
    go_wp2_with fail
    refine hf.mono ?_
    rintro r w1 ⟨rfl, hg⟩
    go_wp2
    go_ret
    exact ⟨rfl, grown_none hg (World.grownBy_alloc w1 _ none)⟩
set_option maxRecDepth 100000 in
set_option maxHeartbeats 2000000 in
theorem cut_ok (w : World) {sb bm : Nat} {N : Nat → Prop} {l : List Sg} {root : List Int} (h : Dsk w sb bm N l root) {n : Int} {x : Sg} (hx : getS n l = some x) (k : Int) (hk0 : 0 ≤ k) (hk : k ≤ x.b.length) :
    Calls Try.prog 49 #[.pointer (some ⟨sb, 0, none⟩), .int .i64 n, .int .i64 k] w fun r w' => r = .returned (.int .i64 0) ∧ (∃ v', Dsk w' sb bm (Or_ N w) (putS ⟨n, v', x.b.take k.toNat, k⟩ l) root) ∧ w.grownBy w' (some bm) := by
  have hseg := h.seg x (getS_mem hx).1
  have hn := (getS_mem hx).2
  have hf := find_some w h hx
  have hxs : (getS n l).isSome = true := by rw [hx]; rfl
  clear hx
  obtain ⟨xn, xv, xb, xs⟩ := x
  dsimp only at hf hseg hn hk ⊢
  subst hn
  obtain ⟨a, cap, rfl⟩ := hseg.2.2.2.2.2.1.shape
  have hd : decide (k < 0) = false := by simpa using hk0
  have hd2 : decide (k > (xb.length : Int)) = false := by simp; omega
  go_enter Try.func49, Try.ntmps49
  go_wp2_with fail
  refine hf.mono ?_
  rintro r w1 ⟨rfl, hg⟩
  have hg2 := World.grownBy_alloc w1 (.cells #[.slice a xb.length cap, .int .i64 xs] 67) none
  have h2 := ((h.wide.grown0 hg).grown0 hg2).grown0 (grown_drew _)
  have hb2 : Btx (Or_ N w) (w1.alloc (.cells #[.slice a xb.length cap, .int .i64 xs] 67)).drew (.slice a xb.length cap) xb := by
    have := ((h.grown0 hg).grown0 hg2).grown0 (grown_drew _)
    exact ((hseg.2.2.2.2.2.grown (grown_none (grown_none hg hg2) (grown_drew _)) (by simp))).mono fun k hk => .inl hk
  have c0 := h2.c0
  have hlen := h.len
  obtain ⟨a', hcut, hb3⟩ := run_cut hb2 k hk0 (by omega)
  have hki : Hid (((xb.take k.toNat).length : Int) = k) := by
    show ((xb.take k.toNat).length : Int) = k
    rw [List.length_take]; omega
  have hul := h.up
  have HN1 : Hid (some sb ≠ some bm) := fun e => h.ne (by cases e; rfl)
  have HN2 : Hid (some w1.heap.size ≠ some bm) := fun e => by have := (h.grown0 hg).bml; cases e; omega
  go_wp2_with fail
  go_region_held3 (fun w' => w'.cell? ⟨sb, 0, none⟩ = some (.map (some bm)) ∧ w'.cell? ⟨w1.heap.size, 0, none⟩ = some (.slice a xb.length cap))
    (first
      | go_keep
      | exact ⟨grown_cell hg4 (by assumption), grown_cell hg4 (by go_simp)⟩
      | (go_split_ands; exact ⟨ht.grown.cell (by assumption) HN1.out, ht.grown.cell (by assumption) HN2.out⟩))
    ((go_at_call 40
      refine (allSafe_int _ (xb.take k.toNat) k hki _ hb3.1 (by have := hki.out; omega)).mono ?_
      rintro r w4 ⟨v4, rfl, hb4, hg4⟩
      obtain ⟨w5, hrun, hmp, ht⟩ := (h2.grown0 hg4).mp.store hul (by unfold maxLen; omega) ⟨xn, v4, xb.take k.toNat, k⟩ (by dsimp only; omega) (by dsimp only; omega)
      dsimp only at hrun))
  all_goals
    go_wp2
    go_ret
    have hki' := hki.out
    have hs := hg.size
    exact ⟨rfl, ⟨v4, (h2.grown0 hg4).turn_put ht.grown _ hmp (.inl hxs) ⟨hseg.1, hseg.2.1, by dsimp only; omega, hk0, by dsimp only; omega, hb4.mono fun i hi => .inr (by simp at hi; omega)⟩⟩, grown_same (grown_none (grown_none (grown_none hg hg2) (grown_drew _)) hg4) ht.grown⟩
end Go.Proofs.Ytgblekdllcngnaa
