/- A disk in memory; bytes of its own; what bytes.Clone, disk.allSafe, disk.New and disk.find do. -/
import Derived.Test.YtgblekdllcngnaaSegs
import Derived.ArgAppend
import Derived.Lib.SliceRun
import Derived.Laws.ResultCell
namespace Go.Proofs.Ytgblekdllcngnaa
open Go.RowKit Go.IntWalk Go.Maps
set_option linter.unusedVariables false

/-- Bytes that can be read, in a block of which N is true (or there are none). -/
def Btx (N : Nat → Prop) (W : World) (v : Value) (zs : List Int) : Prop :=
  Bts W.heap.size W v zs ∧ ∀ b off len cap, v = .slice (some ⟨b, off, none⟩) len cap → zs ≠ [] → N b
theorem Bts.shape {n₀ : Nat} {W : World} {v : Value} {zs : List Int} (h : Bts n₀ W v zs) : ∃ a cap, v = .slice a zs.length cap := by
  obtain ⟨⟨rfl | ⟨ad, cap, rfl⟩, rfl⟩ | ⟨b, off, cap, rfl, _⟩, _⟩ := id h <;> exact ⟨_, _, rfl⟩
theorem Bts.grown {W W' : World} {row : Option Nat} {v : Value} {zs : List Int} (h : Bts W.heap.size W v zs) (hg : W.grownBy W' row) (hr : ∀ b off len cap, v = .slice (some ⟨b, off, none⟩) len cap → zs ≠ [] → some b ≠ row) : Bts W'.heap.size W' v zs := by
  obtain ⟨e | ⟨b, off, cap, e, hb, hl, hm, hc⟩, hz⟩ := h
  · exact ⟨.inl e, hz⟩
  · cases zs with
    | nil => exact ⟨.inl ⟨.inr ⟨_, _, e⟩, rfl⟩, hz⟩
    | cons z zs => exact ⟨.inr ⟨b, off, cap, e, Nat.lt_of_lt_of_le hb hg.size, hl, hm, fun j hj => hg.cell (hc j hj) (hr b off _ cap e (by simp))⟩, hz⟩
theorem Bts.grown0 {W W' : World} {v : Value} {zs : List Int} (h : Bts W.heap.size W v zs) (hg : W.grownBy W' none) : Bts W'.heap.size W' v zs := h.grown hg fun _ _ _ _ _ _ => by simp
theorem Btx.grown {N : Nat → Prop} {W W' : World} {row : Option Nat} {v : Value} {zs : List Int} (h : Btx N W v zs) (hg : W.grownBy W' row) (hr : ∀ k, row = some k → ¬ N k) : Btx N W' v zs :=
  ⟨h.1.grown hg fun b off len cap e hn h2 => hr b h2.symm (h.2 b off len cap e hn), h.2⟩
theorem Btx.mono {N N' : Nat → Prop} {W : World} {v : Value} {zs : List Int} (h : Btx N W v zs) (hn : ∀ k, N k → N' k) : Btx N' W v zs := ⟨h.1, fun b off len cap e hz => hn b (h.2 b off len cap e hz)⟩
theorem Btx.nil (N : Nat → Prop) (W : World) : Btx N W (.slice none 0 0) [] := ⟨⟨.inl ⟨.inl rfl, rfl⟩, by simp⟩, fun _ _ _ _ _ h => absurd rfl h⟩
theorem Btx.of_own {W : World} {base : Nat} {v : Value} {zs : List Int} {k : Nat} (h : W.ownsRow base 5 1 v k (zs.map (Value.int .u8))) (hz : ∀ z ∈ zs, 0 ≤ z ∧ z < 256) : Btx (fun i => base ≤ i) W v zs :=
  ⟨Bts.of_own h hz, fun b off len cap e _ => (h.lt b (by rw [e]; rfl)).1⟩
theorem grown_refl (w : World) : w.grownBy w none := ⟨rfl, rfl, rfl, Nat.le_refl _, fun _ _ _ => rfl⟩
theorem grown_drew (w : World) : w.grownBy w.drew none := ⟨rfl, rfl, rfl, Nat.le_refl _, fun _ _ _ => rfl⟩
theorem grown_none {a b c : World} (h : a.grownBy b none) (k : b.grownBy c none) : a.grownBy c none := h.andThen k (by simp)
theorem grown_new {a b c : World} {row : Option Nat} {r : Nat} (h : a.grownBy b row) (k : b.grownBy c (some r)) (hr : a.heap.size ≤ r) : a.grownBy c row := h.andThen k fun j hj => .inl (by cases hj; exact hr)
theorem grown_add {a b c : World} {row : Option Nat} (h : a.grownBy b row) (k : b.grownBy c none) : a.grownBy c row := h.andThen k (by simp)
theorem grown_same {a b c : World} {row : Option Nat} (h : a.grownBy b none) (k : b.grownBy c row) : a.grownBy c row := (h.but row).andThen k fun j hj => .inr hj
theorem grown_setCell (w : World) (a : Addr) (u : Value) : w.grownBy (w.setCell a u) (some a.block) := ⟨rfl, rfl, rfl, by simp, fun k _ hk => Below.heap_setCell w a u k (fun e => hk (by rw [e]))⟩

/-- A disk: block sb is its struct, block bm its map; its bytes lie in blocks of which N is true. -/
structure Dsk (w : World) (sb bm : Nat) (N : Nat → Prop) (l : List Sg) (root : List Int) : Prop where
  c0 : w.cell? ⟨sb, 0, none⟩ = some (.map (some bm))
  c1 : ∃ rv, w.cell? ⟨sb, 1, none⟩ = some rv ∧ Btx N w rv root
  f1 : w.frozen? ⟨sb, 1, none⟩ = false
  nsb : ¬ N sb
  nbm : ¬ N bm
  mp : Mp w bm l
  up : Up l
  len : l.length ≤ 128
  seg : ∀ x ∈ l, 0 ≤ x.n ∧ x.n < 9223372036854775808 ∧ x.b.length ≤ 1024 ∧ 0 ≤ x.s ∧ x.s ≤ x.b.length ∧ Btx N w x.v x.b
  rl : root.length ≤ 1024
theorem Dsk.sbl {w : World} {sb bm : Nat} {N : Nat → Prop} {l : List Sg} {root : List Int} (h : Dsk w sb bm N l root) : sb < w.heap.size := World.block_lt_of_cell? w _ h.c0
theorem Dsk.bml {w : World} {sb bm : Nat} {N : Nat → Prop} {l : List Sg} {root : List Int} (h : Dsk w sb bm N l root) : bm < w.heap.size := World.ownsMap.lt h.mp
theorem Dsk.ne {w : World} {sb bm : Nat} {N : Nat → Prop} {l : List Sg} {root : List Int} (h : Dsk w sb bm N l root) : sb ≠ bm := by
  rintro rfl
  obtain ⟨es, clock, hb, _⟩ := h.mp
  have := h.c0
  simp [World.cell?, hb] at this
theorem Dsk.grown {w w' : World} {sb bm : Nat} {N : Nat → Prop} {l : List Sg} {root : List Int} {row : Option Nat} (h : Dsk w sb bm N l root) (hg : w.grownBy w' row) (h1 : some sb ≠ row) (h2 : some bm ≠ row) (h3 : ∀ k, row = some k → ¬ N k) : Dsk w' sb bm N l root := by
  obtain ⟨rv, c1, hr⟩ := h.c1
  exact ⟨hg.cell h.c0 h1, ⟨rv, hg.cell c1 h1, hr.grown hg h3⟩, (World.frozen?_of_block (a := ⟨sb, 1, none⟩) (hg.block sb h.sbl h1)).trans h.f1, h.nsb, h.nbm, World.ownsMap.kept h.mp hg h2, h.up, h.len, fun x hx => by
    obtain ⟨a1, a2, a3, a4, a5, a6⟩ := h.seg x hx
    exact ⟨a1, a2, a3, a4, a5, a6.grown hg h3⟩, h.rl⟩
theorem Dsk.grown0 {w w' : World} {sb bm : Nat} {N : Nat → Prop} {l : List Sg} {root : List Int} (h : Dsk w sb bm N l root) (hg : w.grownBy w' none) : Dsk w' sb bm N l root := h.grown hg (by simp) (by simp) (by simp)
theorem Dsk.mono {w : World} {sb bm : Nat} {N N' : Nat → Prop} {l : List Sg} {root : List Int} (h : Dsk w sb bm N l root) (hn : ∀ k, N k → N' k) (h1 : ¬ N' sb) (h2 : ¬ N' bm) : Dsk w sb bm N' l root := by
  obtain ⟨rv, c1, hr⟩ := h.c1
  exact ⟨h.c0, ⟨rv, c1, hr.mono hn⟩, h.f1, h1, h2, h.mp, h.up, h.len, fun x hx => by
    obtain ⟨a1, a2, a3, a4, a5, a6⟩ := h.seg x hx
    exact ⟨a1, a2, a3, a4, a5, a6.mono hn⟩, h.rl⟩
/-- Bytes that are new since w besides. -/
def Or_ (N : Nat → Prop) (w : World) (i : Nat) : Prop := N i ∨ w.heap.size ≤ i
theorem Dsk.wide {w : World} {sb bm : Nat} {N : Nat → Prop} {l : List Sg} {root : List Int} (h : Dsk w sb bm N l root) : Dsk w sb bm (Or_ N w) l root :=
  h.mono (fun k hk => .inl hk) (fun e => e.elim h.nsb (fun e => by have := h.sbl; omega)) (fun e => e.elim h.nbm (fun e => by have := h.bml; omega))

theorem lit_none (W : World) (base : Nat) (hb : base ≤ W.heap.size) : (W.alloc (.cells #[] 5)).ownsRow base 5 1 (.slice (some ⟨W.heap.size, 0, none⟩) 0 0) 0 (([] : List Int).map (Value.int .u8)) :=
  World.ownsRow_lit W #[] 0 hb (by unfold maxLen; omega) rfl

set_option maxRecDepth 100000 in
set_option maxHeartbeats 1000000 in
theorem clone_some (ad : Addr) (len cap : Nat) (zs : List Int) (w : World) (h : Bts w.heap.size w (.slice (some ad) len cap) zs) (hl : zs.length ≤ 100000) :
    Calls Try.prog 38 #[.slice (some ad) len cap] w fun e w' => ∃ v', e = .returned v' ∧ Btx (fun i => w.heap.size ≤ i) w' v' zs ∧ w.grownBy w' none := by
  have hq := Go.Lib.run_eql_slice_nil (P := Try.prog) w 32 5 (some ad) len cap 0 0 Try.underlying32
  go_enter Try.func38, Try.ntmps38
  go_wp2_with (at_builtin; go_must (refine wpList_append_bts _ rfl (.tmp 5) (.tmp 6) rfl w.heap.size w.heap.size _ _ _ [] zs rfl rfl (lit_none w _ (Nat.le_refl _)) (h.below ((Below.refl _ _).alloc (Nat.le_refl _) _)) (by omega) (by simp) ?_); intro v1 w1 hr1 hg1)
  go_ret
  exact ⟨_, rfl, Btx.of_own hr1 (by simpa using h.2), (World.grownBy_alloc w _ none).andThen hg1 fun j hj => .inl (by cases hj; exact Nat.le_refl _)⟩
set_option maxRecDepth 100000 in
set_option maxHeartbeats 1000000 in
theorem clone_nil (w : World) : Calls Try.prog 38 #[.slice none 0 0] w fun e w' => e = .returned (.slice none 0 0) ∧ w = w' := by
  have hq := Go.Lib.run_eql_slice_nil (P := Try.prog) w 32 5 none 0 0 0 0 Try.underlying32
  go_enter Try.func38, Try.ntmps38
  go_wp2
  go_ret
  exact ⟨rfl, rfl⟩
/-- bytes.Clone. -/
theorem clone_any (v : Value) (zs : List Int) (w : World) (h : Bts w.heap.size w v zs) (hl : zs.length ≤ 100000) :
    Calls Try.prog 38 #[v] w fun e w' => ∃ v', e = .returned v' ∧ Btx (fun i => w.heap.size ≤ i) w' v' zs ∧ w.grownBy w' none := by
  obtain ⟨⟨rfl | ⟨ad, cap, rfl⟩, rfl⟩ | ⟨b, off, cap, rfl, _⟩, _⟩ := id h
  · exact (clone_nil w).mono fun e w' ⟨he, hw⟩ => ⟨_, he, Btx.nil _ _, hw ▸ grown_refl _⟩
  · exact clone_some ad 0 cap [] w h hl
  · exact clone_some _ _ cap zs w h hl
theorem results_cell1 {fn : Func} {p : Tmp} {ty : TypeId} (h : fn.results = #[.cell p ty]) (tmps : Array Value) (P : Program) (w : World) :
    (results fn tmps).run P w = ((asAddr (tmps.getD p undef)).run P w).andThen fun a w₁ => (loadVar ty a).run P w₁ := by
  simp only [results, h]
  simp [Sem.run_bind, Result.andThen]
set_option maxRecDepth 100000 in
set_option maxHeartbeats 1000000 in
/-- disk.allSafe. -/
theorem allSafe_any (v : Value) (zs : List Int) (w : World) (h : Bts w.heap.size w v zs) (hl : zs.length ≤ 100000) :
    Calls Try.prog 40 #[v] w fun e w' => ∃ v', e = .returned (.agg #[v', .int .i64 zs.length]) ∧ Btx (fun i => w.heap.size ≤ i) w' v' zs ∧ w.grownBy w' none := by
  obtain ⟨a, cap, rfl⟩ := h.shape
  go_enter Try.func40, Try.ntmps40
  go_wp2_with fail
  refine (clone_any _ zs _ (h.grown0 (World.grownBy_alloc w _ none)) hl).mono ?_
  rintro e w1 ⟨v1, rfl, hb, hg⟩
  obtain ⟨a1, cap1, rfl⟩ := hb.1.shape
  have hw0 : w1.cell? ⟨w.heap.size, 0, none⟩ = some (.slice none 0 0) := hg.cell (by simp) (by simp)
  have hw1 : w1.cell? ⟨w.heap.size, 1, none⟩ = some (.int .i64 0) := hg.cell (by simp) (by simp)
  have hf0 : w1.frozen? ⟨w.heap.size, 0, none⟩ = false := (World.frozen?_of_block (a := ⟨w.heap.size, 0, none⟩) (hg.block w.heap.size (by simp) (by simp))).trans (by simp)
  have hf1 : w1.frozen? ⟨w.heap.size, 1, none⟩ = false := (World.frozen?_of_block (a := ⟨w.heap.size, 1, none⟩) (hg.block w.heap.size (by simp) (by simp))).trans (by simp)
  go_wp2
  refine bodyPost_ret (v := .agg #[.slice a1 zs.length cap1, .int .i64 zs.length]) (by rw [results_cell1 rfl]; go_simp) rfl ?_
  have hn : ∀ k, some w.heap.size = some k → ¬ (w.alloc (.cells #[.slice none 0 0, .int .i64 0] 67)).heap.size ≤ k := fun k hk => by
    cases hk
    simp
  refine ⟨_, rfl, ((hb.grown (grown_setCell w1 ⟨w.heap.size, 0, none⟩ _) hn).grown (grown_setCell _ ⟨w.heap.size, 1, none⟩ _) hn).mono fun k hk => ?_, ?_⟩
  · simp at hk
    omega
  · exact grown_new (grown_new (grown_none (World.grownBy_alloc w _ none) hg) (grown_setCell w1 ⟨w.heap.size, 0, none⟩ _) (Nat.le_refl _)) (grown_setCell _ ⟨w.heap.size, 1, none⟩ _) (Nat.le_refl _)
set_option maxRecDepth 100000 in
set_option maxHeartbeats 1000000 in
/-- disk.New. -/
theorem new_any (w : World) : Calls Try.prog 7 #[] w fun e w' => ∃ sb bm, e = .returned (.pointer (some ⟨sb, 0, none⟩)) ∧ w.heap.size ≤ sb ∧ w.heap.size ≤ bm ∧ Dsk w' sb bm (fun _ => False) [] [] ∧ w.grownBy w' none := by
  have hmm := @run_makeMap Try.prog
  go_enter Try.func7, Try.ntmps7
  go_wp2
  go_ret
  have hg1 := World.grownBy_alloc w (.map #[] 0) none
  have hg2 := World.grownBy_alloc (w.alloc (.map #[] 0)) (.cells #[.map (some w.heap.size), .slice none 0 0] 53) none
  refine ⟨_, _, rfl, by omega, Nat.le_refl _, ⟨?_, ⟨_, ?_, Btx.nil _ _⟩, ?_, id, id, World.ownsMap.kept (Mp.made w) hg2 (by simp), List.Pairwise.nil, by simp, by simp, by simp⟩, grown_none hg1 hg2⟩
  all_goals simp
set_option maxRecDepth 100000 in
set_option maxHeartbeats 1000000 in
/-- disk.find. -/
theorem find_some (w : World) {sb bm : Nat} {N : Nat → Prop} {l : List Sg} {root : List Int} (h : Dsk w sb bm N l root) {n : Int} {x : Sg} (hx : getS n l = some x) :
    Calls Try.prog 50 #[.pointer (some ⟨sb, 0, none⟩), .int .i64 n] w fun e w' => e = .returned (.tuple #[.agg #[x.v, .int .i64 x.s], .int .i64 0]) ∧ w.grownBy w' none := by
  have hseg := h.seg x (getS_mem hx).1
  have hn := (getS_mem hx).2
  have c0 := fun o => (h.grown0 (World.grownBy_alloc w o none)).c0
  have hlk := fun o => (h.grown0 (World.grownBy_alloc w o none)).mp.lookup (n := n) (by omega) (by omega) hx
  obtain ⟨xn, xv, xb, xs⟩ := x
  dsimp only at hlk hseg ⊢
  obtain ⟨a, cap, rfl⟩ := hseg.2.2.2.2.2.1.shape
  clear hseg
  go_enter Try.func50, Try.ntmps50
  go_wp2
  refine bodyPost_ret (v := .tuple #[.agg #[.slice a xb.length cap, .int .i64 xs], .int .i64 0]) (by rw [results_cell_tmp rfl]; go_simp) rfl ?_
  exact ⟨rfl, grown_none (World.grownBy_alloc w _ none) (World.grownBy_alloc _ _ none)⟩
set_option maxRecDepth 100000 in
set_option maxHeartbeats 1000000 in
theorem find_none (w : World) {sb bm : Nat} {N : Nat → Prop} {l : List Sg} {root : List Int} (h : Dsk w sb bm N l root) {n : Int} (h0 : -9223372036854775808 ≤ n) (h1 : n < 9223372036854775808) (hx : getS n l = none) :
    Calls Try.prog 50 #[.pointer (some ⟨sb, 0, none⟩), .int .i64 n] w fun e w' => e = .returned (.tuple #[.agg #[.slice none 0 0, .int .i64 0], .int .i64 31]) ∧ w.grownBy w' none := by
  have c0 := fun o => (h.grown0 (World.grownBy_alloc w o none)).c0
  have hlk := fun o => (h.grown0 (World.grownBy_alloc w o none)).mp.lookup_none (n := n) h0 h1 hx
  go_enter Try.func50, Try.ntmps50
  go_wp2
  refine bodyPost_ret (v := .tuple #[.agg #[.slice none 0 0, .int .i64 0], .int .i64 31]) (by rw [results_cell_tmp rfl]; go_simp) rfl ?_
  exact ⟨rfl, grown_none (World.grownBy_alloc w _ none) (World.grownBy_alloc _ _ none)⟩
set_option maxRecDepth 100000 in
set_option maxHeartbeats 1000000 in
theorem find_nil (w : World) (n : Int) :
    Calls Try.prog 50 #[.pointer none, .int .i64 n] w fun e w' => e = .returned (.tuple #[.agg #[.slice none 0 0, .int .i64 0], .int .i64 1]) ∧ w.grownBy w' none := by
  go_enter Try.func50, Try.ntmps50
  go_wp2
  refine bodyPost_ret (v := .tuple #[.agg #[.slice none 0 0, .int .i64 0], .int .i64 1]) (by rw [results_cell_tmp rfl]; go_simp) rfl ?_
  exact ⟨rfl, World.grownBy_alloc w _ none⟩
end Go.Proofs.Ytgblekdllcngnaa
