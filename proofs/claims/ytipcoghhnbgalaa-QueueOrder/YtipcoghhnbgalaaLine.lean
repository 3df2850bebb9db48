/- A line of entries in memory: what turns, what is kept; Len, Less, front. -/
import Derived.Test.YtipcoghhnbgalaaBase
import Derived.Deep.QuietTactic
namespace Go.Proofs.Ytipcoghhnbgalaa
open Go.RowKit Go.IntWalk Go.Maps
set_option linter.unusedVariables false

/-- What lies outside blocks of which C is true lies as it lay. -/
structure Kp (C : Nat → Prop) (w w' : World) : Prop where
  os : w'.os = w.os
  tape : w'.tape = w.tape
  output : w'.output = w.output
  size : w.heap.size ≤ w'.heap.size
  block : ∀ k, k < w.heap.size → ¬ C k → w'.heap[k]? = w.heap[k]?
theorem Kp.of {C : Nat → Prop} {w w' : World} {row : Option Nat} (hg : w.grownBy w' row) (hr : ∀ k, row = some k → C k) : Kp C w w' :=
  ⟨hg.os, hg.tape, hg.output, hg.size, fun k hk hc => hg.block k hk (fun e => hc (hr k e.symm))⟩
theorem Kp.of0 {C : Nat → Prop} {w w' : World} (hg : w.grownBy w' none) : Kp C w w' := Kp.of hg (by simp)
theorem Kp.refl (C : Nat → Prop) (w : World) : Kp C w w := ⟨rfl, rfl, rfl, Nat.le_refl _, fun _ _ _ => rfl⟩
theorem Kp.trans {C C' : Nat → Prop} {a b c : World} (h : Kp C a b) (k : Kp C' b c) (hc : ∀ i, i < a.heap.size → C' i → C i) : Kp C a c :=
  ⟨k.os.trans h.os, k.tape.trans h.tape, k.output.trans h.output, Nat.le_trans h.size k.size, fun i hi hn => (k.block i (Nat.lt_of_lt_of_le hi h.size) (fun e => hn (hc i hi e))).trans (h.block i hi hn)⟩
theorem Kp.mono {C C' : Nat → Prop} {w w' : World} (h : Kp C w w') (hc : ∀ k, C k → C' k) : Kp C' w w' := ⟨h.os, h.tape, h.output, h.size, fun k hk hn => h.block k hk (fun e => hn (hc k e))⟩
theorem Kp.below {C : Nat → Prop} {n : Nat} {w w' : World} (h : Kp C w w') (hn : n ≤ w.heap.size) (hc : ∀ k, C k → n ≤ k) : Below n w w' := ⟨h.os, h.tape, h.output, h.size, fun k hk => h.block k (by omega) (fun e => by have := hc k e; omega)⟩

/-- The blocks of a line. -/
def fp (qb bm : Nat) (rv : Value) (k : Nat) : Prop := k = qb ∨ k = bm ∨ rv.ownBlock = some k
/-- A line: block qb is its struct, bm its map of places, rv its entries. -/
structure Ln (w : World) (qb bm : Nat) (rv : Value) (es : List E) : Prop where
  blk : w.heap[qb]? = some (.cells #[rv, .map (some bm)] 58 (0, 0))
  row : Rw 36 w rv es
  mp : ∃ D, Mp w bm D ∧ Plc D es
  nq : rv.ownBlock ≠ some qb
  nm : rv.ownBlock ≠ some bm
  ok : ∀ e ∈ es, e.n.size ≤ maxLen ∧ 0 ≤ e.at_ ∧ e.at_ < 18446744073709551616
  len : es.length ≤ 100000
/-- What has turned: the line alone; its entries lie where they lay, or in new memory. -/
structure Tn (w w' : World) (qb bm : Nat) (rv rv' : Value) : Prop where
  kp : Kp (fp qb bm rv) w w'
  own : rv'.ownBlock = rv.ownBlock ∨ ∃ k, rv'.ownBlock = some k ∧ w.heap.size ≤ k
section
variable {w w' w'' : World} {qb bm : Nat} {rv rv' rv'' : Value} {es es' : List E}
theorem Ln.qbl (h : Ln w qb bm rv es) : qb < w.heap.size := (Array.getElem?_eq_some_iff.1 h.blk).1
theorem Ln.bml (h : Ln w qb bm rv es) : bm < w.heap.size := by obtain ⟨D, h1, _⟩ := h.mp; exact World.ownsMap.lt h1
theorem Ln.rvl (h : Ln w qb bm rv es) : ∀ k, rv.ownBlock = some k → k < w.heap.size := fun k hk => (h.row.lt k hk).2
theorem Ln.ne (h : Ln w qb bm rv es) : qb ≠ bm := by
  rintro rfl
  obtain ⟨D, ⟨es, clock, hb, _⟩, _⟩ := h.mp
  rw [h.blk] at hb
  cases hb
theorem Ln.c0 (h : Ln w qb bm rv es) : w.cell? ⟨qb, 0, none⟩ = some rv := by simp [World.cell?, h.blk]
theorem Ln.c1 (h : Ln w qb bm rv es) : w.cell? ⟨qb, 1, none⟩ = some (.map (some bm)) := by simp [World.cell?, h.blk]
theorem Ln.fz (h : Ln w qb bm rv es) (i : Nat) : w.frozen? ⟨qb, i, none⟩ = false := by simp [World.frozen?, h.blk]
theorem Mp.kept {bm : Nat} {D : DataW Value} (h : Mp w bm D) (hb : w'.heap[bm]? = w.heap[bm]?) : Mp w' bm D := by
  obtain ⟨es, clock, h1, F, hs, hD⟩ := h
  exact ⟨es, clock, hb.trans h1, F, hs, hD⟩
theorem Ln.kept (h : Ln w qb bm rv es) (hb : ∀ k, fp qb bm rv k → w'.heap[k]? = w.heap[k]?) : Ln w' qb bm rv es := by
  obtain ⟨D, h1, h2⟩ := h.mp
  exact ⟨(hb qb (.inl rfl)).trans h.blk, h.row.kept fun k hk => hb k (.inr (.inr hk)), ⟨D, h1.kept (hb bm (.inr (.inl rfl))), h2⟩, h.nq, h.nm, h.ok, h.len⟩
theorem Ln.fpl (h : Ln w qb bm rv es) : ∀ k, fp qb bm rv k → k < w.heap.size := by
  rintro k (rfl | rfl | e)
  · exact h.qbl
  · exact h.bml
  · exact h.rvl k e
theorem Ln.keep (h : Ln w qb bm rv es) (hg : w.grownBy w' none) : Ln w' qb bm rv es := h.kept fun k hk => hg.block k (h.fpl k hk) (by simp)
theorem Tn.of0 (hg : w.grownBy w' none) : Tn w w' qb bm rv rv := ⟨Kp.of0 hg, .inl rfl⟩
theorem Tn.trans (h : Tn w w' qb bm rv rv') (k : Tn w' w'' qb bm rv' rv'') : Tn w w'' qb bm rv rv'' := by
  refine ⟨h.kp.trans k.kp ?_, ?_⟩
  · rintro i hi (e | e | e)
    · exact .inl e
    · exact .inr (.inl e)
    · rcases h.own with ho | ⟨j, hj, hjl⟩
      · exact .inr (.inr (by rw [← ho]; exact e))
      · rw [hj] at e; cases e; omega
  · rcases k.own with ko | ⟨j, hj, hjl⟩
    · rcases h.own with ho | ⟨j, hj, hjl⟩
      · exact .inl (ko.trans ho)
      · exact .inr ⟨j, ko.trans hj, hjl⟩
    · exact .inr ⟨j, hj, Nat.le_trans h.kp.size hjl⟩
theorem Ln.nodup (h : Ln w qb bm rv es) {i j : Nat} {a b : E} (hi : es[i]? = some a) (hj : es[j]? = some b) (e : a.n = b.n) : i = j := by
  obtain ⟨D, h1, h2⟩ := h.mp
  have k1 := (h2.has i a hi).2
  have k2 := (h2.has j b hj).2
  rw [e, k2] at k1
  have : (j : Int) = i := by simpa using k1
  omega
theorem Ln.shape (h : Ln w qb bm rv es) : ∃ a cap, rv = .slice a es.length cap := h.row.shape
end
/-- A world in which whatever lay in w lies as it lay. -/
structure Lat (w : World) where
  W : World
  h : w.grownBy W none
theorem wp_region_lat {P : Program} {id : Nat} {Q : Exit → Act → World → Prop} {a : Act} {w : World} {l : List Oper} (hm : P.follows .mixedOrders = true) (hB : Region.lexB .any l.toArray = true)
    (h : wpQuiet P l.toArray (fun w' => ∃ p : Lat w, w' = p.W) (fun a' => ∀ w', (∃ p : Lat w, w' = p.W) → Q .normal a' w') l a) : (Code.region id l.toArray true).wp P Q a w :=
  wp_region_quiet (C := fun w' => ∃ p : Lat w, w' = p.W) hm hB ⟨⟨_, grown_drew w⟩, rfl⟩ (by simpa using h)
theorem lat_nonempty (w : World) : Nonempty (Lat w) := ⟨⟨w, grown_refl _⟩⟩
theorem lat_cell {w : World} {b o : Nat} {v : Value} (h : w.cell? ⟨b, o, none⟩ = some v) (p : Lat w) : p.W.cell? ⟨b, o, none⟩ = some v := grown_cell p.h h
theorem lat_ahead {w : World} (a b : E) (p : Lat w) : Calls Try.prog 57 #[.agg #[.string a.n, .int .u64 a.at_], .agg #[.string b.n, .int .u64 b.at_]] p.W fun e w'' => e = .returned (.bool (ltb a b)) ∧ ∃ p' : Lat w, w'' = p'.W :=
  (ahead_any a b p.W).mono fun e w'' ⟨he, hB⟩ => ⟨he, ⟨w'', grown_none p.h hB⟩, rfl⟩
set_option maxRecDepth 100000 in
set_option maxHeartbeats 1000000 in
/-- line.Len. -/
theorem llen_any (w : World) {qb bm : Nat} {rv : Value} {es : List E} (h : Ln w qb bm rv es) : Calls Try.prog 33 #[.pointer (some ⟨qb, 0, none⟩)] w fun e w' => e = .returned (.int .i64 es.length) ∧ w' = w := by
  obtain ⟨a, cap, rfl⟩ := h.shape
  have c0 := h.c0
  go_enter Try.func33, Try.ntmps33
  go_wp2
  go_ret
  exact ⟨rfl, rfl⟩
set_option maxRecDepth 100000 in
set_option maxHeartbeats 1000000 in
/-- line.front. -/
theorem front_any (w : World) {qb bm : Nat} {rv : Value} {es : List E} (h : Ln w qb bm rv es) {e : E} (he : es[0]? = some e) : Calls Try.prog 34 #[.pointer (some ⟨qb, 0, none⟩)] w fun r w' => r = .returned (.agg #[.string e.n, .int .u64 e.at_]) ∧ w.grownBy w' none := by
  obtain ⟨a, cap, rfl⟩ := h.shape
  have hg1 := World.grownBy_alloc w (.cells #[.string ByteArray.empty, .int .u64 0] 36) none
  obtain ⟨g, rfl, hgl, _, k1, k2, _⟩ := h.row.at he
  have c0 := h.c0
  have hpos : 0 < es.length := (List.getElem?_eq_some_iff.1 he).1
  simp only [Nat.zero_mul, Nat.zero_add] at k1 k2
  have c0' := fun o => grown_cell (World.grownBy_alloc w o none) c0
  have k1' := fun o => grown_cell (World.grownBy_alloc w o none) k1
  have k2' := fun o => grown_cell (World.grownBy_alloc w o none) k2
  go_enter Try.func34, Try.ntmps34
  go_wp2
  refine bodyPost_ret (v := .agg #[.string e.n, .int .u64 e.at_]) (by rw [results_cell1 rfl]; go_simp) rfl ?_
  exact ⟨rfl, World.grownBy_alloc w _ none⟩
set_option maxRecDepth 100000 in
set_option maxHeartbeats 1000000 in
/-- line.Less. -/
theorem less_any (w : World) {qb bm : Nat} {rv : Value} {es : List E} (h : Ln w qb bm rv es) {i j : Nat} {a b : E} (hi : es[i]? = some a) (hj : es[j]? = some b) :
    Calls Try.prog 58 #[.pointer (some ⟨qb, 0, none⟩), .int .i64 i, .int .i64 j] w fun r w' => r = .returned (.bool (ltb a b)) ∧ w.grownBy w' none := by
  obtain ⟨ad, cap, rfl⟩ := h.shape
  obtain ⟨g, rfl, hgl, _, k1, k2, _⟩ := h.row.at hi
  obtain ⟨g', e', _, _, k3, k4, _⟩ := h.row.at hj
  cases e'
  have c0 := h.c0
  have hil : i < es.length := (List.getElem?_eq_some_iff.1 hi).1
  have hjl : j < es.length := (List.getElem?_eq_some_iff.1 hj).1
  have hl := h.len
  haveI := lat_nonempty w
  have kc0 := lat_cell c0
  have kk1 := lat_cell k1
  have kk2 := lat_cell k2
  have kk3 := lat_cell k3
  have kk4 := lat_cell k4
  have ka := fun p : Lat w => lat_ahead a b p
  go_enter Try.func58, Try.ntmps58
  go_wp2_with fail
  refine wp_region_lat (by kernel_rfl) (by kernel_rfl) ?_
  repeat (go_big_quiet_step (fail))
  go_big_quiet_step ((go_at_call 57; exact ka _))
  repeat (go_big_quiet_step (fail))
  refine wpQuiet_nil ?_
  intro _ hw'
  obtain ⟨p, hw''⟩ := hw'
  subst hw''
  go_wp2
  go_ret
  exact ⟨rfl, p.h⟩
end Go.Proofs.Ytipcoghhnbgalaa
