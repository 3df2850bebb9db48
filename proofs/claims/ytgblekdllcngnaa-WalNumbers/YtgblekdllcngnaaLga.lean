/- What the log's small functions answer: First, Next, Forced, Segments, lastSegment; Force; diskTakes; putInLast; putInNext. -/
import Derived.Test.YtgblekdllcngnaaLgm
import Derived.Deep.RegionHeld3
namespace Go.Proofs.Ytgblekdllcngnaa
open Go.RowKit Go.IntWalk Go.Maps
set_option linter.unusedVariables false

section
variable {M : Nat → Prop} {lb sb bm : Nat} {sv : Value} {l : List Sg} {root : List Int} {seg : Int} {st : List Int} {size next forced : Int}
set_option maxRecDepth 100000 in
set_option maxHeartbeats 1000000 in
theorem next_any (w : World) (h : Lgd M w lb sb bm sv l root seg st size next forced) :
    Calls Try.prog 16 #[.pointer (some ⟨lb, 0, none⟩)] w fun r w' => r = .returned (.int .i64 next) ∧ w' = w := by
  have c4 := h.c4
  go_enter Try.func16, Try.ntmps16
  go_wp2
  go_ret
  exact ⟨rfl, rfl⟩
set_option maxRecDepth 100000 in
set_option maxHeartbeats 1000000 in
theorem forced_any (w : World) (h : Lgd M w lb sb bm sv l root seg st size next forced) :
    Calls Try.prog 18 #[.pointer (some ⟨lb, 0, none⟩)] w fun r w' => r = .returned (.int .i64 forced) ∧ w' = w := by
  have c5 := h.c5
  go_enter Try.func18, Try.ntmps18
  go_wp2
  go_ret
  exact ⟨rfl, rfl⟩
set_option maxRecDepth 100000 in
set_option maxHeartbeats 1000000 in
theorem lsegs_any (w : World) (h : Lgd M w lb sb bm sv l root seg st size next forced) :
    Calls Try.prog 20 #[.pointer (some ⟨lb, 0, none⟩)] w fun r w' => r = .returned (.int .i64 st.length) ∧ w' = w := by
  have c2 := h.c2
  obtain ⟨a, cap, rfl, hl⟩ := own_shape h.row
  go_enter Try.func20, Try.ntmps20
  go_wp2
  go_ret
  exact ⟨rfl, rfl⟩
set_option maxRecDepth 100000 in
set_option maxHeartbeats 1000000 in
theorem first_none (w : World) (h : Lgd M w lb sb bm sv l root seg [] size next forced) :
    Calls Try.prog 14 #[.pointer (some ⟨lb, 0, none⟩)] w fun r w' => r = .returned (.int .i64 next) ∧ w' = w := by
  have c2 := h.c2
  have c4 := h.c4
  obtain ⟨a, cap, rfl, hl⟩ := own_shape h.row
  simp only [List.length_nil] at c2
  go_enter Try.func14, Try.ntmps14
  go_wp2
  go_ret
  exact ⟨rfl, rfl⟩
set_option maxRecDepth 100000 in
set_option maxHeartbeats 1000000 in
theorem first_some (w : World) (z : Int) (h : Lgd M w lb sb bm sv l root seg (z :: st) size next forced) :
    Calls Try.prog 14 #[.pointer (some ⟨lb, 0, none⟩)] w fun r w' => r = .returned (.int .i64 z) ∧ w' = w := by
  have c2 := h.c2
  have hrow := h.row
  rcases hrow.2 with ⟨rfl, h0⟩ | ⟨g, cap, cur, rfl, hb, hg, hn, hm, hs, ht⟩
  · simp at h0
  · have hc : w.cell? ⟨g, 0, none⟩ = some (.int .i64 z) := hrow.cells (g := g) rfl 0 _ rfl
    have hl0 : (0 : Int) < ((z :: st).length : Int) := by simp
    have hne : (((z :: st).length : Int) == 0) = false := by simp; omega
    generalize (z :: st).length = k at *
    go_enter Try.func14, Try.ntmps14
    go_wp2
    go_ret
    exact ⟨rfl, rfl⟩
/-- First. -/
def fst (st : List Int) (next : Int) : Int := st.headD next
theorem lfirst_any (w : World) (h : Lgd M w lb sb bm sv l root seg st size next forced) :
    Calls Try.prog 14 #[.pointer (some ⟨lb, 0, none⟩)] w fun r w' => r = .returned (.int .i64 (fst st next)) ∧ w' = w := by
  cases st with
  | nil => exact first_none w h
  | cons z st => exact first_some w z h
set_option maxRecDepth 100000 in
set_option maxHeartbeats 1000000 in
theorem last_any (w : World) (h : Lgd M w lb sb bm sv l root seg st size next forced) (h0 : -1000000000000000 ≤ seg) (h1 : seg ≤ 1000000000000000) (hl : st.length ≤ 100000) :
    Calls Try.prog 32 #[.pointer (some ⟨lb, 0, none⟩)] w fun r w' => ∃ k, r = .returned (.int .i64 k) ∧ Hid (k = seg + st.length - 1) ∧ w.grownBy w' none := by
  have c1 := h.c1
  have c2 := h.c2
  obtain ⟨a, cap, rfl, _⟩ := own_shape h.row
  go_enter Try.func32, Try.ntmps32
  go_wp2_with fail
  go_region
  all_goals
    go_wp2
    go_ret
    exact ⟨_, rfl, rfl, grown_drew w⟩
set_option maxRecDepth 100000 in
set_option maxHeartbeats 1000000 in
theorem force_none (w : World) (h : Lgd M w lb sb bm sv l root seg [] size next forced) :
    Calls Try.prog 12 #[.pointer (some ⟨lb, 0, none⟩)] w fun r w' => r = .returned (.int .i64 0) ∧ Lgd M w' lb sb bm sv l root seg [] size next next ∧ Kpt M w w' := by
  have c2 := h.c2
  have c4 := h.c4
  have c5 := h.c5
  have f5 := h.fz 5
  obtain ⟨a, cap, rfl, hl⟩ := own_shape h.row
  simp only [List.length_nil] at c2
  have hc := h.cell 5 (.int .i64 next) (seg' := seg) (size' := size) (next' := next) (forced' := next) rfl
  go_enter Try.func12, Try.ntmps12
  go_wp2
  go_ret
  exact ⟨rfl, hc⟩
/-- All of a segment is safe. -/
def syncS (n : Int) (x : Sg) (l : List Sg) : List Sg := putS ⟨n, x.v, x.b, x.b.length⟩ l
set_option maxRecDepth 100000 in
set_option maxHeartbeats 1000000 in
theorem force_some (w : World) (h : Lgd M w lb sb bm sv l root seg st size next forced) (h0 : -1000000000000000 ≤ seg) (h1 : seg ≤ 1000000000000000) (hl0 : 0 < st.length) (hl : st.length ≤ 100000) {x : Sg} (hx : getS (seg + st.length - 1) l = some x) :
    Calls Try.prog 12 #[.pointer (some ⟨lb, 0, none⟩)] w fun r w' => r = .returned (.int .i64 0) ∧ Lgd M w' lb sb bm sv (syncS (seg + st.length - 1) x l) root seg st size next next ∧ Kpt M w w' := by
  have c0 := h.c0
  have c2 := h.c2
  obtain ⟨a, cap, rfl, _⟩ := own_shape h.row
  have hd : decide ((st.length : Int) > 0) = true := by simp; omega
  have hk0 := h.keep (grown_drew w)
  go_enter Try.func12, Try.ntmps12
  go_wp2_with fail
  go_region_held3 (fun w' => w'.cell? ⟨lb, 0, none⟩ = some (.pointer (some ⟨sb, 0, none⟩)))
    (first
      | go_keep
      | exact (hk0.keep hg1).c0
      | exact hL2.c0)
    (first
      | (go_at_call 32
         refine (last_any _ hk0 h0 h1 hl).mono ?_
         rintro r w1 ⟨k, rfl, hk, hg1⟩)
      | (go_at_call 31
         rw [hk.out]
         refine (sync_some w1 (hk0.keep hg1).dsk hx).mono ?_
         rintro r w2 ⟨rfl, hD2, hg2⟩
         have hL2 := (hk0.keep hg1).disk hg2 (hD2.wide' hg2 (hk0.keep hg1))
         have hK2 := ((h.kpt0 (grown_drew w)).trans (hk0.kpt0 hg1)).trans ((hk0.keep hg1).kptm hg2)))
  all_goals
    have c4 := hL2.c4
    have c5 := hL2.c5
    have f5 := hL2.fz 5
    have hc := hL2.cell 5 (.int .i64 next) (seg' := seg) (size' := size) (next' := next) (forced' := next) rfl
    go_wp2
    go_ret
    exact ⟨rfl, hc.1, hK2.trans hc.2⟩
end
end Go.Proofs.Ytgblekdllcngnaa

/- What diskTakes, putInLast, putInNext do. -/
namespace Go.Proofs.Ytgblekdllcngnaa
open Go.RowKit Go.IntWalk Go.Maps
set_option linter.unusedVariables false

section
variable {M : Nat → Prop} {lb sb bm : Nat} {sv : Value} {l : List Sg} {root : List Int} {seg : Int} {st : List Int} {size next forced : Int}
set_option maxRecDepth 100000 in
set_option maxHeartbeats 1000000 in
theorem takes_none (w : World) (h : Lgd M w lb sb bm sv l root seg st size next forced) (n k : Int) (h0 : -9223372036854775808 ≤ n) (h1 : n < 9223372036854775808) (hx : getS n l = none) (hl : l.length < 128) :
    Calls Try.prog 53 #[.pointer (some ⟨lb, 0, none⟩), .int .i64 n, .int .i64 k] w fun r w' => r = .returned (.bool true) ∧ w.grownBy w' none := by
  have c0 := h.c0
  have hd : decide ((l.length : Int) < 128) = true := by simp; omega
  go_enter Try.func53, Try.ntmps53
  go_wp2_with fail
  refine (read_none w h.dsk h0 h1 hx).mono ?_
  rintro r w1 ⟨v1, rfl, hb1, hg1⟩
  obtain ⟨a1, cap1, rfl⟩ := hb1.1.shape
  have h2 := h.keep hg1
  have c02 := h2.c0
  go_wp2_with fail
  refine (segments_any w1 h2.dsk).mono ?_
  rintro r w2 ⟨g, cap, rfl, hrow, hg2⟩
  go_wp2
  go_ret
  exact ⟨rfl, grown_none hg1 hg2⟩
set_option maxRecDepth 100000 in
set_option maxHeartbeats 1000000 in
/-- putInLast, where it fits. -/
theorem putLast_any (w : World) (h : Lgd M w lb sb bm sv l root seg st size next forced) (h0 : 0 ≤ seg) (h1 : seg ≤ 1000000000000000) (hl0 : 0 < st.length) (hl : st.length ≤ 100000) {x : Sg} (hx : getS (seg + st.length - 1) l = some x)
    (a : Option Addr) (len cap : Nat) (f : List Int) (hf : Bts w.heap.size w (.slice a len cap) f) (hfit : x.b.length + f.length ≤ 1024) (hs0 : 0 ≤ size) (hs1 : size ≤ 1024) :
    Calls Try.prog 29 #[.pointer (some ⟨lb, 0, none⟩), .slice a len cap] w fun r w' => r = .returned (.int .i64 0) ∧ (∃ v', Lgd M w' lb sb bm sv (putS ⟨seg + st.length - 1, v', x.b ++ f, x.s⟩ l) root seg st (size + len) next forced) ∧ Kpt M w w' := by
  have c0 := h.c0
  have hk0 := h.keep (grown_drew w)
  have hlen := hf.len
  have hlb : len ≤ 1024 := by omega
  have ho : orS (seg + st.length - 1) l = x := by simp [orS, hx]
  have hfi : fits (seg + st.length - 1) f.length l = true := by
    unfold fits; rw [ho, hx]; simp; omega
  clear hlen
  go_enter Try.func29, Try.ntmps29
  go_wp2_with fail
  go_region_held3 (fun w' => w'.cell? ⟨lb, 0, none⟩ = some (.pointer (some ⟨sb, 0, none⟩)))
    (first
      | go_keep
      | exact (hk0.keep hg1).c0
      | exact hL2.c0)
    (first
      | (go_at_call 32
         refine (last_any _ hk0 (by omega) h1 hl).mono ?_
         rintro r w1 ⟨k, rfl, hk, hg1⟩)
      | (go_at_call 52
         rw [hk.out]
         refine (append_any w1 (hk0.keep hg1).dsk _ (by omega) (by omega) _ f (hf.grown0 (grown_none (grown_drew w) hg1))).mono ?_
         rintro r w2 (⟨_, rfl, ⟨v', hD2⟩, hg2⟩ | ⟨hno, _⟩)
         rotate_left
         · rw [hfi] at hno; cases hno
         rw [ho] at hD2
         have hL2 := (hk0.keep hg1).disk hg2 hD2
         have hK2 := ((h.kpt0 (grown_drew w)).trans (hk0.kpt0 hg1)).trans ((hk0.keep hg1).kptm hg2)))
  all_goals
    have c3 := hL2.c3
    have f3 := hL2.fz 3
    have hc := hL2.cell 3 (.int .i64 (size + len)) (seg' := seg) (size' := size + len) (next' := next) (forced' := forced) rfl
    go_wp2
    go_ret
    exact ⟨rfl, ⟨v', hc.1⟩, hK2.trans hc.2⟩
end
end Go.Proofs.Ytgblekdllcngnaa

/- What putInNext does. -/
namespace Go.Proofs.Ytgblekdllcngnaa
open Go.RowKit Go.IntWalk Go.Maps
set_option linter.unusedVariables false
set_option linter.unusedSimpArgs false

/-- 'append(starts, next)'. -/
theorem run_append_start (w : World) (sv : Value) (st : List Int) (z : Int) (hrow : w.ownsRow 0 3 1 sv st.length (st.map (Value.int .i64))) (hl : st.length ≤ 100000) (ty : TypeId) :
    ∃ sv' w', (Builtin.append_ #[23, 23] ty #[sv, .slice (some ⟨w.heap.size, 0, none⟩) 1 1]).run Try.prog (w.alloc (.cells #[.int .i64 z] 3)) = .ok sv' w' ∧ w'.ownsRow 0 3 1 sv' (st ++ [z]).length ((st ++ [z]).map (Value.int .i64)) ∧ w.grownBy w' sv.ownBlock ∧
      (sv'.ownBlock = sv.ownBlock ∨ ∃ k, sv'.ownBlock = some k ∧ w.heap.size ≤ k) := by
  obtain ⟨i0, hi, hz0, hz1, hz2⟩ := info_parts Try.info3
  have hga := World.grownBy_alloc w (.cells #[.int .i64 z] 3) none
  obtain ⟨v', w', hrun, h1, h2, _, h4⟩ := run_append_own_at (P := Try.prog) (w := w.alloc (.cells #[.int .i64 z] 3)) 0 23 ty 3 i0 (.int .i64 0) 1 8 Try.underlying23 hi hz0 hz1 hz2 rfl (by decide) sv st.length _ (hrow.kept hga (Classical.em _)) ⟨w.heap.size, 0, none⟩ 1 1 [.int .i64 z] rfl (fun j u hj => by
    have hadd : (⟨w.heap.size, 0, none⟩ : Addr).add j = ⟨w.heap.size, 0 + j, none⟩ := by unfold Addr.add; split <;> simp_all
    rw [hadd, Nat.zero_add]
    have hn := heap_alloc_new w (.cells #[.int .i64 z] 3)
    cases j with
    | zero => simp at hj; subst hj; simp only [World.cell?, hn]; rfl
    | succ j => simp at hj) (fun u hu => by simp at hu; subst hu; rfl) (by unfold maxLen; omega) (by omega) (by omega)
  refine ⟨v', w', hrun, by simpa using h1, grown_same hga h2, ?_⟩
  rcases h4 with h4 | h4
  · exact .inl h4
  · exact .inr ⟨_, h4, by simp⟩
theorem step_append_run {ops : Array Oper} {o : Oper} {a : Act} {w : World} {K : Act → World → Prop} {Q : Exit → Act → World → Prop} {E : Prop} (hgd : o.guard = none) (sl x : Operand) (hop : o.op = Op.call { callee := Callee.builtin Builtin.append, args := #[sl, x], argTypes := #[23, 23] })
    (v u : Value) (hs : a.eval sl = v) (hx : a.eval x = u) {v' : Value} {w' : World} (hrun : (Builtin.append_ #[23, 23] o.type #[v, u]).run Try.prog w = .ok v' w') (hK : K (a.put o.dst v') w') :
    if Region.wanted o (yielded ops a.tmps) = true then Oper.wp Try.prog o a w K Q else E := by
  have hw : Region.wanted o (yielded ops a.tmps) = true := by simp [Region.wanted, hgd]
  rw [if_pos hw]
  unfold Oper.wp
  simp [execOp, hop, resolve, invoke, builtin, hs, hx, hrun, Result.andThen]
  exact hK
section
variable {M : Nat → Prop} {lb sb bm : Nat} {sv : Value} {l : List Sg} {root : List Int} {seg : Int} {st : List Int} {size next forced : Int}
set_option maxRecDepth 100000 in
set_option maxHeartbeats 1000000 in
theorem putNext_full (w : World) (h : Lgd M w lb sb bm sv l root seg st size next forced) (hl : 100 ≤ st.length) (v : Value) :
    Calls Try.prog 30 #[.pointer (some ⟨lb, 0, none⟩), v] w fun r w' => r = .returned (.int .i64 41) ∧ w' = w := by
  have c2 := h.c2
  obtain ⟨a, cap, rfl, _⟩ := own_shape h.row
  have hd : decide ((st.length : Int) ≥ 100) = true := by simp; omega
  go_enter Try.func30, Try.ntmps30
  go_wp2
  go_ret
  exact ⟨rfl, rfl⟩
set_option maxRecDepth 100000 in
set_option maxHeartbeats 2000000 in
/-- putInNext. -/
theorem putNext_any (w : World) (h : Lgd M w lb sb bm sv l root seg st size next forced) (h0 : 0 ≤ seg) (h1 : seg ≤ 1000000000000000) (hl : st.length < 100) (l2 : List Sg) (hx : getS (seg + st.length) l = none) (hll : l.length < 128)
    (hF : ∀ w, Lgd M w lb sb bm sv l root seg st size next forced → Calls Try.prog 12 #[.pointer (some ⟨lb, 0, none⟩)] w fun r w' => r = .returned (.int .i64 0) ∧ Lgd M w' lb sb bm sv l2 root seg st size next next ∧ Kpt M w w')
    (hx2 : getS (seg + st.length) l2 = none) (hl2 : l2.length < 128)
    (a : Option Addr) (len cap : Nat) (f : List Int) (hf : Bts w.heap.size w (.slice a len cap) f) (hfit : f.length ≤ 1024) (hM : ∀ b off, a = some ⟨b, off, none⟩ → M b) :
    Calls Try.prog 30 #[.pointer (some ⟨lb, 0, none⟩), .slice a len cap] w fun r w' => r = .returned (.int .i64 0) ∧ (∃ sv' v', Lgd M w' lb sb bm sv' (putS ⟨seg + st.length, v', f, 0⟩ l2) root seg (st ++ [next]) len next next) ∧ Kpt M w w' := by
  have c1 := h.c1
  have c2 := h.c2
  obtain ⟨sa, scap, rfl, _⟩ := own_shape h.row
  have hlen := hf.len
  have hd : decide ((st.length : Int) ≥ 100) = false := by simp; omega
  have ho : orS (seg + st.length) l2 = ⟨seg + st.length, .slice none 0 0, [], 0⟩ := by simp [orS, hx2]
  have hfi : fits (seg + st.length) f.length l2 = true := by
    unfold fits; rw [ho, hx2]; simp; omega
  have hlb : len ≤ 1024 := by omega
  have hgd := grown_drew w
  have hk0 := h.keep hgd
  clear hlen
  go_enter Try.func30, Try.ntmps30
  go_wp2_with fail
  go_region
  all_goals
    go_wp2_with fail
    refine (takes_none _ hk0 (seg + st.length) len (by omega) (by omega) hx hll).mono ?_
    rintro r w1 ⟨rfl, hg1⟩
    have h2 := hk0.keep hg1
    go_wp2_with fail
    refine (hF w1 h2).mono ?_
    rintro r w2 ⟨rfl, h3, hK3⟩
    have c03 := h3.c0
    have hb3 : Bts w2.heap.size w2 (.slice a len cap) f := (hf.grown0 (grown_none hgd hg1)).kpt hK3 (fun b off len cap e => hM b off (by simp only [Value.slice.injEq] at e; exact e.1))
    go_wp2_with fail
    refine (append_any w2 h3.dsk _ (by omega) (by omega) _ f hb3).mono ?_
    rintro r w4 (⟨_, rfl, ⟨v', hD4⟩, hg4⟩ | ⟨hno, _⟩)
    rotate_left
    · rw [hfi] at hno; cases hno
    rw [ho] at hD4
    dsimp only [List.nil_append] at hD4
    have h4 := h3.disk hg4 hD4
    have hK4 := (((h.kpt0 hgd).trans (hk0.kpt0 hg1)).trans hK3).trans (h3.kptm hg4)
    have h5 := h4.keep (grown_drew w4)
    have hK5 := hK4.trans (h4.kpt0 (grown_drew w4))
    have c25 := h5.c2
    have c45 := h5.c4
    obtain ⟨sv', w6, hrun, hrow6, hg6, ho6⟩ := run_append_start w4.drew _ st next h5.row (by omega) 23
    obtain ⟨h7, hK7, c26, f26, c46⟩ := h5.starts hrow6 hg6 ho6
    have hb6 := (hg6.block lb h5.lbl (fun e => (h5.nrow lb e.symm).1 rfl)).trans h5.blk
    have c36 : w6.cell? ⟨lb, 3, none⟩ = some (.int .i64 size) := by simp [World.cell?, hb6]
    have f36 : w6.frozen? ⟨lb, 3, none⟩ = false := by simp [World.frozen?, hb6]
    have hc := h7.cell 3 (.int .i64 len) (seg' := seg) (size' := len) (next' := next) (forced' := next) rfl
    obtain ⟨sa', scap', rfl, _⟩ := own_shape hrow6
    simp only [List.length_append, List.length_cons, List.length_nil, Nat.zero_add] at hc hK7 hrun
    have hga := World.grownBy_alloc w4 (.cells #[.int .i64 next] 3) none
    have c2a := (h4.keep hga).c2
    have c4a := (h4.keep hga).c4
    have c24 := h4.c2
    have c44 := h4.c4
    have hrun' : (Builtin.append_ #[23, 23] 23 #[.slice sa st.length scap, .slice (some ⟨w4.heap.size, 0, none⟩) 1 1]).run Try.prog (w4.alloc (.cells #[.int .i64 next] 3)).drew = .ok _ w6 := hrun
    clear hrun
    go_wp2_with fail
    refine wp_region_any (by kernel_rfl) ?_
    change wpAny _ _ _ _ _ _ _ (World.drew _)
    refine wpAny_take (i := 0) (v := ?_) rfl (by kernel_rfl) (by kernel_rfl) (by kernel_rfl) (fun _ _ _ h => h) (Or.inl ⟨by rfl, ?_⟩) ?_
    rotate_left
    · (intro w; go_simp; try with_reducible rfl)
    try simp only [List.getElem_toArray, List.getElem_cons_zero, List.getElem_cons_succ, Act.put, List.setIfInBounds_toArray, List.set_cons_zero, List.set_cons_succ]
    refine wpAny_take (i := 1) (v := ?_) rfl (by kernel_rfl) (by kernel_rfl) (by kernel_rfl) (fun _ _ _ h => h) (Or.inl ⟨by rfl, ?_⟩) ?_
    rotate_left
    · (intro w; go_simp; try with_reducible rfl)
    try simp only [List.getElem_toArray, List.getElem_cons_zero, List.getElem_cons_succ, Act.put, List.setIfInBounds_toArray, List.set_cons_zero, List.set_cons_succ]
    refine wpAny_take (i := 2) (v := ?_) rfl (by kernel_rfl) (by kernel_rfl) (by kernel_rfl) (fun _ _ _ h => h) (Or.inl ⟨by rfl, ?_⟩) ?_
    rotate_left
    · (intro w; go_simp; try with_reducible rfl)
    try simp only [List.getElem_toArray, List.getElem_cons_zero, List.getElem_cons_succ, Act.put, List.setIfInBounds_toArray, List.set_cons_zero, List.set_cons_succ]
    refine wpAny_take (i := 3) (v := ?_) rfl (by kernel_rfl) (by kernel_rfl) (by kernel_rfl) (fun _ _ _ h => h) (Or.inl ⟨by rfl, ?_⟩) ?_
    rotate_left
    · (intro w; go_simp; try with_reducible rfl)
    try simp only [List.getElem_toArray, List.getElem_cons_zero, List.getElem_cons_succ, Act.put, List.setIfInBounds_toArray, List.set_cons_zero, List.set_cons_succ]
    refine wpAny_take (i := 5) (v := ?_) rfl (by kernel_rfl) (by kernel_rfl) (by kernel_rfl) (fun _ _ _ h => h) (Or.inl ⟨by rfl, ?_⟩) ?_
    rotate_left
    · (intro w; go_simp; try with_reducible rfl)
    try simp only [List.getElem_toArray, List.getElem_cons_zero, List.getElem_cons_succ, Act.put, List.setIfInBounds_toArray, List.set_cons_zero, List.set_cons_succ]
    refine wpAny_take (i := 6) (v := ?_) rfl (by kernel_rfl) (by kernel_rfl) (by kernel_rfl) (fun _ _ _ h => h) (Or.inl ⟨by rfl, ?_⟩) ?_
    rotate_left
    · (intro w; go_simp; try with_reducible rfl)
    try simp only [List.getElem_toArray, List.getElem_cons_zero, List.getElem_cons_succ, Act.put, List.setIfInBounds_toArray, List.set_cons_zero, List.set_cons_succ]
    refine wpAny_take (i := 7) (v := ?_) rfl (by kernel_rfl) (by kernel_rfl) (by kernel_rfl) (fun _ _ _ h => h) (Or.inl ⟨by rfl, ?_⟩) ?_
    rotate_left
    · (intro w; go_simp; try with_reducible rfl)
    try simp only [List.getElem_toArray, List.getElem_cons_zero, List.getElem_cons_succ, Act.put, List.setIfInBounds_toArray, List.set_cons_zero, List.set_cons_succ]
    refine wpAny_ready (rs := [4, 8]) (by kernel_rfl) (by simp) ?_
    refine AllReady.cons rfl (fun K hK => ?_) (AllReady.cons rfl (fun K hK => ?_) (AllReady.nil))
    · go_simp
      refine hK _ _ ?_
      clear hK K
      try simp only [List.getElem_toArray, List.getElem_cons_zero, List.getElem_cons_succ, Act.put, List.setIfInBounds_toArray, List.set_cons_zero, List.set_cons_succ]
      refine wpAny_ready (rs := [8]) (by kernel_rfl) (by simp) ?_
      refine AllReady.cons rfl (fun K hK => ?_) (AllReady.nil)
      go_simp
      refine hK _ _ ?_
      clear hK K
      try simp only [List.getElem_toArray, List.getElem_cons_zero, List.getElem_cons_succ, Act.put, List.setIfInBounds_toArray, List.set_cons_zero, List.set_cons_succ]
      refine wpAny_ready (rs := [9]) (by kernel_rfl) (by simp) ?_
      refine AllReady.cons rfl (fun K hK => ?_) (AllReady.nil)
      go_simp
      refine hK _ _ ?_
      clear hK K
      try simp only [List.getElem_toArray, List.getElem_cons_zero, List.getElem_cons_succ, Act.put, List.setIfInBounds_toArray, List.set_cons_zero, List.set_cons_succ]
      refine wpAny_ready (rs := [10]) (by kernel_rfl) (by simp) ?_
      refine AllReady.cons rfl (fun K hK => ?_) (AllReady.nil)
      refine step_append_run (by rfl) _ _ (by rfl) _ _ (by rfl) (by rfl) hrun' ?_
      refine hK _ _ ?_
      clear hK K
      try simp only [List.getElem_toArray, List.getElem_cons_zero, List.getElem_cons_succ, Act.put, List.setIfInBounds_toArray, List.set_cons_zero, List.set_cons_succ]
      refine wpAny_take (i := 11) (v := ?_) rfl (by kernel_rfl) (by kernel_rfl) (by kernel_rfl) (fun _ _ _ h => h) (Or.inl ⟨by rfl, ?_⟩) ?_
      rotate_left
      · (intro w; go_simp; try with_reducible rfl)
      try simp only [List.getElem_toArray, List.getElem_cons_zero, List.getElem_cons_succ, Act.put, List.setIfInBounds_toArray, List.set_cons_zero, List.set_cons_succ]
      refine wpAny_take (i := 12) (v := ?_) rfl (by kernel_rfl) (by kernel_rfl) (by kernel_rfl) (fun _ _ _ h => h) (Or.inl ⟨by rfl, ?_⟩) ?_
      rotate_left
      · (intro w; go_simp; try with_reducible rfl)
      try simp only [List.getElem_toArray, List.getElem_cons_zero, List.getElem_cons_succ, Act.put, List.setIfInBounds_toArray, List.set_cons_zero, List.set_cons_succ]
      refine wpAny_ready (rs := [13]) (by kernel_rfl) (by simp) ?_
      refine AllReady.cons rfl (fun K hK => ?_) (AllReady.nil)
      go_simp
      refine hK _ _ ?_
      clear hK K
      try simp only [List.getElem_toArray, List.getElem_cons_zero, List.getElem_cons_succ, Act.put, List.setIfInBounds_toArray, List.set_cons_zero, List.set_cons_succ]
      refine wpAny_done (by kernel_rfl) ?_ _
      go_wp2
      go_ret
      exact ⟨rfl, ⟨_, v', hc.1⟩, (hK5.trans hK7).trans hc.2⟩
    · go_simp
      refine hK _ _ ?_
      clear hK K
      try simp only [List.getElem_toArray, List.getElem_cons_zero, List.getElem_cons_succ, Act.put, List.setIfInBounds_toArray, List.set_cons_zero, List.set_cons_succ]
      refine wpAny_ready (rs := [4, 9]) (by kernel_rfl) (by simp) ?_
      refine AllReady.cons rfl (fun K hK => ?_) (AllReady.cons rfl (fun K hK => ?_) (AllReady.nil))
      · go_simp
        refine hK _ _ ?_
        clear hK K
        try simp only [List.getElem_toArray, List.getElem_cons_zero, List.getElem_cons_succ, Act.put, List.setIfInBounds_toArray, List.set_cons_zero, List.set_cons_succ]
        refine wpAny_ready (rs := [9]) (by kernel_rfl) (by simp) ?_
        refine AllReady.cons rfl (fun K hK => ?_) (AllReady.nil)
        go_simp
        refine hK _ _ ?_
        clear hK K
        try simp only [List.getElem_toArray, List.getElem_cons_zero, List.getElem_cons_succ, Act.put, List.setIfInBounds_toArray, List.set_cons_zero, List.set_cons_succ]
        refine wpAny_ready (rs := [10]) (by kernel_rfl) (by simp) ?_
        refine AllReady.cons rfl (fun K hK => ?_) (AllReady.nil)
        refine step_append_run (by rfl) _ _ (by rfl) _ _ (by rfl) (by rfl) hrun' ?_
        refine hK _ _ ?_
        clear hK K
        try simp only [List.getElem_toArray, List.getElem_cons_zero, List.getElem_cons_succ, Act.put, List.setIfInBounds_toArray, List.set_cons_zero, List.set_cons_succ]
        refine wpAny_take (i := 11) (v := ?_) rfl (by kernel_rfl) (by kernel_rfl) (by kernel_rfl) (fun _ _ _ h => h) (Or.inl ⟨by rfl, ?_⟩) ?_
        rotate_left
        · (intro w; go_simp; try with_reducible rfl)
        try simp only [List.getElem_toArray, List.getElem_cons_zero, List.getElem_cons_succ, Act.put, List.setIfInBounds_toArray, List.set_cons_zero, List.set_cons_succ]
        refine wpAny_take (i := 12) (v := ?_) rfl (by kernel_rfl) (by kernel_rfl) (by kernel_rfl) (fun _ _ _ h => h) (Or.inl ⟨by rfl, ?_⟩) ?_
        rotate_left
        · (intro w; go_simp; try with_reducible rfl)
        try simp only [List.getElem_toArray, List.getElem_cons_zero, List.getElem_cons_succ, Act.put, List.setIfInBounds_toArray, List.set_cons_zero, List.set_cons_succ]
        refine wpAny_ready (rs := [13]) (by kernel_rfl) (by simp) ?_
        refine AllReady.cons rfl (fun K hK => ?_) (AllReady.nil)
        go_simp
        refine hK _ _ ?_
        clear hK K
        try simp only [List.getElem_toArray, List.getElem_cons_zero, List.getElem_cons_succ, Act.put, List.setIfInBounds_toArray, List.set_cons_zero, List.set_cons_succ]
        refine wpAny_done (by kernel_rfl) ?_ _
        go_wp2
        go_ret
        exact ⟨rfl, ⟨_, v', hc.1⟩, (hK5.trans hK7).trans hc.2⟩
      · go_simp
        refine hK _ _ ?_
        clear hK K
        try simp only [List.getElem_toArray, List.getElem_cons_zero, List.getElem_cons_succ, Act.put, List.setIfInBounds_toArray, List.set_cons_zero, List.set_cons_succ]
        refine wpAny_ready (rs := [4]) (by kernel_rfl) (by simp) ?_
        refine AllReady.cons rfl (fun K hK => ?_) (AllReady.nil)
        go_simp
        refine hK _ _ ?_
        clear hK K
        try simp only [List.getElem_toArray, List.getElem_cons_zero, List.getElem_cons_succ, Act.put, List.setIfInBounds_toArray, List.set_cons_zero, List.set_cons_succ]
        refine wpAny_ready (rs := [10]) (by kernel_rfl) (by simp) ?_
        refine AllReady.cons rfl (fun K hK => ?_) (AllReady.nil)
        refine step_append_run (by rfl) _ _ (by rfl) _ _ (by rfl) (by rfl) hrun' ?_
        refine hK _ _ ?_
        clear hK K
        try simp only [List.getElem_toArray, List.getElem_cons_zero, List.getElem_cons_succ, Act.put, List.setIfInBounds_toArray, List.set_cons_zero, List.set_cons_succ]
        refine wpAny_take (i := 11) (v := ?_) rfl (by kernel_rfl) (by kernel_rfl) (by kernel_rfl) (fun _ _ _ h => h) (Or.inl ⟨by rfl, ?_⟩) ?_
        rotate_left
        · (intro w; go_simp; try with_reducible rfl)
        try simp only [List.getElem_toArray, List.getElem_cons_zero, List.getElem_cons_succ, Act.put, List.setIfInBounds_toArray, List.set_cons_zero, List.set_cons_succ]
        refine wpAny_take (i := 12) (v := ?_) rfl (by kernel_rfl) (by kernel_rfl) (by kernel_rfl) (fun _ _ _ h => h) (Or.inl ⟨by rfl, ?_⟩) ?_
        rotate_left
        · (intro w; go_simp; try with_reducible rfl)
        try simp only [List.getElem_toArray, List.getElem_cons_zero, List.getElem_cons_succ, Act.put, List.setIfInBounds_toArray, List.set_cons_zero, List.set_cons_succ]
        refine wpAny_ready (rs := [13]) (by kernel_rfl) (by simp) ?_
        refine AllReady.cons rfl (fun K hK => ?_) (AllReady.nil)
        go_simp
        refine hK _ _ ?_
        clear hK K
        try simp only [List.getElem_toArray, List.getElem_cons_zero, List.getElem_cons_succ, Act.put, List.setIfInBounds_toArray, List.set_cons_zero, List.set_cons_succ]
        refine wpAny_done (by kernel_rfl) ?_ _
        go_wp2
        go_ret
        exact ⟨rfl, ⟨_, v', hc.1⟩, (hK5.trans hK7).trans hc.2⟩
end
end Go.Proofs.Ytgblekdllcngnaa
