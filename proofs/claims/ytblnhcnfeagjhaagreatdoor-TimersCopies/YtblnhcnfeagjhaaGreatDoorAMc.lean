/- The calls of no table. -/
import Derived.Test.YtblnhcnfeagjhaaGreatDoorSet
namespace Go.Proofs.YtblnhcnfeagjhaaGreatDoor
open Go.RowKit Go.IntWalk Go.Maps Go.Shelf
set_option linter.unusedVariables false
set_option maxRecDepth 100000 in
theorem drop_nil (w : World) (n : ByteArray) : Calls Tryz.prog 16 #[.pointer none, .string n] w fun r w' => r = .returned (.bool false) ∧ w' = w := by
  go_enter Tryz.func16, Tryz.ntmps16
  go_wp2
  go_ret
  exact ⟨rfl, rfl⟩
set_option maxRecDepth 100000 in
theorem get_nil (w : World) (n : ByteArray) : Calls Tryz.prog 28 #[.pointer none, .string n] w fun r w' => r = .returned (.tuple #[zTv, .bool false]) ∧ w.grownBy w' none := by
  have hga := World.grownBy_alloc w zT none
  obtain ⟨c0, c1, c2, c3, c4, f0⟩ := own_five (World.alloc_heap_new w zT)
  go_enter Tryz.func28, Tryz.ntmps28
  go_wp2
  refine bodyPost_ret (v := .tuple #[zTv, .bool false]) (by rw [results_cell_tmp rfl]; go_simp; rfl) rfl ?_
  exact ⟨rfl, hga⟩
set_option maxRecDepth 100000 in
theorem adv_nil (w : World) (t : Int) : Calls Tryz.prog 19 #[.pointer none, .int .u64 t] w fun r w' => r = .returned (.slice none 0 0) ∧ w' = w := by
  go_enter Tryz.func19, Tryz.ntmps19
  go_wp2
  go_ret
  exact ⟨rfl, rfl⟩
set_option maxRecDepth 100000 in
theorem due_nil (w : World) : Calls Tryz.prog 25 #[.pointer none] w fun r w' => r = .returned (.slice none 0 0) ∧ w' = w := by
  go_enter Tryz.func25, Tryz.ntmps25
  go_wp2
  go_ret
  exact ⟨rfl, rfl⟩
set_option maxRecDepth 100000 in
theorem all_nil (w : World) : Calls Tryz.prog 26 #[.pointer none] w fun r w' => r = .returned (.slice none 0 0) ∧ w' = w := by
  go_enter Tryz.func26, Tryz.ntmps26
  go_wp2
  go_ret
  exact ⟨rfl, rfl⟩
set_option maxRecDepth 100000 in
theorem clock_nil (w : World) : Calls Tryz.prog 27 #[.pointer none] w fun r w' => r = .returned (.int .u64 0) ∧ w' = w := by
  go_enter Tryz.func27, Tryz.ntmps27
  go_wp2
  go_ret
  exact ⟨rfl, rfl⟩
set_option maxRecDepth 100000 in
theorem soon_nil (w : World) : Calls Tryz.prog 33 #[.pointer none] w fun r w' => r = .returned (.tuple #[.int .u64 0, .bool false]) ∧ w' = w := by
  go_enter Tryz.func33, Tryz.ntmps33
  go_wp2
  go_ret2
  exact ⟨rfl, rfl⟩
set_option maxRecDepth 100000 in
theorem copy_nil (w : World) : Calls Tryz.prog 22 #[.pointer none] w fun r w' => r = .returned (.pointer none) ∧ w' = w := by
  go_enter Tryz.func22, Tryz.ntmps22
  go_wp2
  go_ret
  exact ⟨rfl, rfl⟩
set_option maxRecDepth 100000 in
set_option maxHeartbeats 1000000 in
/-- Table.Clock. -/
theorem clock_t (w : World) {S : Nat → Prop} {tb : Nat} {now : Int} {M : List Tmr} {L1 : List W.E} {L2 : List Q.E} (h : Tab S w tb now M L1 L2) : Calls Tryz.prog 27 #[ptr tb] w fun r w' => r = .returned (.int .u64 now) ∧ w' = w := by
  obtain ⟨mb, wb, qb, S1, S2, hT, hfp, hI⟩ := h
  have b1 : w.cell? ⟨tb, 1, none⟩ = some (ptr wb) := by simp [World.cell?, hT.blk]
  have hc := W.clock_any w hT.wh
  go_enter Tryz.func27, Tryz.ntmps27
  go_wp2_with fail
  refine hc.mono ?_
  rintro r w1 ⟨rfl, rfl⟩
  go_wp2
  go_ret
  exact ⟨rfl, rfl⟩
/-- No timer. -/
def zTm : Tmr := ⟨⟨#[]⟩, 0, 0, 0, .slice none 0 0, []⟩
set_option maxRecDepth 100000 in
set_option maxHeartbeats 2000000 in
/-- Table.Get, of what the map tells. -/
theorem get_x (w : World) {S : Nat → Prop} {tb : Nat} {now : Int} {M : List Tmr} {L1 : List W.E} {L2 : List Q.E} (h : Tab S w tb now M L1 L2) (n : ByteArray) (x : Tmr) (b : Bool) (hx : Sps w.heap.size w x.v x.xs) (hxl : x.xs.length ≤ 100000)
    (hlk : ∀ mb, TM (w.alloc zT) mb M → (Instr.lookup 68 (.map (some mb)) (.string n) true).run Tryz.prog (w.alloc zT) = .ok (.tuple #[x.val, .bool b]) (w.alloc zT)) :
    Calls Tryz.prog 28 #[ptr tb, .string n] w fun r w' => w.grownBy w' none ∧ ∃ v', r = .returned (.tuple #[({ x with v := v' } : Tmr).val, .bool b]) ∧ Sps w'.heap.size w' v' x.xs ∧ ∀ k, v'.ownBlock = some k → w.heap.size ≤ k ∧ k < w'.heap.size := by
  obtain ⟨mb, wb, qb, S1, S2, hT, hfp, hI⟩ := h
  have hga := World.grownBy_alloc w zT none
  have hrun := hlk mb (hT.keep hga).tm
  obtain ⟨nm, vr, a, ev, v, xs⟩ := x
  simp only [Tmr.val] at hrun hx hxl ⊢
  obtain ⟨va, vc, rfl, _⟩ := hx.shape
  have b0 : (w.alloc zT).cell? ⟨tb, 0, none⟩ = some (.map (some mb)) := by simp [World.cell?, (hT.keep hga).blk]
  have hg2 := grown_none hga (World.grownBy_alloc (w.alloc zT) (bT nm vr a ev (.slice va xs.length vc)) none)
  have hap := apart_any ((w.alloc zT).alloc (bT nm vr a ev (.slice va xs.length vc))) ⟨nm, vr, a, ev, .slice va xs.length vc, xs⟩ ((hx.keep hg2 (Nat.le_refl _)).up hg2.size) hxl
  simp only [Tmr.val] at hap
  replace hap : Hid _ := ⟨hap⟩
  have hb0 : ((w.alloc zT).alloc (bT nm vr a ev (.slice va xs.length vc))).heap[w.heap.size]? = some zT := by
    rw [(World.grownBy_alloc (w.alloc zT) (bT nm vr a ev (.slice va xs.length vc)) none).block w.heap.size (by simp) (by simp)]
    exact World.alloc_heap_new w _
  replace hg2 : Hid _ := ⟨hg2⟩
  clear hT hfp hI hlk hx hga
  go_enter Tryz.func28, Tryz.ntmps28
  go_wp2_with fail
  refine hap.out.mono ?_
  rintro r w3 ⟨v', rfl, hs3, hn3, hg3⟩
  obtain ⟨a', c', rfl, _⟩ := hs3.shape
  have hb3 := (hg3.block w.heap.size (by simp; omega) (by simp)).trans hb0
  obtain ⟨c0, c1, c2, c3, c4, f0⟩ := own_five hb3
  have hgw : Hid _ := ⟨grown_none hg2.out hg3⟩
  replace hs3 : Hid _ := ⟨hs3⟩
  replace hn3 : Hid _ := ⟨hn3⟩
  clear hap hg3 hb0 hb3 hrun b0
  go_wp2
  refine bodyPost_ret (v := .tuple #[.agg #[.string nm, .int .i64 vr, .int .u64 a, .int .u64 ev, .slice a' xs.length c'], .bool b]) (by rw [results_cell_tmp rfl]; go_simp) rfl ?_
  have hsz := hgw.out.size
  refine ⟨?_, _, rfl, ?_, fun k e => ?_⟩
  · iterate 5 refine set_one ?_ _ _ _ (by omega)
    exact hgw.out
  · refine Sps.up (n₀ := w3.heap.size) ?_ (by simp)
    refine hs3.out.kept fun k e hk => ?_
    have := hn3.out k e
    simp at this
    iterate 5 refine set_keep ?_ _ _ _ (by omega)
    rfl
  · have := hn3.out k e
    simp at this
    exact ⟨by omega, by simp; omega⟩
/-- Table.Get of a name that is there. -/
theorem get_some (w : World) {S : Nat → Prop} {tb : Nat} {now : Int} {M : List Tmr} {L1 : List W.E} {L2 : List Q.E} (h : Tab S w tb now M L1 L2) {x : Tmr} (hx : x ∈ M) :
    Calls Tryz.prog 28 #[ptr tb, .string x.nm] w fun r w' => w.grownBy w' none ∧ ∃ v', r = .returned (.tuple #[({ x with v := v' } : Tmr).val, .bool true]) ∧ Sps w'.heap.size w' v' x.xs ∧ ∀ k, v'.ownBlock = some k → w.heap.size ≤ k ∧ k < w'.heap.size := by
  obtain ⟨mb, wb, qb, S1, S2, hT, hfp, hI⟩ := id h
  have htr := (tR_iff x).1 (hI.ok x hx).2
  have hnm : x.nm.size ≤ maxLen := by unfold maxLen; omega
  refine get_x w h x.nm x true (hT.sp x hx).1 (by have := htr.2.2.2.2; unfold wrE at this; split at this <;> omega) fun mb' hM => ?_
  rcases hM.look hnm with ⟨y, hy, hyn, h1, _⟩ | ⟨hno, _⟩
  · rw [hT.tm.un hx hy hyn.symm]
    rw [hT.tm.un hx hy hyn.symm] at h1
    exact h1
  · exact absurd rfl (hno x hx)
/-- .. of one that is not. -/
theorem get_no (w : World) {S : Nat → Prop} {tb : Nat} {now : Int} {M : List Tmr} {L1 : List W.E} {L2 : List Q.E} (h : Tab S w tb now M L1 L2) {n : ByteArray} (hn : n.size ≤ maxLen) (hno : ∀ x ∈ M, x.nm ≠ n) :
    Calls Tryz.prog 28 #[ptr tb, .string n] w fun r w' => w.grownBy w' none ∧ ∃ v', r = .returned (.tuple #[({ zTm with v := v' } : Tmr).val, .bool false]) ∧ Sps w'.heap.size w' v' [] ∧ ∀ k, v'.ownBlock = some k → w.heap.size ≤ k ∧ k < w'.heap.size := by
  refine get_x w h n zTm false (.inl ⟨.inl rfl, rfl⟩) (by simp [zTm]) fun mb' hM => ?_
  rcases hM.look hn with ⟨y, hy, hyn, h1, _⟩ | ⟨_, h1⟩
  · exact absurd hyn (hno y hy)
  · exact h1
end Go.Proofs.YtblnhcnfeagjhaaGreatDoor

/- A table in a loop that puts entries into its queue and appends to a row of its own. -/
namespace Go.Proofs.YtblnhcnfeagjhaaGreatDoor
open Go.RowKit Go.IntWalk Go.Maps Go.Shelf
set_option linter.unusedVariables false
/-- The loop's memory: the table, a row dv that is gone through, a row nv that grows. -/
structure Lp (w wr : World) (S : Nat → Prop) (tb mb wb qb : Nat) (S1 : Nat → Prop) (t : Int) (M : List Tmr) (L1 : List W.E) (L2 : List Q.E) (dv nv : Value) : Prop where
  ex : ∃ S2, Tb wr tb mb wb qb S1 S2 t M L1 L2 ∧ (∀ k, S2 k → Gw S w wr k) ∧ (∀ k, dv.ownBlock = some k → ¬ S2 k) ∧ (∀ k, nv.ownBlock = some k → ¬ S2 k)
  kp : Kp S w wr
  fp : ∀ k, fpT tb mb S1 (fun _ => False) M k → S k
  sl : ∀ k, S k → k < w.heap.size
  dn : ∀ k, dv.ownBlock = some k → w.heap.size ≤ k ∧ k < wr.heap.size
  nn : ∀ k, nv.ownBlock = some k → w.heap.size ≤ k ∧ k < wr.heap.size
  ap : ∀ k, dv.ownBlock = some k → nv.ownBlock ≠ some k
section
variable {w wr w' : World} {S : Nat → Prop} {tb mb wb qb : Nat} {S1 : Nat → Prop} {t : Int} {M : List Tmr} {L1 : List W.E} {L2 : List Q.E} {dv nv : Value}
theorem Lp.grown (h : Lp w wr S tb mb wb qb S1 t M L1 L2 dv nv) (hg : wr.grownBy w' none) : Lp w w' S tb mb wb qb S1 t M L1 L2 dv nv := by
  obtain ⟨S2, h1, h2, h3, h4⟩ := h.ex
  have hs := hg.size
  exact ⟨⟨S2, h1.keep hg, fun k hk => (h2 k hk).imp id fun e => ⟨e.1, by omega⟩, h3, h4⟩, h.kp.trans (Kp.of0 hg) (fun _ _ h => h), h.fp, h.sl, fun k hk => ⟨(h.dn k hk).1, by have := (h.dn k hk).2; omega⟩, fun k hk => ⟨(h.nn k hk).1, by have := (h.nn k hk).2; omega⟩, h.ap⟩
theorem Lp.put (h : Lp w wr S tb mb wb qb S1 t M L1 L2 dv nv) (hg : wr.grownBy w' none) (n : ByteArray) (a : Int) (hn : n.size ≤ maxLen) (ha : 0 ≤ a ∧ a < 18446744073709551616) (hl : L2.length < 100000) :
    Calls Tryz.prog 46 #[ptr qb, .string n, .int .u64 a] w' fun r w5 => (∃ b, r = .returned (.bool b)) ∧ Lp w w5 S tb mb wb qb S1 t M L1 (Q.putE ⟨n, a⟩ L2) dv nv ∧ (∀ j, (dv.ownBlock = some j ∨ nv.ownBlock = some j ∨ (wr.heap.size ≤ j ∧ j < w'.heap.size)) → w5.heap[j]? = w'.heap[j]?) := by
  obtain ⟨S2, h1, h2, h3, h4⟩ := h.ex
  have hs := hg.size
  have hT := h1.keep hg
  refine (Q.put_any w' hT.qu ⟨n, a⟩ ⟨hn, ha⟩ hl).mono ?_
  rintro r w5 ⟨rfl, h5, h6⟩
  have hs5 := h6.size
  have hkp := h.kp.size
  refine ⟨⟨_, rfl⟩, ⟨⟨Q.Gw S2 w' w5, hT.queue h6 h5, ?_, ?_, ?_⟩, ?_, h.fp, h.sl, ?_, ?_, h.ap⟩, ?_⟩
  · intro k hk
    rcases hk with hk | hk
    · exact (h2 k hk).imp id fun e => ⟨e.1, by omega⟩
    · exact .inr ⟨by omega, hk.2⟩
  · intro k hk e
    have := h.dn k hk
    rcases e with e | e
    · exact h3 k hk e
    · omega
  · intro k hk e
    have := h.nn k hk
    rcases e with e | e
    · exact h4 k hk e
    · omega
  · refine (h.kp.trans (Kp.of0 (C := S) hg) (fun _ _ h => h)).trans (kpQ h6) fun k hl hk => ?_
    rcases h2 k hk with e | e
    · exact e
    · omega
  · intro k hk
    have := h.dn k hk
    exact ⟨this.1, by omega⟩
  · intro k hk
    have := h.nn k hk
    exact ⟨this.1, by omega⟩
  · intro j hj
    rcases hj with hj | hj | hj
    · exact h6.block j (by have := h.dn j hj; omega) (h3 j hj)
    · exact h6.block j (by have := h.nn j hj; omega) (h4 j hj)
    · exact h6.block j hj.2 fun e => by have := (h1.s2 j e).1; omega
theorem Lp.app (h : Lp w wr S tb mb wb qb S1 t M L1 L2 dv nv) {nv' : Value} (hg : wr.grownBy w' nv.ownBlock) (ho : nv'.ownBlock = nv.ownBlock ∨ ∃ k, nv'.ownBlock = some k ∧ wr.heap.size ≤ k) (hl : ∀ k, nv'.ownBlock = some k → k < w'.heap.size) :
    Lp w w' S tb mb wb qb S1 t M L1 L2 dv nv' ∧ ∀ j, dv.ownBlock = some j → w'.heap[j]? = wr.heap[j]? := by
  obtain ⟨S2, h1, h2, h3, h4⟩ := h.ex
  have hs := hg.size
  have hkp := h.kp.size
  have hne : ∀ k, S k → some k ≠ nv.ownBlock := fun k hk e => by have := h.sl k hk; have := (h.nn k e.symm).1; omega
  refine ⟨⟨⟨S2, h1.kept hs fun k hk hl => hg.block k hl ?_, ?_, h3, ?_⟩, ?_, h.fp, h.sl, ?_, ?_, ?_⟩, ?_⟩
  · rcases hk with rfl | rfl | hk | hk | hk
    · exact hne _ (h.fp _ (.inl rfl))
    · exact hne _ (h.fp _ (.inr (.inl rfl)))
    · exact hne _ (h.fp _ (.inr (.inr (.inl hk))))
    · exact fun e => h4 k e.symm hk
    · exact hne _ (h.fp _ (.inr (.inr (.inr (.inr hk)))))
  · intro k hk
    exact (h2 k hk).imp id fun e => ⟨e.1, by omega⟩
  · intro k hk e
    rcases ho with ho | ⟨j, hj, hjl⟩
    · exact h4 k (ho ▸ hk) e
    · rw [hj] at hk; cases hk
      have := (h1.s2 k e).1
      omega
  · exact ⟨hg.os.trans h.kp.os, hg.tape.trans h.kp.tape, hg.output.trans h.kp.output, Nat.le_trans hkp hs, fun i hi hn => (hg.block i (by omega) fun e => by have := (h.nn i e.symm).1; omega).trans (h.kp.block i hi hn)⟩
  · intro k hk
    have := h.dn k hk
    exact ⟨this.1, by omega⟩
  · intro k hk
    refine ⟨?_, hl k hk⟩
    rcases ho with ho | ⟨j, hj, hjl⟩
    · exact (h.nn k (ho ▸ hk)).1
    · rw [hj] at hk; cases hk; omega
  · intro k hk e
    rcases ho with ho | ⟨j, hj, hjl⟩
    · exact h.ap k hk (ho ▸ e)
    · rw [hj] at e; cases e
      have := (h.dn k hk).2
      omega
  · intro j hj
    exact hg.block j (h.dn j hj).2 fun e => h.ap j hj e.symm
end
/-- Entries put into a queue, one by one. -/
def puts (L : List Q.E) (D : List W.E) : List Q.E := D.foldl (fun L e => Q.putE ⟨e.n, e.at_⟩ L) L
theorem puts_snoc (L : List Q.E) (D : List W.E) (e : W.E) : puts L (D ++ [e]) = Q.putE ⟨e.n, e.at_⟩ (puts L D) := by simp [puts]
theorem mem_puts : ∀ (D : List W.E) (L : List Q.E) (_ : ∀ e ∈ D, ∀ f ∈ L, f.n ≠ e.n) (_ : D.Pairwise fun a b => a.n ≠ b.n) (x : Q.E), x ∈ puts L D ↔ x ∈ L ∨ ∃ e ∈ D, x = ⟨e.n, e.at_⟩
  | [], L, _, _, x => by simp [puts]
  | a :: r, L, hd, nd, x => by
    obtain ⟨h1, h2⟩ := List.pairwise_cons.1 nd
    have hd2 : ∀ e ∈ r, ∀ f ∈ Q.putE ⟨a.n, a.at_⟩ L, f.n ≠ e.n := fun e he f hf => by
      rcases Q.mem_putE.1 hf with rfl | hf
      · exact h1 e he
      · exact hd e (List.mem_cons_of_mem _ he) f hf.1
    have ih := mem_puts r (Q.putE ⟨a.n, a.at_⟩ L) hd2 h2 x
    show x ∈ puts (Q.putE ⟨a.n, a.at_⟩ L) r ↔ _
    rw [ih, Q.mem_putE]
    constructor
    · rintro ((rfl | ⟨h, _⟩) | ⟨e, he, rfl⟩)
      · exact .inr ⟨a, List.mem_cons_self, rfl⟩
      · exact .inl h
      · exact .inr ⟨e, List.mem_cons_of_mem _ he, rfl⟩
    · rintro (h | ⟨e, he, rfl⟩)
      · exact .inl (.inr ⟨h, hd a List.mem_cons_self x h⟩)
      · rcases List.mem_cons.1 he with rfl | he
        · exact .inl (.inl rfl)
        · exact .inr ⟨e, he, rfl⟩
theorem puts_srt (D : List W.E) : ∀ {L : List Q.E}, Q.Srt L → Q.Srt (puts L D) := by
  induction D with
  | nil => intro L h; exact h
  | cons a r ih => intro L h; exact ih (h.put _)
theorem puts_le (D : List W.E) : ∀ {L : List Q.E}, Q.Srt L → (puts L D).length ≤ L.length + D.length := by
  induction D with
  | nil => intro L _; simp [puts]
  | cons a r ih =>
    intro L h
    have h1 := ih (h.put ⟨a.n, a.at_⟩)
    have h2 := Q.putE_le h ⟨a.n, a.at_⟩
    show (puts (Q.putE ⟨a.n, a.at_⟩ L) r).length ≤ _
    simp only [List.length_cons]
    omega
/-- A text appended to a row of texts of one's own. -/
theorem info9n : (Tryz.prog.info? 9).map (fun i => (i.zero, i.size, i.bytes)) = some (some (.string ByteArray.empty), 1, 16) := by kernel_rfl
theorem new_at (w : World) (l : List Value) (t : TypeId) (j : Nat) (u : Value) (hj : l[j]? = some u) : (w.alloc (.cells l.toArray t)).cell? ((⟨w.heap.size, 0, none⟩ : Addr).add j) = some u := by
  rw [addr_add, Nat.zero_add]
  exact cell_new w l.toArray t (by simpa using hj)
def cellsN (l : List ByteArray) : List Value := l.map fun k => .string k
theorem app_n (w : World) {base : Nat} {v : Value} {cs : List ByteArray} (x : ByteArray) (hown : w.ownsRow base 9 1 v cs.length (cellsN cs)) (hl : cs.length ≤ 100000) (hb : base ≤ w.heap.size) (ty : TypeId) :
    ∃ v' w', (Builtin.append_ #[41, 41] ty #[v, .slice (some ⟨w.heap.size, 0, none⟩) 1 1]).run Tryz.prog (w.alloc (.cells #[.string x] 9)) = .ok v' w' ∧ w'.ownsRow base 9 1 v' (cs ++ [x]).length (cellsN (cs ++ [x])) ∧ w.grownBy w' v.ownBlock ∧
      (v'.ownBlock = v.ownBlock ∨ ∃ k, v'.ownBlock = some k ∧ w.heap.size ≤ k) := by
  obtain ⟨i0, hi, hz0, hz1, hz2⟩ := info_parts info9n
  have hga := World.grownBy_alloc w (.cells #[.string x] 9) none
  obtain ⟨v', w', hrun, h1, h2, _, h4⟩ := run_append_own_at (P := Tryz.prog) (w := w.alloc (.cells #[.string x] 9)) base 41 ty 9 i0 (.string ByteArray.empty) 1 16 Tryz.underlying41 hi hz0 hz1 hz2 rfl (by decide) v cs.length _ (World.ownsRow.kept hown hga (Classical.em _)) ⟨w.heap.size, 0, none⟩ 1 1 [.string x] rfl (new_at w [.string x] 9) (fun u hu => by
    simp only [List.mem_cons, List.not_mem_nil, or_false] at hu
    subst hu; rfl) (by unfold maxLen; omega) (by omega) (by simp; omega)
  have hce : cellsN cs ++ [.string x] = cellsN (cs ++ [x]) := by simp [cellsN]
  rw [hce] at h1
  refine ⟨v', w', hrun, by rw [List.length_append]; exact h1, grown_same hga h2, ?_⟩
  rcases h4 with h4 | h4
  · exact .inl h4
  · exact .inr ⟨_, h4, by simp⟩
end Go.Proofs.YtblnhcnfeagjhaaGreatDoor
