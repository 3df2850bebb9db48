/- TimersDue's table: the calls on it, beside the law's own blocks. -/
import Derived.Test.YtblnhcnfeagjhaaGreatDoorStt
import Derived.Test.YtblnhcnfeagjhaaGreatDoorAls
import Derived.Test.YtblnhcnfeagjhaaGreatDoorFit
namespace Go.Proofs.YtblnhcnfeagjhaaGreatDoor
open Go.RowKit Go.IntWalk Go.Maps Go.Shelf
set_option linter.unusedVariables false
/-- The law's table; to that came in, boxed in the law's first block; the blocks X are not the table's. -/
def Dw (U0 wr : World) (X : Nat → Prop) (n0 n1 : Int) (tb : Nat) (now : Int) (M : List Tmr) (L1 : List W.E) (L2 : List Q.E) : Prop :=
  ∃ S, Tab S wr tb now M L1 L2 ∧ (∀ k, S k → (U0.heap.size < k ∧ k < wr.heap.size) ∧ ¬ X k) ∧ wr.heap[U0.heap.size]? = some (.cells #[.int .u64 n0, .int .u64 n1] 51 (0, 0)) ∧ Below U0.heap.size U0 wr
section
variable {U0 wr w' : World} {X : Nat → Prop} {n0 n1 : Int} {tb : Nat} {now : Int} {M : List Tmr} {L1 : List W.E} {L2 : List Q.E}
theorem Dw.lt (h : Dw U0 wr X n0 n1 tb now M L1 L2) : U0.heap.size < wr.heap.size := by
  obtain ⟨S, _, _, h3, _⟩ := h
  exact (Array.getElem?_eq_some_iff.1 h3).1
theorem Dw.below (h : Dw U0 wr X n0 n1 tb now M L1 L2) : Below U0.heap.size U0 wr := by
  obtain ⟨S, _, _, _, h4⟩ := h
  exact h4
theorem Dw.dr (h : Dw U0 wr X n0 n1 tb now M L1 L2) (hD : Dr U0) : Dr wr := hD.below h.below (Nat.le_refl _)
theorem Dw.to0 (h : Dw U0 wr X n0 n1 tb now M L1 L2) : wr.cell? ⟨U0.heap.size, 0, none⟩ = some (.int .u64 n0) := by
  obtain ⟨S, _, _, h3, _⟩ := h
  simp [World.cell?, h3]
theorem Dw.to1 (h : Dw U0 wr X n0 n1 tb now M L1 L2) : wr.cell? ⟨U0.heap.size, 1, none⟩ = some (.int .u64 n1) := by
  obtain ⟨S, _, _, h3, _⟩ := h
  simp [World.cell?, h3]
theorem Dw.mono {X' : Nat → Prop} (h : Dw U0 wr X n0 n1 tb now M L1 L2) (hx : ∀ k, X' k → X k) : Dw U0 wr X' n0 n1 tb now M L1 L2 := by
  obtain ⟨S, h1, h2, h3⟩ := h
  exact ⟨S, h1, fun k hk => ⟨(h2 k hk).1, fun e => (h2 k hk).2 (hx k e)⟩, h3⟩
theorem Dw.keep (h : Dw U0 wr X n0 n1 tb now M L1 L2) (hg : wr.grownBy w' none) : Dw U0 w' X n0 n1 tb now M L1 L2 := by
  have hl := h.lt
  obtain ⟨S, h1, h2, h3, h4⟩ := h
  have := hg.size
  exact ⟨S, h1.keep hg, fun k hk => ⟨⟨(h2 k hk).1.1, by have := (h2 k hk).1.2; omega⟩, (h2 k hk).2⟩, (hg.block _ hl (by simp)).trans h3, h4.grown hg (by have := h4.size; omega) (by simp)⟩
/-- A call has written to the table's blocks alone. -/
theorem Dw.turn {X' : Nat → Prop} {now' : Int} {M' : List Tmr} {L1' : List W.E} {L2' : List Q.E} {S S' : Nat → Prop} (h2 : ∀ k, S k → (U0.heap.size < k ∧ k < wr.heap.size) ∧ ¬ X k) (h3 : wr.heap[U0.heap.size]? = some (.cells #[.int .u64 n0, .int .u64 n1] 51 (0, 0))) (h4 : Below U0.heap.size U0 wr)
    (hT : Tab S' w' tb now' M' L1' L2') (hS : ∀ k, S' k → Gw S wr w' k ∧ ¬ X' k) (hK : Kp S wr w') : Dw U0 w' X' n0 n1 tb now' M' L1' L2' := by
  have hl := (Array.getElem?_eq_some_iff.1 h3).1
  have := hK.size
  refine ⟨S', hT, fun k hk => ⟨?_, (hS k hk).2⟩, (hK.block _ hl fun e => by have := (h2 _ e).1.1; omega).trans h3, h4.trans (hK.below (by omega) fun k hk => by have := (h2 k hk).1.1; omega)⟩
  rcases (hS k hk).1 with e | e
  · have := (h2 k e).1
    exact ⟨this.1, by omega⟩
  · exact ⟨by omega, e.2⟩
theorem sps_low' {n : Nat} {U0 : World} {v : Value} {xs : List Sp} (h : Sps n U0 v xs) : ∀ k, v.ownBlock = some k → xs ≠ [] → k < n := fun k hk hx => by
  rcases h with ⟨_, h⟩ | ⟨b, off, cap, rfl, hb, _⟩
  · exact absurd h hx
  · simp [Value.ownBlock] at hk
    omega
theorem set_m (hD : Dr U0) (h : Dw U0 wr X n0 n1 tb now M L1 L2) (x : Tmr) (hx : Sps U0.heap.size U0 x.v x.xs) (h0 : 0 ≤ x.at_ ∧ 0 ≤ x.ev) (hl : M.length < 10000) :
    Calls Tryz.prog 12 #[ptr tb, x.val] wr fun r w' => (∃ n, r = .returned (.int .i64 n)) ∧ (∃ M' L1' L2', Dw U0 w' (fun _ => False) n0 n1 tb now M' L1' L2' ∧ M'.length ≤ M.length + 1) := by
  have hdr := h.dr hD
  have hlt := h.lt
  have hbel := h.below
  obtain ⟨S, h1, h2, h3, h4⟩ := h
  have hx2 : Sps wr.heap.size wr x.v x.xs := (hx.kept fun k hk hl => hbel.block k hl).up (by omega)
  refine (set_all wr hdr h1 (fun k hk => (h2 k hk).1.2) x hx2 (fun k hk hne e => ?_) h0 hl).mono ?_
  · have e1 := sps_low' hx k hk hne
    have := (h2 k e).1.1
    omega
  · rintro r w' ⟨hr, ⟨M', L1', L2', hT, hM⟩, hK⟩
    exact ⟨hr, M', L1', L2', Dw.turn (X' := fun _ => False) (fun k hk => ⟨(h2 k hk).1, (h2 k hk).2⟩) h3 h4 hT (fun k hk => ⟨hk, id⟩) hK, hM⟩
theorem due_m (h : Dw U0 wr X n0 n1 tb now M L1 L2) (hX : ∀ k, X k → k < wr.heap.size) :
    Calls Tryz.prog 25 #[ptr tb] wr fun r w' => ∃ a c ts, r = .returned (.slice a L2.length c) ∧ ts.map (fun x => (⟨x.nm, x.at_⟩ : Q.E)) = L2 ∧ w'.ownsRow wr.heap.size 32 5 (.slice a L2.length c) L2.length (cellsT ts) ∧
      Dw U0 w' (fun k => X k ∨ (Value.slice a L2.length c).ownBlock = some k) n0 n1 tb now M L1 L2 ∧ ∀ k, X k → w'.heap[k]? = wr.heap[k]? := by
  obtain ⟨S, h1, h2, h3, h4⟩ := h
  refine (due_t wr h1 fun k hk => (h2 k hk).1.2).mono ?_
  rintro r w' ⟨v, ts, rfl, hr, htm, _, hT, hK⟩
  have hl : ts.length = L2.length := by rw [← htm]; simp
  rw [hl] at hr
  obtain ⟨a, c, rfl⟩ := own_shape hr
  refine ⟨a, c, ts, rfl, htm, hr, Dw.turn h2 h3 h4 hT (fun k hk => ⟨hk.1, fun e => ?_⟩) hK, fun k hk => hK.block k (hX k hk) fun e => (h2 k e).2 hk⟩
  rcases e with e | e
  · rcases hk.1 with e2 | e2
    · exact (h2 k e2).2 e
    · have := hX k e; omega
  · exact hk.2 e
theorem all_m (h : Dw U0 wr X n0 n1 tb now M L1 L2) :
    Calls Tryz.prog 26 #[ptr tb] wr fun r w' => ∃ v ts, r = .returned v ∧ AllT wr w' M v ts ∧ wr.grownBy w' none := by
  obtain ⟨S, h1, h2, h3, h4⟩ := h
  exact all_t wr h1
theorem clock_m (h : Dw U0 wr X n0 n1 tb now M L1 L2) : Calls Tryz.prog 27 #[ptr tb] wr fun r w' => r = .returned (.int .u64 now) ∧ w' = wr := by
  obtain ⟨S, h1, h2, h3, h4⟩ := h
  exact clock_t wr h1
theorem back_m (h : Dw U0 wr X n0 n1 tb now M L1 L2) (t : Int) (ht : t ≤ now) : Calls Tryz.prog 19 #[ptr tb, .int .u64 t] wr fun r w' => r = .returned (.slice none 0 0) ∧ w' = wr := by
  obtain ⟨S, h1, h2, h3, h4⟩ := h
  exact adv_back wr h1 t ht
/-- What Advance tells: names of timers that are due now; how many are due then. -/
structure Adt (now t : Int) (M : List Tmr) (L2 L2' : List Q.E) (D : List W.E) : Prop where
  len : L2.length + D.length = L2'.length
  fro : ∀ e ∈ D, ∃ x ∈ M, x.nm = e.n ∧ x.at_ ≤ t
theorem adv_m (h : Dw U0 wr X n0 n1 tb now M L1 L2) (hX : ∀ k, X k → k < wr.heap.size) (t : Int) (ht : 0 ≤ t ∧ t < 18446744073709551616) (hlt : now ≤ t) :
    Calls Tryz.prog 19 #[ptr tb, .int .u64 t] wr fun r w' => ∃ a c D L1' L2', r = .returned (.slice a D.length c) ∧ w'.ownsRow wr.heap.size 9 1 (.slice a D.length c) D.length (cellsN (D.map W.E.n)) ∧
      Dw U0 w' (fun k => (Value.slice a D.length c).ownBlock = some k) n0 n1 tb t M L1' L2' ∧ Adt now t M L2 L2' D := by
  rcases Int.lt_or_eq_of_le hlt with hlt | rfl
  · obtain ⟨S, h1, h2, h3, h4⟩ := h
    refine (adv_t wr h1 (fun k hk => (h2 k hk).1.2) t ht hlt).mono ?_
    rintro r w' ⟨v, rfl, hr, hT, hK⟩
    obtain ⟨a, c, rfl⟩ := own_shape hr
    refine ⟨a, c, W.due t L1, _, _, rfl, hr, Dw.turn h2 h3 h4 hT (fun k hk => ⟨hk.1, hk.2⟩) hK, ?_⟩
    obtain ⟨mb, wb, qb, S1, S2, hTb, _, hI⟩ := h1
    obtain ⟨_, _, _, _, _, _, _, hI'⟩ := hT
    have hs1 := hTb.wh.srt
    have hs2 := hTb.qu.srt
    have hfro : ∀ e ∈ W.due t L1, ∃ x ∈ M, x.nm = e.n ∧ now < x.at_ ∧ x.at_ ≤ t := fun e he => by
      obtain ⟨h5, h6⟩ := W.mem_due.1 he
      obtain ⟨x, hx, h7, rfl⟩ := (hI.a e).1 h5
      exact ⟨x, hx, rfl, h7, h6⟩
    have hnd : ((W.due t L1).map fun e => (⟨e.n, e.at_⟩ : Q.E)).Nodup := by
      refine List.pairwise_map.2 ((hs1.due t).nodup.imp fun {a b} hne e => hne ?_)
      cases a; cases b; simp_all
    have hdis : ∀ e ∈ W.due t L1, ∀ f ∈ L2, f.n ≠ e.n := fun e he f hf hn => by
      obtain ⟨x, hx, h5, h6, _⟩ := hfro e he
      obtain ⟨y, hy, h7, rfl⟩ := (hI.d f).1 hf
      have := hTb.tm.un hy hx (hn.trans h5.symm)
      subst this
      omega
    refine ⟨?_, fun e he => ?_⟩
    · have hp : (L2 ++ (W.due t L1).map fun e => (⟨e.n, e.at_⟩ : Q.E)).Perm (puts L2 (W.due t L1)) := by
        refine (List.perm_ext_iff_of_nodup (List.nodup_append.2 ⟨hs2.nodup, hnd, fun x hx y hy e => ?_⟩) (puts_srt _ hs2).nodup).2 fun x => ?_
        · subst e
          obtain ⟨e, he, rfl⟩ := List.mem_map.1 hy
          exact hdis e he _ hx rfl
        · rw [mem_puts _ _ hdis ?_, List.mem_append, List.mem_map]
          · constructor
            · rintro (h | ⟨e, he, rfl⟩)
              · exact .inl h
              · exact .inr ⟨e, he, rfl⟩
            · rintro (h | ⟨e, he, rfl⟩)
              · exact .inl h
              · exact .inr ⟨e, he, rfl⟩
          · refine (hs1.due t).nodup.imp_of_mem fun {a b} ha hb hne e => hne ((hs1.due t).un _ ha _ hb e)
      have := hp.length_eq
      simpa using this
    · obtain ⟨x, hx, h5, _, h6⟩ := hfro e he
      exact ⟨x, hx, h5, h6⟩
  · refine (back_m h now (Int.le_refl _)).mono ?_
    rintro r w' ⟨rfl, rfl⟩
    refine ⟨none, 0, [], L1, L2, rfl, by simpa [cellsN] using World.ownsRow_nil _ w'.heap.size 9 1, h.mono fun k hk => by simp [Value.ownBlock] at hk, by simp, by simp⟩
theorem get_m (h : Dw U0 wr X n0 n1 tb now M L1 L2) {x : Tmr} (hx : x ∈ M) :
    Calls Tryz.prog 28 #[ptr tb, .string x.nm] wr fun r w' => wr.grownBy w' none ∧ ∃ a c, r = .returned (.tuple #[.agg #[.string x.nm, .int .i64 x.vr, .int .u64 x.at_, .int .u64 x.ev, .slice a x.xs.length c], .bool true]) := by
  obtain ⟨S, h1, h2, h3, h4⟩ := h
  refine (get_some wr h1 hx).mono ?_
  rintro r w' ⟨hg, v', rfl, hs, _⟩
  obtain ⟨a, c, rfl, _⟩ := hs.shape
  exact ⟨hg, a, c, rfl⟩
/-- How many of all are due. -/
def cntT (t : Int) (ts : List Tmr) : Nat := ts.countP fun y => decide (y.at_ ≤ t)
theorem cnt_all {v : Value} {ts : List Tmr} (h : Dw U0 wr X n0 n1 tb now M L1 L2) (hA : AllT wr w' M v ts) : cntT now ts = L2.length := by
  obtain ⟨S, ⟨mb, wb, qb, S1, S2, hTb, _, hI⟩, _⟩ := h
  have hs2 := hTb.qu.srt
  have hp : ((ts.filter fun y => decide (y.at_ ≤ now)).map fun y => (⟨y.nm, y.at_⟩ : Q.E)).Perm L2 := by
    refine (List.perm_ext_iff_of_nodup ?_ hs2.nodup).2 fun e => ?_
    · have h1 := List.pairwise_map.1 hA.ord
      refine List.pairwise_map.2 ((h1.sublist List.filter_sublist).imp fun {a b} hl e => ?_)
      simp only [Q.E.mk.injEq] at e
      rw [e.1] at hl
      exact List.lt_irrefl _ hl
    · rw [hI.d e, List.mem_map]
      constructor
      · rintro ⟨y, hy, rfl⟩
        obtain ⟨h5, h6⟩ := List.mem_filter.1 hy
        obtain ⟨x, hx, hxe⟩ := (hA.fro y h5).1
        have e1 : y.nm = x.nm := by rw [hxe]
        have e2 : y.at_ = x.at_ := by rw [hxe]
        simp only [decide_eq_true_eq] at h6
        exact ⟨x, hx, by omega, by rw [e1, e2]⟩
      · rintro ⟨x, hx, hxl, rfl⟩
        obtain ⟨y, hy, hye⟩ := hA.to x hx
        have e1 : y.nm = x.nm := by rw [hye]
        have e2 : y.at_ = x.at_ := by rw [hye]
        exact ⟨y, List.mem_filter.2 ⟨hy, by simp; omega⟩, by rw [e1, e2]⟩
  have := hp.length_eq
  rw [List.length_map] at this
  rw [← this]
  exact List.countP_eq_length_filter
theorem Dw.two (h : Dw U0 wr X n0 n1 tb now M L1 L2) : Q.Srt L2 ∧ (∀ e ∈ L2, e.at_ ≤ now) ∧ M.length ≤ 10000 := by
  obtain ⟨S, ⟨mb, wb, qb, S1, S2, hTb, _, hI⟩, _⟩ := h
  refine ⟨hTb.qu.srt, fun e he => ?_, hI.len⟩
  obtain ⟨x, _, h1, rfl⟩ := (hI.d e).1 he
  exact h1
end
end Go.Proofs.YtblnhcnfeagjhaaGreatDoor
