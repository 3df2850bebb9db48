/- TimersCopies' state: two tables and two lists, apart. -/
import Derived.Test.YtblnhcnfeagjhaaGreatDoorCpt
import Derived.Test.YtblnhcnfeagjhaaGreatDoorStt
import Derived.Test.YtblnhcnfeagjhaaGreatDoorSal
import Derived.Test.YtblnhcnfeagjhaaGreatDoorLiv
namespace Go.Proofs.YtblnhcnfeagjhaaGreatDoor
open Go.RowKit Go.IntWalk Go.Maps Go.Shelf
set_option linter.unusedVariables false
theorem cellsT_at' {ts : List Tmr} {j : Nat} {x : Tmr} (h : ts[j]? = some x) (i : Nat) (hi : i < 5) : (cellsT ts)[j * 5 + i]? = x.cells[i]? := by
  induction ts generalizing j with
  | nil => simp at h
  | cons a r ih =>
    cases j with
    | zero =>
      simp at h
      subst h
      have : (cellsT (a :: r)) = a.cells ++ cellsT r := rfl
      rw [this, List.getElem?_append_left (by simp [Tmr.cells]; omega)]
      simp
    | succ j =>
      have : (cellsT (a :: r)) = a.cells ++ cellsT r := rfl
      rw [this, List.getElem?_append_right (by simp [Tmr.cells]; omega)]
      have e : (j + 1) * 5 + i - a.cells.length = j * 5 + i := by simp [Tmr.cells]; omega
      rw [e]
      exact ih (by simpa using h)
/-- One table, before it is copied. -/
def Ow (U0 wr : World) (tb : Nat) (now : Int) (M : List Tmr) (L1 : List W.E) (L2 : List Q.E) : Prop :=
  ∃ S, Tab S wr tb now M L1 L2 ∧ (∀ k, S k → U0.heap.size ≤ k ∧ k < wr.heap.size) ∧ Below U0.heap.size U0 wr
/-- What a list lies in. -/
def fpR (v : Value) (ts : List Tmr) (k : Nat) : Prop := v.ownBlock = some k ∨ stY ts k
structure Cw (U0 wr : World) (tb tc : Nat) (now nc : Int) (M : List Tmr) (L1 : List W.E) (L2 : List Q.E) (Mc : List Tmr) (L1c : List W.E) (L2c : List Q.E) (va : Value) (ts : List Tmr) (vd : Value) (ds : List Tmr) : Prop where
  ex : ∃ S Sc, Tab S wr tb now M L1 L2 ∧ Tab Sc wr tc nc Mc L1c L2c ∧ (∀ k, S k → (U0.heap.size ≤ k ∧ k < wr.heap.size) ∧ ¬ Sc k ∧ ¬ fpR va ts k ∧ ¬ fpR vd ds k) ∧ (∀ k, Sc k → (U0.heap.size ≤ k ∧ k < wr.heap.size) ∧ ¬ fpR va ts k ∧ ¬ fpR vd ds k)
  ra : Trs wr va ts
  rd : Trs wr vd ds
  fl : ∀ k, fpR va ts k ∨ fpR vd ds k → k < wr.heap.size
  bl : Below U0.heap.size U0 wr
section
variable {U0 wr w' : World} {tb tc : Nat} {now nc now' : Int} {M Mc M' : List Tmr} {L1 L1c L1' : List W.E} {L2 L2c L2' : List Q.E} {va vd : Value} {ts ds : List Tmr}
theorem Ow.keep (h : Ow U0 wr tb now M L1 L2) (hg : wr.grownBy w' none) : Ow U0 w' tb now M L1 L2 := by
  obtain ⟨S, h1, h2, h3⟩ := h
  have := hg.size
  exact ⟨S, h1.keep hg, fun k hk => ⟨(h2 k hk).1, by have := (h2 k hk).2; omega⟩, h3.grown hg (by have := h3.size; omega) (by simp)⟩
theorem set_o (hD : Dr U0) (h : Ow U0 wr tb now M L1 L2) (x : Tmr) (hx : Sps U0.heap.size U0 x.v x.xs) (h0 : 0 ≤ x.at_ ∧ 0 ≤ x.ev) (hl : M.length < 10000) :
    Calls Tryz.prog 12 #[ptr tb, x.val] wr fun r w' => (∃ n, r = .returned (.int .i64 n)) ∧ (∃ M' L1' L2', Ow U0 w' tb now M' L1' L2' ∧ M'.length ≤ M.length + 1) := by
  obtain ⟨S, h1, h2, h3⟩ := h
  have hs := h3.size
  refine (set_all wr (hD.below h3 (Nat.le_refl _)) h1 (fun k hk => (h2 k hk).2) x ((hx.kept fun k _ hl => h3.block k hl).up hs) (fun k hk hne e => ?_) h0 hl).mono ?_
  · rcases id hx with ⟨_, e1⟩ | ⟨b, off, cap, e1, hb, _⟩
    · exact hne e1
    · rw [e1] at hk
      simp [Value.ownBlock] at hk
      have := (h2 k e).1
      omega
  · rintro r w' ⟨hr, ⟨M', L1', L2', hT, hM⟩, hK⟩
    have hks := hK.size
    refine ⟨hr, M', L1', L2', ⟨_, hT, fun k hk => ?_, h3.trans (hK.below (by omega) fun k hk => (h2 k hk).1)⟩, hM⟩
    rcases hk with hk | hk
    · have := h2 k hk
      exact ⟨this.1, by omega⟩
    · exact ⟨by omega, hk.2⟩
theorem Cw.keep (h : Cw U0 wr tb tc now nc M L1 L2 Mc L1c L2c va ts vd ds) (hg : wr.grownBy w' none) : Cw U0 w' tb tc now nc M L1 L2 Mc L1c L2c va ts vd ds := by
  obtain ⟨S, Sc, h1, h2, h3, h4⟩ := h.ex
  have := hg.size
  exact ⟨⟨S, Sc, h1.keep hg, h2.keep hg, fun k hk => ⟨⟨(h3 k hk).1.1, by have := (h3 k hk).1.2; omega⟩, (h3 k hk).2⟩, fun k hk => ⟨⟨(h4 k hk).1.1, by have := (h4 k hk).1.2; omega⟩, (h4 k hk).2⟩⟩, h.ra.keep hg, h.rd.keep hg, fun k hk => by have := h.fl k hk; omega, h.bl.grown hg (by have := h.bl.size; omega) (by simp)⟩
theorem Trs.kp {S : Nat → Prop} {v : Value} {us : List Tmr} (h : Trs wr v us) (hK : Kp S wr w') (hn : ∀ k, S k → ¬ fpR v us k) : Trs w' v us :=
  h.kept hK.size (fun k hk hl => hK.block k hl fun e => hn k e (.inl hk)) (fun x hx k hk hl => hK.block k hl fun e => hn k e (.inr ⟨x, hx, hk⟩))
/-- A call on the first table. -/
theorem Cw.turnx {S Sc S' : Nat → Prop} (h : Cw U0 wr tb tc now nc M L1 L2 Mc L1c L2c va ts vd ds) (h2 : Tab Sc wr tc nc Mc L1c L2c) (h3 : ∀ k, S k → (U0.heap.size ≤ k ∧ k < wr.heap.size) ∧ ¬ Sc k ∧ ¬ fpR va ts k ∧ ¬ fpR vd ds k) (h4 : ∀ k, Sc k → (U0.heap.size ≤ k ∧ k < wr.heap.size) ∧ ¬ fpR va ts k ∧ ¬ fpR vd ds k)
    (hT : Tab S' w' tb now' M' L1' L2') (hS : ∀ k, S' k → Gw S wr w' k) (hK : Kp S wr w') : Cw U0 w' tb tc now' nc M' L1' L2' Mc L1c L2c va ts vd ds := by
  have hs := hK.size
  have hbs := h.bl.size
  refine ⟨⟨S', Sc, hT, h2.kept hs fun k hk hl => hK.block k hl fun e => (h3 k e).2.1 hk, fun k hk => ?_, fun k hk => ⟨⟨(h4 k hk).1.1, by have := (h4 k hk).1.2; omega⟩, (h4 k hk).2⟩⟩, h.ra.kp hK fun k hk => (h3 k hk).2.2.1, h.rd.kp hK fun k hk => (h3 k hk).2.2.2, fun k hk => by have := h.fl k hk; omega, h.bl.trans (hK.below hbs fun k hk => (h3 k hk).1.1)⟩
  rcases hS k hk with e | e
  · exact ⟨⟨(h3 k e).1.1, by have := (h3 k e).1.2; omega⟩, (h3 k e).2⟩
  · exact ⟨⟨by omega, e.2⟩, fun e2 => by have := (h4 k e2).1.2; omega, fun e2 => by have := h.fl k (.inl e2); omega, fun e2 => by have := h.fl k (.inr e2); omega⟩
/-- A call on the copy. -/
theorem Cw.turnc {S Sc Sc' : Nat → Prop} (h : Cw U0 wr tb tc now nc M L1 L2 Mc L1c L2c va ts vd ds) (h1 : Tab S wr tb now M L1 L2) (h3 : ∀ k, S k → (U0.heap.size ≤ k ∧ k < wr.heap.size) ∧ ¬ Sc k ∧ ¬ fpR va ts k ∧ ¬ fpR vd ds k) (h4 : ∀ k, Sc k → (U0.heap.size ≤ k ∧ k < wr.heap.size) ∧ ¬ fpR va ts k ∧ ¬ fpR vd ds k)
    (hT : Tab Sc' w' tc now' M' L1' L2') (hS : ∀ k, Sc' k → Gw Sc wr w' k) (hK : Kp Sc wr w') : Cw U0 w' tb tc now now' M L1 L2 M' L1' L2' va ts vd ds := by
  have hs := hK.size
  have hbs := h.bl.size
  refine ⟨⟨S, Sc', h1.kept hs fun k hk hl => hK.block k hl fun e => (h3 k hk).2.1 e, hT, fun k hk => ⟨⟨(h3 k hk).1.1, by have := (h3 k hk).1.2; omega⟩, fun e => ?_, (h3 k hk).2.2⟩, fun k hk => ?_⟩, h.ra.kp hK fun k hk => (h4 k hk).2.1, h.rd.kp hK fun k hk => (h4 k hk).2.2, fun k hk => by have := h.fl k hk; omega, h.bl.trans (hK.below hbs fun k hk => (h4 k hk).1.1)⟩
  · rcases hS k e with e | e
    · exact (h3 k hk).2.1 e
    · have := (h3 k hk).1.2; omega
  · rcases hS k hk with e | e
    · exact ⟨⟨(h4 k e).1.1, by have := (h4 k e).1.2; omega⟩, (h4 k e).2⟩
    · exact ⟨⟨by omega, e.2⟩, fun e2 => by have := h.fl k (.inl e2); omega, fun e2 => by have := h.fl k (.inr e2); omega⟩
theorem trs_row {w : World} {base : Nat} {v : Value} {us : List Tmr} (h : w.ownsRow base 32 5 v us.length (cellsT us)) (hs : ∀ y ∈ us, Sps w.heap.size w y.v y.xs) : Trs w v us := by
  refine ⟨own_shape h, fun i x hi => ?_, hs⟩
  rcases id h.2 with ⟨rfl, h0⟩ | ⟨g, cap, cur, rfl, hb, hg, hn, hm, hs', ht⟩
  · rw [List.eq_nil_of_length_eq_zero h0] at hi
    simp at hi
  · refine ⟨g, 0, cap, rfl, (Array.getElem?_eq_some_iff.1 hg).1, fun j u hu => ?_⟩
    have hj : j < 5 := by
      rcases Nat.lt_or_ge j 5 with h | h
      · exact h
      · rw [List.getElem?_eq_none (by simp [Tmr.cells]; omega)] at hu; cases hu
    have := h.cells (g := g) rfl (i * 5 + j) u (by rw [cellsT_at' hi j hj]; exact hu)
    rw [addr_add] at this
    rw [show 0 + i * 5 + j = 0 + (i * 5 + j) by omega]
    exact this
/-- The same timers, but for where their steps lie. -/
def SameM (M Mc : List Tmr) : Prop := ∀ c, c ∈ M.map Tmr.core ↔ c ∈ Mc.map Tmr.core
theorem core_of {x : Tmr} {v : Value} : ({ x with v := v } : Tmr).core = x.core := rfl
theorem core_fro {M : List Tmr} {y : Tmr} (h : ∃ x ∈ M, y = { x with v := y.v }) : y.core ∈ M.map Tmr.core := by
  obtain ⟨x, hx, e⟩ := h
  exact List.mem_map.2 ⟨x, hx, by rw [e]; rfl⟩
theorem all_core {w1 w2 w3 w4 : World} {v1 v2 : Value} {t1 t2 : List Tmr} (hS : SameM M Mc) (h1 : AllT w1 w2 M v1 t1) (h2 : AllT w3 w4 Mc v2 t2) : t1.map Tmr.core = t2.map Tmr.core := by
  have hp : ∀ {ww wx : World} {N : List Tmr} {v : Value} {t : List Tmr} (h : AllT ww wx N v t), (t.map Tmr.core).Pairwise (fun a b => a.1.data.toList < b.1.data.toList) := fun h => List.pairwise_map.2 ((List.pairwise_map.1 h.ord).imp fun h => h)
  have hnd : ∀ {l : List (ByteArray × Int × Int × Int × List Sp)}, l.Pairwise (fun a b => a.1.data.toList < b.1.data.toList) → l.Nodup := fun h => h.imp fun {a b} h e => by subst e; exact List.lt_irrefl _ h
  have hm : ∀ {ww wx : World} {N : List Tmr} {v : Value} {t : List Tmr} (h : AllT ww wx N v t) c, c ∈ t.map Tmr.core ↔ c ∈ N.map Tmr.core := fun {ww wx N v t} h c => by
    constructor
    · intro hc
      obtain ⟨y, hy, rfl⟩ := List.mem_map.1 hc
      exact core_fro (h.fro y hy).1
    · intro hc
      obtain ⟨x, hx, rfl⟩ := List.mem_map.1 hc
      obtain ⟨y, hy, e⟩ := h.to x hx
      exact List.mem_map.2 ⟨y, hy, by rw [e]; rfl⟩
  refine List.Perm.eq_of_pairwise (fun a b _ _ h1 h2 => absurd (List.lt_trans h1 h2) (List.lt_irrefl _)) (hp h1) (hp h2) ((List.perm_ext_iff_of_nodup (hnd (hp h1)) (hnd (hp h2))).2 fun c => ?_)
  rw [hm h1, hS c, hm h2]
theorem due_core : ∀ (d1 d2 : List Tmr) (C : List (ByteArray × Int × Int × Int × List Sp)) (_ : ∀ a ∈ C, ∀ b ∈ C, a.1 = b.1 → a = b) (_ : ∀ y ∈ d1, y.core ∈ C) (_ : ∀ y ∈ d2, y.core ∈ C) (_ : d1.map Tmr.nm = d2.map Tmr.nm), d1.map Tmr.core = d2.map Tmr.core
  | [], [], _, _, _, _, _ => rfl
  | [], _ :: _, _, _, _, _, h => by simp at h
  | _ :: _, [], _, _, _, _, h => by simp at h
  | a :: r, b :: s, C, hC, h1, h2, h => by
    simp only [List.map_cons, List.cons.injEq] at h ⊢
    exact ⟨hC _ (h1 a List.mem_cons_self) _ (h2 b List.mem_cons_self) h.1, due_core r s C hC (fun y hy => h1 y (List.mem_cons_of_mem _ hy)) (fun y hy => h2 y (List.mem_cons_of_mem _ hy)) h.2⟩
theorem core_un {S : Nat → Prop} (h : Tab S wr tb now M L1 L2) : ∀ a ∈ M.map Tmr.core, ∀ b ∈ M.map Tmr.core, a.1 = b.1 → a = b := by
  obtain ⟨mb, wb, qb, S1, S2, hTb, _, hI⟩ := h
  intro a ha b hb e
  obtain ⟨x, hx, rfl⟩ := List.mem_map.1 ha
  obtain ⟨y, hy, rfl⟩ := List.mem_map.1 hb
  rw [hTb.tm.un hx hy e]
theorem due_same {S Sc : Nat → Prop} {wc : World} (h : Tab S wr tb now M L1 L2) (hc : Tab Sc wc tc now Mc L1c L2c) (hS : SameM M Mc) : L2 = L2c := by
  obtain ⟨mb, wb, qb, S1, S2, hTb, _, hI⟩ := h
  obtain ⟨mb', wb', qb', S1', S2', hTb', _, hI'⟩ := hc
  refine Q.Srt.eq hTb.qu.srt hTb'.qu.srt fun e => ?_
  rw [hI.d, hI'.d]
  constructor
  · rintro ⟨x, hx, h1, rfl⟩
    obtain ⟨y, hy, e⟩ := List.mem_map.1 ((hS x.core).1 (List.mem_map.2 ⟨x, hx, rfl⟩))
    simp only [Tmr.core, Prod.mk.injEq] at e
    exact ⟨y, hy, by rw [e.2.2.1]; exact h1, by rw [e.1, e.2.2.1]⟩
  · rintro ⟨x, hx, h1, rfl⟩
    obtain ⟨y, hy, e⟩ := List.mem_map.1 ((hS x.core).2 (List.mem_map.2 ⟨x, hx, rfl⟩))
    simp only [Tmr.core, Prod.mk.injEq] at e
    exact ⟨y, hy, by rw [e.2.2.1]; exact h1, by rw [e.1, e.2.2.1]⟩
end
end Go.Proofs.YtblnhcnfeagjhaaGreatDoor

/- TimersCopies: the calls on its two tables. -/
namespace Go.Proofs.YtblnhcnfeagjhaaGreatDoor
open Go.RowKit Go.IntWalk Go.Maps Go.Shelf
set_option linter.unusedVariables false
abbrev noT : Value := .slice none 0 0
theorem fpR_no (k : Nat) : ¬ fpR noT [] k := fun h => by
  rcases h with h | ⟨y, hy, _⟩
  · simp [Value.ownBlock] at h
  · simp at hy
theorem trs_no (w : World) : Trs w noT [] := ⟨⟨none, 0, rfl⟩, fun i x h => by simp at h, fun x h => by simp at h⟩
section
variable {U0 wr w' : World} {tb tc : Nat} {now nc now' : Int} {M Mc M' : List Tmr} {L1 L1c L1' : List W.E} {L2 L2c L2' : List Q.E} {va vd : Value} {ts ds : List Tmr}
theorem copy_o (h : Ow U0 wr tb now M L1 L2) (hnow : 0 ≤ now ∧ now < 18446744073709551616) :
    Calls Tryz.prog 22 #[ptr tb] wr fun r w' => ∃ tc Mc L1c L2c, r = .returned (ptr tc) ∧ Cw U0 w' tb tc now now M L1 L2 Mc L1c L2c noT [] noT [] ∧ SameM M Mc ∧ Mc.length ≤ 10000 := by
  obtain ⟨S, h1, h2, h3⟩ := h
  refine (copy_t wr h1 hnow).mono ?_
  rintro r w' ⟨tc, Sc, Mc, L1c, L2c, rfl, hTc, hSc, hfro, hto, hg⟩
  have hs := hg.size
  have hbs := h3.size
  have hun := core_un h1
  refine ⟨tc, Mc, L1c, L2c, rfl, ⟨⟨S, Sc, h1.keep hg, hTc, fun k hk => ⟨⟨(h2 k hk).1, by have := (h2 k hk).2; omega⟩, fun e => by have := (h2 k hk).2; have := (hSc k e).1; omega, fpR_no k, fpR_no k⟩, fun k hk => ⟨⟨by have := (hSc k hk).1; omega, (hSc k hk).2⟩, fpR_no k, fpR_no k⟩⟩, trs_no _, trs_no _, fun k hk => (hk.elim (fpR_no k) (fpR_no k)).elim, h3.grown hg hbs (by simp)⟩, fun c => ⟨fun hc => ?_, fun hc => ?_⟩, ?_⟩
  · obtain ⟨x, hx, rfl⟩ := List.mem_map.1 hc
    obtain ⟨y, hy, e⟩ := hto x hx
    have h5 := core_fro (hfro y hy)
    have h6 := hun _ h5 _ (List.mem_map.2 ⟨x, hx, rfl⟩) e
    exact List.mem_map.2 ⟨y, hy, h6⟩
  · obtain ⟨y, hy, rfl⟩ := List.mem_map.1 hc
    exact core_fro (hfro y hy)
  · obtain ⟨mb, wb, qb, S1, S2, _, _, hI⟩ := hTc
    exact hI.len
theorem allx (h : Cw U0 wr tb tc now nc M L1 L2 Mc L1c L2c va ts vd ds) : Calls Tryz.prog 26 #[ptr tb] wr fun r w' => ∃ a c t, r = .returned (.slice a t.length c) ∧ AllT wr w' M (.slice a t.length c) t ∧ wr.grownBy w' none := by
  obtain ⟨S, Sc, h1, h2, h3, h4⟩ := h.ex
  refine (all_t wr h1).mono ?_
  rintro r w' ⟨v, t, rfl, hA, hg⟩
  obtain ⟨a, c, rfl⟩ := own_shape hA.row
  exact ⟨a, c, t, rfl, hA, hg⟩
theorem allc (h : Cw U0 wr tb tc now nc M L1 L2 Mc L1c L2c va ts vd ds) : Calls Tryz.prog 26 #[ptr tc] wr fun r w' => ∃ a c t, r = .returned (.slice a t.length c) ∧ AllT wr w' Mc (.slice a t.length c) t ∧ wr.grownBy w' none := by
  obtain ⟨S, Sc, h1, h2, h3, h4⟩ := h.ex
  refine (all_t wr h2).mono ?_
  rintro r w' ⟨v, t, rfl, hA, hg⟩
  obtain ⟨a, c, rfl⟩ := own_shape hA.row
  exact ⟨a, c, t, rfl, hA, hg⟩
theorem AllT.trs {w w' : World} {v : Value} {t : List Tmr} (h : AllT w w' M v t) : Trs w' v t := trs_row h.row fun y hy => (h.fro y hy).2.1
theorem Cw.addA {v : Value} {t : List Tmr} (h : Cw U0 wr tb tc now nc M L1 L2 Mc L1c L2c noT [] vd ds) (hA : AllT wr w' M v t) (hg : wr.grownBy w' none) : Cw U0 w' tb tc now nc M L1 L2 Mc L1c L2c v t vd ds := by
  have hk := h.keep hg
  obtain ⟨S, Sc, h1, h2, h3, h4⟩ := h.ex
  have hs := hg.size
  have hf : ∀ k, fpR v t k → wr.heap.size ≤ k ∧ k < w'.heap.size := fun k hk => by
    rcases hk with e | ⟨y, hy, e⟩
    · exact hA.row.lt k e |>.imp_left fun h => by omega
    · exact ((hA.fro y hy).2.2 k e).1
  refine ⟨⟨S, Sc, h1.keep hg, h2.keep hg, fun k hk => ⟨⟨(h3 k hk).1.1, by have := (h3 k hk).1.2; omega⟩, (h3 k hk).2.1, fun e => by have := (h3 k hk).1.2; have := (hf k e).1; omega, (h3 k hk).2.2.2⟩, fun k hk => ⟨⟨(h4 k hk).1.1, by have := (h4 k hk).1.2; omega⟩, fun e => by have := (h4 k hk).1.2; have := (hf k e).1; omega, (h4 k hk).2.2⟩⟩, hA.trs, hk.rd, fun k hk2 => ?_, hk.bl⟩
  rcases hk2 with e | e
  · exact (hf k e).2
  · have := h.fl k (.inr e); omega
/-- Due of the first table, kept. -/
theorem duex0 (h : Cw U0 wr tb tc now nc M L1 L2 Mc L1c L2c va ts noT []) : Calls Tryz.prog 25 #[ptr tb] wr fun r w' => ∃ a c d, r = .returned (.slice a d.length c) ∧ Cw U0 w' tb tc now nc M L1 L2 Mc L1c L2c va ts (.slice a d.length c) d ∧ d.map (fun x => (⟨x.nm, x.at_⟩ : Q.E)) = L2 ∧ ∀ y ∈ d, y.core ∈ M.map Tmr.core := by
  obtain ⟨S, Sc, h1, h2, h3, h4⟩ := h.ex
  refine (due_f wr h1 fun k hk => (h3 k hk).1.2).mono ?_
  rintro r w' ⟨v, d, rfl, hrow, hmap, hd, hT, hK, hY⟩
  obtain ⟨a, c, rfl⟩ := own_shape hrow
  have hC := h.turnx h2 h3 h4 (hT.mono (S' := Gw S wr w') fun k hk => hk.1.1) (fun k hk => hk) hK
  have hs := hK.size
  have hf : ∀ k, fpR (.slice a d.length c) d k → wr.heap.size ≤ k ∧ k < w'.heap.size := fun k hk => by
    rcases hk with e | e
    · exact hrow.lt k e |>.imp_left fun h => by omega
    · exact (hY k e).1
  refine ⟨a, c, d, rfl, ⟨⟨_, Sc, hT, h2.kept hs fun k hk hl => hK.block k hl fun e => (h3 k e).2.1 hk, fun k hk => ?_, fun k hk => ⟨⟨(h4 k hk).1.1, by have := (h4 k hk).1.2; omega⟩, (h4 k hk).2.1, fun e => by have := (h4 k hk).1.2; have := (hf k e).1; omega⟩⟩, hC.ra, trs_row hrow fun y hy => (hd y hy).2, fun k hk => ?_, hC.bl⟩, hmap, fun y hy => core_fro (hd y hy).1⟩
  · have hn : ¬ fpR (.slice a d.length c) d k := fun e => e.elim hk.1.2 hk.2
    rcases hk.1.1 with e | e
    · exact ⟨⟨(h3 k e).1.1, by have := (h3 k e).1.2; omega⟩, (h3 k e).2.1, (h3 k e).2.2.1, hn⟩
    · exact ⟨⟨by have := h.bl.size; omega, e.2⟩, fun e2 => by have := (h4 k e2).1.2; omega, fun e2 => by have := h.fl k (.inl e2); omega, hn⟩
  · rcases hk with e | e
    · have := h.fl k (.inl e); omega
    · exact (hf k e).2
theorem duex (h : Cw U0 wr tb tc now nc M L1 L2 Mc L1c L2c va ts vd ds) : Calls Tryz.prog 25 #[ptr tb] wr fun r w' => ∃ a c d, r = .returned (.slice a d.length c) ∧ Cw U0 w' tb tc now nc M L1 L2 Mc L1c L2c va ts vd ds ∧ Trs w' (.slice a d.length c) d ∧ d.map (fun x => (⟨x.nm, x.at_⟩ : Q.E)) = L2 ∧ ∀ y ∈ d, y.core ∈ M.map Tmr.core := by
  obtain ⟨S, Sc, h1, h2, h3, h4⟩ := h.ex
  refine (due_f wr h1 fun k hk => (h3 k hk).1.2).mono ?_
  rintro r w' ⟨v, d, rfl, hrow, hmap, hd, hT, hK, hY⟩
  obtain ⟨a, c, rfl⟩ := own_shape hrow
  exact ⟨a, c, d, rfl, h.turnx h2 h3 h4 hT (fun k hk => hk.1.1) hK, trs_row hrow fun y hy => (hd y hy).2, hmap, fun y hy => core_fro (hd y hy).1⟩
theorem duec (h : Cw U0 wr tb tc now nc M L1 L2 Mc L1c L2c va ts vd ds) : Calls Tryz.prog 25 #[ptr tc] wr fun r w' => ∃ a c d, r = .returned (.slice a d.length c) ∧ Cw U0 w' tb tc now nc M L1 L2 Mc L1c L2c va ts vd ds ∧ Trs w' (.slice a d.length c) d ∧ d.map (fun x => (⟨x.nm, x.at_⟩ : Q.E)) = L2c ∧ ∀ y ∈ d, y.core ∈ Mc.map Tmr.core := by
  obtain ⟨S, Sc, h1, h2, h3, h4⟩ := h.ex
  refine (due_f wr h2 fun k hk => (h4 k hk).1.2).mono ?_
  rintro r w' ⟨v, d, rfl, hrow, hmap, hd, hT, hK, hY⟩
  obtain ⟨a, c, rfl⟩ := own_shape hrow
  exact ⟨a, c, d, rfl, h.turnc h1 h3 h4 hT (fun k hk => hk.1.1) hK, trs_row hrow fun y hy => (hd y hy).2, hmap, fun y hy => core_fro (hd y hy).1⟩
theorem setc (hD : Dr U0) (h : Cw U0 wr tb tc now nc M L1 L2 Mc L1c L2c va ts vd ds) (x : Tmr) (hx : Sps U0.heap.size U0 x.v x.xs) (h0 : 0 ≤ x.at_ ∧ 0 ≤ x.ev) (hl : Mc.length < 10000) :
    Calls Tryz.prog 12 #[ptr tc, x.val] wr fun r w' => (∃ n, r = .returned (.int .i64 n)) ∧ ∃ M' L1' L2', Cw U0 w' tb tc now nc M L1 L2 M' L1' L2' va ts vd ds ∧ M'.length ≤ Mc.length + 1 := by
  obtain ⟨S, Sc, h1, h2, h3, h4⟩ := h.ex
  have hs := h.bl.size
  refine (set_all wr (hD.below h.bl (Nat.le_refl _)) h2 (fun k hk => (h4 k hk).1.2) x ((hx.kept fun k _ hl => h.bl.block k hl).up hs) (fun k hk hne e => ?_) h0 hl).mono ?_
  · rcases id hx with ⟨_, e1⟩ | ⟨b, off, cap, e1, hb, _⟩
    · exact hne e1
    · rw [e1] at hk
      simp [Value.ownBlock] at hk
      have := (h4 k e).1.1
      omega
  · rintro r w' ⟨hr, ⟨M', L1', L2', hT, hM⟩, hK⟩
    exact ⟨hr, M', L1', L2', h.turnc h1 h3 h4 hT (fun k hk => hk) hK, hM⟩
theorem dropc (h : Cw U0 wr tb tc now nc M L1 L2 Mc L1c L2c va ts vd ds) (n : ByteArray) (hn : n.size ≤ maxLen) :
    Calls Tryz.prog 16 #[ptr tc, .string n] wr fun r w' => (∃ b, r = .returned (.bool b)) ∧ ∃ M' L1' L2', Cw U0 w' tb tc now nc M L1 L2 M' L1' L2' va ts vd ds ∧ M'.length ≤ Mc.length := by
  obtain ⟨S, Sc, h1, h2, h3, h4⟩ := h.ex
  refine (drop_t wr h2 n hn).mono ?_
  rintro r w' ⟨rfl, hT, hK⟩
  exact ⟨⟨_, rfl⟩, _, _, _, h.turnc h1 h3 h4 hT (fun k hk => hk) hK, delT_le n Mc⟩
theorem advc (h : Cw U0 wr tb tc now nc M L1 L2 Mc L1c L2c va ts vd ds) (hnc : nc ≤ 18446744073709551615) :
    Calls Tryz.prog 19 #[ptr tc, .int .u64 18446744073709551615] wr fun r w' => (∃ v, r = .returned v) ∧ ∃ L1' L2', Cw U0 w' tb tc now 18446744073709551615 M L1 L2 Mc L1' L2' va ts vd ds := by
  obtain ⟨S, Sc, h1, h2, h3, h4⟩ := h.ex
  rcases Int.lt_or_eq_of_le hnc with hlt | rfl
  · refine (adv_t wr h2 (fun k hk => (h4 k hk).1.2) 18446744073709551615 (by omega) hlt).mono ?_
    rintro r w' ⟨v, rfl, hr, hT, hK⟩
    exact ⟨⟨_, rfl⟩, _, _, h.turnc h1 h3 h4 hT (fun k hk => hk.1) hK⟩
  · refine (adv_back wr h2 18446744073709551615 (Int.le_refl _)).mono ?_
    rintro r w' ⟨rfl, rfl⟩
    exact ⟨⟨_, rfl⟩, _, _, h⟩
theorem clockx (h : Cw U0 wr tb tc now nc M L1 L2 Mc L1c L2c va ts vd ds) : Calls Tryz.prog 27 #[ptr tb] wr fun r w' => r = .returned (.int .u64 now) ∧ w' = wr := by
  obtain ⟨S, Sc, h1, h2, h3, h4⟩ := h.ex
  exact clock_t wr h1
theorem cnt_full {w1 w2 : World} {v : Value} {t : List Tmr} (h : Cw U0 wr tb tc now 18446744073709551615 M L1 L2 Mc L1c L2c va ts vd ds) (hA : AllT w1 w2 Mc v t) : L2c.length = t.length := by
  obtain ⟨S, Sc, _, ⟨mb, wb, qb, S1, S2, hTb, _, hI⟩, _⟩ := h.ex
  have hs2 := hTb.qu.srt
  have hp : (t.map fun y => (⟨y.nm, y.at_⟩ : Q.E)).Perm L2c := by
    refine (List.perm_ext_iff_of_nodup ?_ hs2.nodup).2 fun e => ?_
    · refine List.pairwise_map.2 ((List.pairwise_map.1 hA.ord).imp fun {a b} hl e => ?_)
      simp only [Q.E.mk.injEq] at e
      rw [e.1] at hl
      exact List.lt_irrefl _ hl
    · rw [hI.d e, List.mem_map]
      constructor
      · rintro ⟨y, hy, rfl⟩
        obtain ⟨x, hx, hxe⟩ := (hA.fro y hy).1
        have e1 : y.nm = x.nm := by rw [hxe]
        have e2 : y.at_ = x.at_ := by rw [hxe]
        have := (tR_iff x).1 (hI.ok x hx).2
        exact ⟨x, hx, by omega, by rw [e1, e2]⟩
      · rintro ⟨x, hx, hxl, rfl⟩
        obtain ⟨y, hy, hye⟩ := hA.to x hx
        have e1 : y.nm = x.nm := by rw [hye]
        have e2 : y.at_ = x.at_ := by rw [hye]
        exact ⟨y, hy, by rw [e1, e2]⟩
  have := hp.length_eq
  rw [List.length_map] at this
  exact this.symm
theorem map_nm {d : List Tmr} {L : List Q.E} (h : d.map (fun x => (⟨x.nm, x.at_⟩ : Q.E)) = L) : d.map Tmr.nm = L.map Q.E.n := by
  rw [← h, List.map_map]
  rfl
theorem Cw.len (h : Cw U0 wr tb tc now nc M L1 L2 Mc L1c L2c va ts vd ds) : M.length ≤ 10000 ∧ Mc.length ≤ 10000 ∧ L2.length ≤ 10000 ∧ L2c.length ≤ 10000 := by
  obtain ⟨S, Sc, ⟨mb, wb, qb, S1, S2, hTb, _, hI⟩, ⟨mb', wb', qb', S1', S2', hTb', _, hI'⟩, _⟩ := h.ex
  exact ⟨hI.len, hI'.len, hI.l2 hTb.qu.srt, hI'.l2 hTb'.qu.srt⟩
theorem Cw.un (h : Cw U0 wr tb tc now nc M L1 L2 Mc L1c L2c va ts vd ds) : ∀ a ∈ M.map Tmr.core, ∀ b ∈ M.map Tmr.core, a.1 = b.1 → a = b := by
  obtain ⟨S, Sc, h1, _⟩ := h.ex
  exact core_un h1
theorem Cw.same (h : Cw U0 wr tb tc now now M L1 L2 Mc L1c L2c va ts vd ds) (hS : SameM M Mc) : L2 = L2c := by
  obtain ⟨S, Sc, h1, h2, _⟩ := h.ex
  exact due_same h1 h2 hS
end
end Go.Proofs.YtblnhcnfeagjhaaGreatDoor
