/- The map of timers. -/
import Derived.Test.YtblnhcnfeagjhaaGreatDoorAMa
import Derived.Test.YtblnhcnfeagjhaaGreatDoorWAdw
import Derived.Test.YtblnhcnfeagjhaaGreatDoorQMc
import Derived.Test.YtblnhcnfeagjhaaGreatDoorWMc
import Derived.Test.YtblnhcnfeagjhaaGreatDoorWMd
namespace Go.Proofs.YtblnhcnfeagjhaaGreatDoor
open Go.RowKit Go.IntWalk Go.Maps Go.Shelf
set_option linter.unusedVariables false
/-- Timers without one name. -/
def delT (n : ByteArray) (M : List Tmr) : List Tmr := M.filter fun x => !decide (x.nm = n)
theorem mem_delT {n : ByteArray} {M : List Tmr} {x : Tmr} : x ∈ delT n M ↔ x ∈ M ∧ x.nm ≠ n := by simp [delT]
theorem delT_le (n : ByteArray) (M : List Tmr) : (delT n M).length ≤ M.length := List.length_filter_le _ _
theorem delT_lt {n : ByteArray} {M : List Tmr} {x : Tmr} (h : x ∈ M) (hn : x.nm = n) : (delT n M).length < M.length := by
  rcases Nat.lt_or_ge (delT n M).length M.length with h1 | h1
  · exact h1
  · have h2 : delT n M = M := (List.filter_sublist (l := M)).eq_of_length_le h1
    rw [← h2] at h
    exact absurd hn (mem_delT.1 h).2
theorem delT_len {n : ByteArray} : ∀ {M : List Tmr} (_ : M.Pairwise fun x y => x.nm ≠ y.nm) {x : Tmr} (_ : x ∈ M) (_ : x.nm = n), (delT n M).length + 1 = M.length
  | [], _, x, hx, _ => by simp at hx
  | a :: r, nd, x, hx, hn => by
    obtain ⟨h1, h2⟩ := List.pairwise_cons.1 nd
    by_cases ha : a.nm = n
    · have e : delT n r = r := List.filter_eq_self.2 fun y hy => by
        have := h1 y hy
        simp only [Bool.not_eq_true', decide_eq_false_iff_not]
        rw [← ha]
        exact fun e => this e.symm
      have e2 : delT n (a :: r) = delT n r := by simp [delT, ha]
      rw [e2, e]
      rfl
    · have hx2 : x ∈ r := by
        rcases List.mem_cons.1 hx with rfl | hx
        · exact absurd hn ha
        · exact hx
      have := delT_len h2 hx2 hn
      have e2 : delT n (a :: r) = a :: delT n r := by simp [delT, ha]
      rw [e2]
      simp only [List.length_cons]
      omega
/-- How an element of the map reads: a struct of five cells. -/
def tElem : Value → Option (DataW Value × List MemPlace)
  | .agg cs => match cs.toList with
    | [.string _, .int .i64 _, .int .u64 _, .int .u64 _, _] => some (.held (.agg cs), [])
    | _ => none
  | _ => none
theorem tElem_val (x : Tmr) : tElem x.val = some (.held x.val, []) := rfl
theorem tElem_inv {v : Value} {y : DataW Value × List MemPlace} (h : tElem v = some y) : y = (.held v, []) := by
  unfold tElem at h
  split at h
  · split at h
    · simpa using h.symm
    · cases h
  · cases h
theorem zeroT (w : World) : (zeroValue 32).run Tryz.prog w = .ok zTv w := by kernel_rfl
theorem tElem_z : tElem zTv = some (.held zTv, []) := rfl
/-- What the map holds. -/
structure PlT (D : DataW Value) (M : List Tmr) : Prop where
  has : ∀ x ∈ M, Maps.has D (W.ky x.nm) = true ∧ D.atKey (W.ky x.nm) (.held zTv) = .held x.val
  all : ∀ n : ByteArray, Maps.has D (W.ky n) = true → ∃ x ∈ M, x.nm = n
  nd : M.Pairwise fun x y => x.nm ≠ y.nm
  size : Maps.size D ≤ M.length
def MpT (w : World) (bm : Nat) (D : DataW Value) : Prop := w.ownsMap Tryz.prog 9 tElem bm (Maps.size D) D
theorem MpT.tight {w : World} {bm n : Nat} {D : DataW Value} (h : w.ownsMap Tryz.prog 9 tElem bm n D) : MpT w bm D := by
  obtain ⟨es, clock, hb, F, hs, rfl⟩ := h
  exact ⟨es, clock, hb, F, by simp [Maps.size, length_sorted], rfl⟩
theorem MpT.kept {w w' : World} {bm : Nat} {D : DataW Value} (h : MpT w bm D) (hb : w'.heap[bm]? = w.heap[bm]?) : MpT w' bm D := by
  obtain ⟨es, clock, h1, F, hs, hD⟩ := h
  exact ⟨es, clock, hb.trans h1, F, hs, hD⟩
/-- The map of timers. -/
def TM (w : World) (bm : Nat) (M : List Tmr) : Prop := ∃ D, MpT w bm D ∧ PlT D M
theorem TM.lt {w : World} {bm : Nat} {M : List Tmr} (h : TM w bm M) : bm < w.heap.size := by obtain ⟨D, h1, _⟩ := h; exact World.ownsMap.lt h1
theorem TM.kept {w w' : World} {bm : Nat} {M : List Tmr} (h : TM w bm M) (hb : w'.heap[bm]? = w.heap[bm]?) : TM w' bm M := by
  obtain ⟨D, h1, h2⟩ := h
  exact ⟨D, h1.kept hb, h2⟩
theorem TM.made {w : World} {b : Nat} (h : w.heap[b]? = some (.map #[] 0)) : TM w b [] :=
  ⟨.map [], ⟨#[], 0, h, ⟨by simp, MapKept.stamped_empty 0, by simp⟩, by simp, rfl⟩, by simp, fun n hh => by simp [Maps.has] at hh, List.Pairwise.nil, Nat.le_refl _⟩
/-- A name looked up. -/
theorem TM.look {w : World} {bm : Nat} {M : List Tmr} (h : TM w bm M) {n : ByteArray} (hn : n.size ≤ maxLen) :
    (∃ x ∈ M, x.nm = n ∧ (Instr.lookup 68 (.map (some bm)) (.string n) true).run Tryz.prog w = .ok (.tuple #[x.val, .bool true]) w ∧ (Instr.lookup 68 (.map (some bm)) (.string n) false).run Tryz.prog w = .ok x.val w) ∨
    ((∀ x ∈ M, x.nm ≠ n) ∧ (Instr.lookup 68 (.map (some bm)) (.string n) true).run Tryz.prog w = .ok (.tuple #[zTv, .bool false]) w) := by
  obtain ⟨D, hM, hP⟩ := h
  obtain ⟨v, ps, h1, h2⟩ := World.ownsMap.look_ok hM W.keyed9 Tryz.underlying68 (zeroT w) tElem_z (W.key9 hn)
  obtain ⟨v2, ps2, h3, h4⟩ := World.ownsMap.lookup hM W.keyed9 Tryz.underlying68 (zeroT w) tElem_z (W.key9 hn)
  have e2 := tElem_inv h2
  have e4 := tElem_inv h4
  simp only [Prod.mk.injEq] at e2 e4
  cases hh : Maps.has D (W.ky n) with
  | true =>
    obtain ⟨x, hx, hxn⟩ := hP.all n hh
    have h6 := (hP.has x hx).2
    rw [hxn] at h6
    have q2 := e2.1.symm.trans h6
    have q4 := e4.1.symm.trans h6
    simp only [DataW.held.injEq] at q2 q4
    rw [hh, q2] at h1
    rw [q4] at h3
    exact .inl ⟨x, hx, hxn, h1, h3⟩
  | false =>
    have h6 := atKey_of_not_has hh (DataW.held zTv)
    have q2 := e2.1.symm.trans h6
    simp only [DataW.held.injEq] at q2
    rw [hh, q2] at h1
    refine .inr ⟨fun x hx hxn => ?_, h1⟩
    have := (hP.has x hx).1
    rw [hxn, hh] at this
    cases this
/-- A new name's timer. -/
theorem TM.store {w : World} {bm : Nat} {M : List Tmr} (h : TM w bm M) (hl : M.length < maxLen) (x : Tmr) (hx : x.nm.size ≤ maxLen) (hno : ∀ y ∈ M, y.nm ≠ x.nm) :
    ∃ w', (Instr.mapUpdate 68 (.map (some bm)) (.string x.nm) x.val).run Tryz.prog w = .ok () w' ∧ TM w' bm (x :: M) ∧ w.grownBy w' (some bm) := by
  obtain ⟨D, hM, hP⟩ := h
  have hsz := hP.size
  obtain ⟨w', hrun, hown, ht⟩ := World.ownsMap.store hM W.keyed9 Tryz.underlying68 (by omega) (W.key9 hx) (tElem_val x)
  refine ⟨w', hrun, ⟨_, MpT.tight hown, ⟨fun y hy => ?_, fun n hn => ?_, List.pairwise_cons.2 ⟨fun y hy e => hno y hy e.symm, hP.nd⟩, ?_⟩⟩, ht.grown⟩
  · rcases List.mem_cons.1 hy with rfl | hy
    · exact ⟨has_put_same (World.ownsMap.isMap hM) (W.ky_key _) _, atKey_put_same (World.ownsMap.isMap hM) (W.ky_key _) _ _⟩
    · have hne : W.ky y.nm ≠ W.ky x.nm := fun e' => hno y hy (W.ky_inj e')
      rw [has_put_other hne, atKey_put_other hne]
      exact hP.has y hy
  · by_cases hne : n = x.nm
    · exact ⟨x, List.mem_cons_self, hne.symm⟩
    · rw [has_put_other (fun e' => hne (W.ky_inj e'))] at hn
      obtain ⟨y, hy, hyn⟩ := hP.all n hn
      exact ⟨y, List.mem_cons_of_mem _ hy, hyn⟩
  · rw [size_put (World.ownsMap.tidy hM W.keyed9)]
    simp only [List.length_cons]
    split <;> omega
/-- A name dropped. -/
theorem TM.drop {w : World} {bm : Nat} {M : List Tmr} (h : TM w bm M) {n : ByteArray} (hn : n.size ≤ maxLen) (ty : TypeId) :
    ∃ w', (Builtin.delete_ #[68, 9] ty #[.map (some bm), .string n]).run Tryz.prog w = .ok (.tuple #[]) w' ∧ TM w' bm (delT n M) ∧ w.grownBy w' (some bm) := by
  obtain ⟨D, hM, hP⟩ := h
  obtain ⟨w', hrun, hown, ht⟩ := World.ownsMap.drop hM W.keyed9 Tryz.underlying68 (W.key9 hn) ty
  have hsz := hP.size
  refine ⟨w', hrun, ⟨_, MpT.tight hown, ⟨fun x hx => ?_, fun m hm => ?_, hP.nd.sublist List.filter_sublist, ?_⟩⟩, ht.grown⟩
  · obtain ⟨hx, hxn⟩ := mem_delT.1 hx
    have hne : W.ky x.nm ≠ W.ky n := fun e' => hxn (W.ky_inj e')
    rw [has_del_other hne, atKey_del_other hne]
    exact hP.has x hx
  · by_cases hne : m = n
    · subst hne
      rw [has_del_same] at hm
      cases hm
    · rw [has_del_other (fun e' => hne (W.ky_inj e'))] at hm
      obtain ⟨x, hx, hxn⟩ := hP.all m hm
      exact ⟨x, mem_delT.2 ⟨hx, by rw [hxn]; exact hne⟩, hxn⟩
  · have h1 := size_del (k := W.ky n) (World.ownsMap.tidy hM W.keyed9)
    cases hh : Maps.has D (W.ky n) with
    | true =>
      rw [hh] at h1
      obtain ⟨x, hx, hxn⟩ := hP.all n hh
      have h2 := delT_len hP.nd hx hxn
      simp at h1
      omega
    | false =>
      rw [hh] at h1
      have h2 : delT n M = M := List.filter_eq_self.2 fun x hx => by
        simp only [Bool.not_eq_true', decide_eq_false_iff_not]
        intro hxn
        have := (hP.has x hx).1
        rw [hxn, hh] at this
        cases this
      rw [h2]
      simp at h1
      omega
end Go.Proofs.YtblnhcnfeagjhaaGreatDoor

/- A table in memory. -/
namespace Go.Proofs.YtblnhcnfeagjhaaGreatDoor
open Go.RowKit Go.IntWalk Go.Maps Go.Shelf
set_option linter.unusedVariables false
theorem kpW {S : Nat → Prop} {w w' : World} (h : W.Kp S w w') : Kp S w w' := ⟨h.os, h.tape, h.output, h.size, h.block⟩
theorem kpQ {S : Nat → Prop} {w w' : World} (h : Q.Kp S w w') : Kp S w w' := ⟨h.os, h.tape, h.output, h.size, h.block⟩
/-- A table's blocks: its struct tb, its map mb, its wheel wb with S1, its queue qb with S2. -/
structure Tb (w : World) (tb mb wb qb : Nat) (S1 S2 : Nat → Prop) (now : Int) (M : List Tmr) (L1 : List W.E) (L2 : List Q.E) : Prop where
  blk : w.heap[tb]? = some (.cells #[.map (some mb), ptr wb, ptr qb] 74 (0, 0))
  tm : TM w mb M
  wh : W.Wh S1 w wb now L1
  qu : Q.Qu S2 w qb L2
  s1 : ∀ k, S1 k → k < w.heap.size ∧ k ≠ tb ∧ k ≠ mb ∧ ¬ S2 k
  s2 : ∀ k, S2 k → k < w.heap.size ∧ k ≠ tb ∧ k ≠ mb
  ne : tb ≠ mb
  sp : ∀ x ∈ M, Sps w.heap.size w x.v x.xs ∧ ∀ k, x.v.ownBlock = some k → k < w.heap.size ∧ k ≠ tb ∧ k ≠ mb ∧ ¬ S1 k ∧ ¬ S2 k
/-- What a table lies in. -/
def fpT (tb mb : Nat) (S1 S2 : Nat → Prop) (M : List Tmr) (k : Nat) : Prop := k = tb ∨ k = mb ∨ S1 k ∨ S2 k ∨ ∃ x ∈ M, x.v.ownBlock = some k
section
variable {w w' : World} {tb mb wb qb : Nat} {S1 S2 : Nat → Prop} {now : Int} {M : List Tmr} {L1 : List W.E} {L2 : List Q.E}
theorem Tb.lt (h : Tb w tb mb wb qb S1 S2 now M L1 L2) : tb < w.heap.size := (Array.getElem?_eq_some_iff.1 h.blk).1
theorem Tb.kept (h : Tb w tb mb wb qb S1 S2 now M L1 L2) (hs : w.heap.size ≤ w'.heap.size) (hb : ∀ k, fpT tb mb S1 S2 M k → k < w.heap.size → w'.heap[k]? = w.heap[k]?) : Tb w' tb mb wb qb S1 S2 now M L1 L2 where
  blk := (hb tb (.inl rfl) h.lt).trans h.blk
  tm := h.tm.kept (hb mb (.inr (.inl rfl)) h.tm.lt)
  wh := h.wh.kept fun k hk hl => hb k (.inr (.inr (.inl hk))) hl
  qu := h.qu.kept fun k hk hl => hb k (.inr (.inr (.inr (.inl hk)))) hl
  s1 := fun k hk => ⟨Nat.lt_of_lt_of_le (h.s1 k hk).1 hs, (h.s1 k hk).2⟩
  s2 := fun k hk => ⟨Nat.lt_of_lt_of_le (h.s2 k hk).1 hs, (h.s2 k hk).2⟩
  ne := h.ne
  sp := fun x hx => ⟨((h.sp x hx).1.kept fun k hk hl => hb k (.inr (.inr (.inr (.inr ⟨x, hx, hk⟩)))) hl).up hs, fun k hk => ⟨Nat.lt_of_lt_of_le ((h.sp x hx).2 k hk).1 hs, ((h.sp x hx).2 k hk).2⟩⟩
theorem Tb.keep (h : Tb w tb mb wb qb S1 S2 now M L1 L2) (hg : w.grownBy w' none) : Tb w' tb mb wb qb S1 S2 now M L1 L2 := h.kept hg.size fun k _ hk => hg.block k hk (by simp)
/-- The wheel has turned. -/
theorem Tb.wheel (h : Tb w tb mb wb qb S1 S2 now M L1 L2) (hK : W.Kp S1 w w') {now' : Int} {L1' : List W.E} (hw : W.Wh S1 w' wb now' L1') : Tb w' tb mb wb qb S1 S2 now' M L1' L2 where
  blk := (hK.block tb h.lt fun e => (h.s1 tb e).2.1 rfl).trans h.blk
  tm := h.tm.kept (hK.block mb h.tm.lt fun e => (h.s1 mb e).2.2.1 rfl)
  wh := hw
  qu := h.qu.kept fun k hk hl => hK.block k hl fun e => (h.s1 k e).2.2.2 hk
  s1 := fun k hk => ⟨Nat.lt_of_lt_of_le (h.s1 k hk).1 hK.size, (h.s1 k hk).2⟩
  s2 := fun k hk => ⟨Nat.lt_of_lt_of_le (h.s2 k hk).1 hK.size, (h.s2 k hk).2⟩
  ne := h.ne
  sp := fun x hx => by
    obtain ⟨h1, h2⟩ := h.sp x hx
    refine ⟨(h1.kept fun k hk hl => hK.block k hl (h2 k hk).2.2.2.1).up hK.size, fun k hk => ?_⟩
    exact ⟨Nat.lt_of_lt_of_le (h2 k hk).1 hK.size, (h2 k hk).2⟩
/-- The queue has turned. -/
theorem Tb.queue (h : Tb w tb mb wb qb S1 S2 now M L1 L2) (hK : Q.Kp S2 w w') {L2' : List Q.E} (hq : Q.Qu (Q.Gw S2 w w') w' qb L2') : Tb w' tb mb wb qb S1 (Q.Gw S2 w w') now M L1 L2' where
  blk := (hK.block tb h.lt fun e => (h.s2 tb e).2.1 rfl).trans h.blk
  tm := h.tm.kept (hK.block mb h.tm.lt fun e => (h.s2 mb e).2.2 rfl)
  wh := h.wh.kept fun k hk hl => hK.block k hl (h.s1 k hk).2.2.2
  qu := hq
  s1 := fun k hk => ⟨Nat.lt_of_lt_of_le (h.s1 k hk).1 hK.size, (h.s1 k hk).2.1, (h.s1 k hk).2.2.1, fun e => e.elim (h.s1 k hk).2.2.2 fun e => by have := (h.s1 k hk).1; omega⟩
  s2 := fun k hk => by
    have hs := hK.size
    rcases hk with hk | hk
    · exact ⟨Nat.lt_of_lt_of_le (h.s2 k hk).1 hs, (h.s2 k hk).2⟩
    · have h1 := h.lt
      have h2 := h.tm.lt
      exact ⟨hk.2, by omega, by omega⟩
  ne := h.ne
  sp := fun x hx => by
    obtain ⟨h1, h2⟩ := h.sp x hx
    refine ⟨(h1.kept fun k hk hl => hK.block k hl (h2 k hk).2.2.2.2).up hK.size, fun k hk => ?_⟩
    obtain ⟨a1, a2, a3, a4, a5⟩ := h2 k hk
    exact ⟨Nat.lt_of_lt_of_le a1 hK.size, a2, a3, a4, fun e => e.elim a5 fun e => by omega⟩
/-- The map has turned. -/
theorem Tb.map (h : Tb w tb mb wb qb S1 S2 now M L1 L2) (hg : w.grownBy w' (some mb)) {M' : List Tmr} (hM : TM w' mb M') (hsp : ∀ x ∈ M', Sps w.heap.size w x.v x.xs ∧ ∀ k, x.v.ownBlock = some k → k < w.heap.size ∧ k ≠ tb ∧ k ≠ mb ∧ ¬ S1 k ∧ ¬ S2 k) : Tb w' tb mb wb qb S1 S2 now M' L1 L2 where
  blk := (hg.block tb h.lt (by simpa using h.ne)).trans h.blk
  tm := hM
  wh := h.wh.kept fun k hk hl => hg.block k hl (by simpa using (h.s1 k hk).2.2.1)
  qu := h.qu.kept fun k hk hl => hg.block k hl (by simpa using (h.s2 k hk).2.2)
  s1 := fun k hk => ⟨Nat.lt_of_lt_of_le (h.s1 k hk).1 hg.size, (h.s1 k hk).2⟩
  s2 := fun k hk => ⟨Nat.lt_of_lt_of_le (h.s2 k hk).1 hg.size, (h.s2 k hk).2⟩
  ne := h.ne
  sp := fun x hx => by
    obtain ⟨h1, h2⟩ := hsp x hx
    refine ⟨(h1.kept fun k hk hl => hg.block k hl (by simpa using (h2 k hk).2.2.1)).up hg.size, fun k hk => ?_⟩
    exact ⟨Nat.lt_of_lt_of_le (h2 k hk).1 hg.size, (h2 k hk).2⟩
end
/-- Where the timers stand. -/
structure Inv (now : Int) (M : List Tmr) (L1 : List W.E) (L2 : List Q.E) : Prop where
  ok : ∀ x ∈ M, (0 ≤ x.at_ ∧ 0 ≤ x.ev) ∧ tR x = true
  a : ∀ e : W.E, e ∈ L1 ↔ ∃ x ∈ M, now < x.at_ ∧ e = ⟨x.nm, x.at_⟩
  d : ∀ e : Q.E, e ∈ L2 ↔ ∃ x ∈ M, x.at_ ≤ now ∧ e = ⟨x.nm, x.at_⟩
  len : M.length ≤ 10000
/-- A table, in blocks of which S is true. -/
def Tab (S : Nat → Prop) (w : World) (tb : Nat) (now : Int) (M : List Tmr) (L1 : List W.E) (L2 : List Q.E) : Prop :=
  ∃ mb wb qb S1 S2, Tb w tb mb wb qb S1 S2 now M L1 L2 ∧ (∀ k, fpT tb mb S1 S2 M k → S k) ∧ Inv now M L1 L2
theorem Tab.mono {S S' : Nat → Prop} {w : World} {tb : Nat} {now : Int} {M : List Tmr} {L1 : List W.E} {L2 : List Q.E} (h : Tab S w tb now M L1 L2) (hs : ∀ k, S k → S' k) : Tab S' w tb now M L1 L2 := by
  obtain ⟨mb, wb, qb, S1, S2, h1, h2, h3⟩ := h
  exact ⟨mb, wb, qb, S1, S2, h1, fun k hk => hs k (h2 k hk), h3⟩
theorem Tab.kept {S : Nat → Prop} {w w' : World} {tb : Nat} {now : Int} {M : List Tmr} {L1 : List W.E} {L2 : List Q.E} (h : Tab S w tb now M L1 L2) (hs : w.heap.size ≤ w'.heap.size) (hb : ∀ k, S k → k < w.heap.size → w'.heap[k]? = w.heap[k]?) : Tab S w' tb now M L1 L2 := by
  obtain ⟨mb, wb, qb, S1, S2, h1, h2, h3⟩ := h
  exact ⟨mb, wb, qb, S1, S2, h1.kept hs fun k hk hl => hb k (h2 k hk) hl, h2, h3⟩
theorem Tab.keep {S : Nat → Prop} {w w' : World} {tb : Nat} {now : Int} {M : List Tmr} {L1 : List W.E} {L2 : List Q.E} (h : Tab S w tb now M L1 L2) (hg : w.grownBy w' none) : Tab S w' tb now M L1 L2 := h.kept hg.size fun k _ hk => hg.block k hk (by simp)
theorem Inv.l1 {now : Int} {M : List Tmr} {L1 : List W.E} {L2 : List Q.E} (h : Inv now M L1 L2) (hs : W.Srt L1) : L1.length ≤ 10000 := by
  have := hs.nodup.length_le_of_subset (l₂ := M.map fun x => (⟨x.nm, x.at_⟩ : W.E)) fun e he => by
    obtain ⟨x, hx, _, rfl⟩ := (h.a e).1 he
    exact List.mem_map.2 ⟨x, hx, rfl⟩
  have h2 := h.len
  simp at this
  omega
theorem Inv.l2 {now : Int} {M : List Tmr} {L1 : List W.E} {L2 : List Q.E} (h : Inv now M L1 L2) (hs : Q.Srt L2) : L2.length ≤ 10000 := by
  have := hs.nodup.length_le_of_subset (l₂ := M.map fun x => (⟨x.nm, x.at_⟩ : Q.E)) fun e he => by
    obtain ⟨x, hx, _, rfl⟩ := (h.d e).1 he
    exact List.mem_map.2 ⟨x, hx, rfl⟩
  have h2 := h.len
  simp at this
  omega
set_option maxRecDepth 100000 in
set_option maxHeartbeats 1000000 in
/-- timers.New. -/
theorem new_t (w : World) (now : Int) (hn : 0 ≤ now ∧ now < 18446744073709551616) : Calls Tryz.prog 9 #[.int .u64 now] w fun r w' => ∃ tb, r = .returned (ptr tb) ∧ Tab (fun k => w.heap.size ≤ k ∧ k < w'.heap.size) w' tb now [] [] [] ∧ w.grownBy w' none := by
  have hg0 := World.grownBy_alloc w (.map #[] 0) none
  have hw1 := W.new_any (w.alloc (.map #[] 0)) now hn
  have hmm := @run_makeMap Tryz.prog
  have hb0 : (w.alloc (.map #[] 0)).heap[w.heap.size]? = some (.map #[] 0) := by
    have := World.alloc_heap_new w (.map #[] 0)
    simpa using this
  go_enter Tryz.func9, Tryz.ntmps9
  go_wp2_with fail
  refine hw1.mono ?_
  rintro r w1 ⟨wb, rfl, hW, hg1⟩
  have hq := Q.new_any w1
  go_wp2_with fail
  refine hq.mono ?_
  rintro r w2 ⟨qb, rfl, hQ, hg2⟩
  have hg3 := World.grownBy_alloc w2 (.cells #[.map (some w.heap.size), ptr wb, ptr qb] 74) none
  go_wp2
  go_ret
  have e1 := hg1.size
  have e2 := hg2.size
  have e3 := hg3.size
  simp at e1
  have hb3 : (w2.alloc (.cells #[.map (some w.heap.size), ptr wb, ptr qb] 74)).heap[w2.heap.size]? = some (.cells #[.map (some w.heap.size), ptr wb, ptr qb] 74 (0, 0)) := World.alloc_heap_new w2 _
  refine ⟨w2.heap.size, rfl, ⟨w.heap.size, wb, qb, _, _, ⟨hb3, TM.made ?_, (hW.kept fun k _ hk => (grown_none hg2 hg3).block k hk (by simp)), hQ.kept fun k _ hk => hg3.block k hk (by simp), fun k hk => ?_, fun k hk => ?_, by omega, by simp⟩, fun k hk => ?_, ⟨by simp, fun e => by simp, fun e => by simp, by simp⟩⟩, grown_none (grown_none (grown_none hg0 hg1) hg2) hg3⟩
  · rw [(grown_none (grown_none hg1 hg2) hg3).block w.heap.size (by simp) (by simp)]; exact hb0
  · simp at hk ⊢; omega
  · simp at hk ⊢; omega
  · rcases hk with rfl | rfl | hk | hk | ⟨x, hx, _⟩
    · simp; omega
    · simp; omega
    · simp at hk ⊢; omega
    · simp at hk ⊢; omega
    · simp at hx
end Go.Proofs.YtblnhcnfeagjhaaGreatDoor
