/- Entries in order, each name once: plain facts. -/
import Derived.Test.YtblnhcnfeagjhaaGreatDoorQMa
import Derived.Test.YtblnhcnfeagjhaaGreatDoorQHep
namespace Go.Proofs.YtblnhcnfeagjhaaGreatDoor.Q
set_option linter.unusedVariables false
/-- In order, each name once. -/
structure Srt (L : List E) : Prop where
  up : L.Pairwise lt
  un : ∀ x ∈ L, ∀ y ∈ L, x.n = y.n → x = y
theorem Srt.nil : Srt [] := ⟨List.Pairwise.nil, by simp⟩
theorem Srt.nodup {L : List E} (h : Srt L) : L.Nodup := List.nodup_iff_pairwise_ne.2 (h.up.imp fun {a b} hl (e : a = b) => lt_irrefl a (by rw [← e] at hl; exact hl))
theorem Srt.eq {L M : List E} (h : Srt L) (k : Srt M) (hm : ∀ x, x ∈ L ↔ x ∈ M) : L = M :=
  List.Perm.eq_of_pairwise (fun a b _ _ h1 h2 => absurd h2 (lt_asymm h1)) h.up k.up ((List.perm_ext_iff_of_nodup h.nodup k.nodup).2 hm)
theorem Srt.sub {L M : List E} (h : Srt L) (hs : M.Sublist L) : Srt M := ⟨h.up.sublist hs, fun x hx y hy e => h.un x (hs.subset hx) y (hs.subset hy) e⟩
/-- Is a name there? -/
def hasN (n : ByteArray) (L : List E) : Bool := L.any fun x => decide (x.n = n)
/-- Without a name. -/
def delN (n : ByteArray) (L : List E) : List E := L.filter fun x => !decide (x.n = n)
/-- With an entry in its place. -/
def putE (e : E) (L : List E) : List E := ((delN e.n L).filter fun x => ltb x e) ++ e :: ((delN e.n L).filter fun x => ltb e x)
theorem hasN_iff {n : ByteArray} {L : List E} : hasN n L = true ↔ ∃ x ∈ L, x.n = n := by simp [hasN]
theorem hasN_not {n : ByteArray} {L : List E} : hasN n L = false ↔ ∀ x ∈ L, x.n ≠ n := by simp [hasN]
theorem mem_delN {n : ByteArray} {L : List E} {x : E} : x ∈ delN n L ↔ x ∈ L ∧ x.n ≠ n := by simp [delN]
theorem mem_putE {e : E} {L : List E} {x : E} : x ∈ putE e L ↔ x = e ∨ (x ∈ L ∧ x.n ≠ e.n) := by
  simp only [putE, List.mem_append, List.mem_cons, List.mem_filter, mem_delN, ltb_iff]
  constructor
  · rintro (⟨h1, _⟩ | h | ⟨h1, _⟩)
    · exact .inr h1
    · exact .inl h
    · exact .inr h1
  · rintro (h | h)
    · exact .inr (.inl h)
    · rcases lt_tri x e with h1 | h1 | h1
      · exact .inl ⟨h, h1⟩
      · exact .inr (.inl h1)
      · exact .inr (.inr ⟨h, h1⟩)
theorem Srt.del {L : List E} (h : Srt L) (n : ByteArray) : Srt (delN n L) := h.sub List.filter_sublist
theorem Srt.put {L : List E} (h : Srt L) (e : E) : Srt (putE e L) := by
  refine ⟨?_, fun x hx y hy hn => ?_⟩
  · unfold putE
    refine List.pairwise_append.2 ⟨(h.del e.n).up.sublist List.filter_sublist, List.pairwise_cons.2 ⟨fun y hy => ?_, (h.del e.n).up.sublist List.filter_sublist⟩, fun y hy z hz => ?_⟩
    · exact ltb_iff.1 (List.mem_filter.1 hy).2
    · have h1 : lt y e := ltb_iff.1 (List.mem_filter.1 hy).2
      rcases List.mem_cons.1 hz with rfl | hz
      · exact h1
      · exact lt_trans h1 (ltb_iff.1 (List.mem_filter.1 hz).2)
  · rw [mem_putE] at hx hy
    rcases hx with rfl | ⟨hx, hxn⟩ <;> rcases hy with rfl | ⟨hy, hyn⟩
    · rfl
    · exact absurd hn.symm hyn
    · exact absurd hn hxn
    · exact h.un x hx y hy hn
theorem delN_not {n : ByteArray} {L : List E} (h : hasN n L = false) : delN n L = L := List.filter_eq_self.2 fun x hx => by simp [hasN_not.1 h x hx]
theorem len_mem {L M : List E} (h1 : L.Nodup) (h2 : M.Nodup) (hm : ∀ x, x ∈ L ↔ x ∈ M) : L.length = M.length := ((List.perm_ext_iff_of_nodup h1 h2).2 hm).length_eq
theorem putE_len {L : List E} (h : Srt L) (e : E) : (putE e L).length = (delN e.n L).length + 1 := by
  have h1 : (e :: delN e.n L).Nodup := List.nodup_cons.2 ⟨fun hc => (mem_delN.1 hc).2 rfl, (h.del _).nodup⟩
  have := len_mem (h.put e).nodup h1 (fun x => by rw [mem_putE, List.mem_cons, mem_delN])
  simpa using this
theorem putE_le {L : List E} (h : Srt L) (e : E) : (putE e L).length ≤ L.length + 1 := by
  rw [putE_len h]
  have := List.length_filter_le (fun x : E => !decide (x.n = e.n)) L
  unfold delN
  omega
theorem delN_le (n : ByteArray) (L : List E) : (delN n L).length ≤ L.length := List.length_filter_le _ _
/-- A name's entry. -/
def getN (n : ByteArray) (L : List E) : Option E := L.find? fun x => decide (x.n = n)
theorem getN_some {n : ByteArray} {L : List E} {x : E} (h : getN n L = some x) : x ∈ L ∧ x.n = n := ⟨List.mem_of_find?_eq_some h, by simpa using List.find?_some h⟩
theorem getN_none {n : ByteArray} {L : List E} (h : getN n L = none) : hasN n L = false := hasN_not.2 fun x hx => by simpa using List.find?_eq_none.1 h x hx
theorem Srt.get {L : List E} (h : Srt L) {x : E} (hx : x ∈ L) : getN x.n L = some x := by
  cases e : getN x.n L with
  | none => exact absurd rfl (hasN_not.1 (getN_none e) x hx)
  | some y => rw [h.un y (getN_some e).1 x hx (getN_some e).2]
theorem getN_has {n : ByteArray} {L : List E} : hasN n L = (getN n L).isSome := by
  cases e : getN n L with
  | none => rw [getN_none e]; rfl
  | some x => rw [hasN_iff.2 ⟨x, getN_some e⟩]; rfl
/-- The first one of those in order. -/
theorem Srt.head {f : E} {L : List E} (h : Srt (f :: L)) : (∀ x ∈ L, lt f x) ∧ Srt L ∧ delN f.n (f :: L) = L := by
  have h1 := (List.pairwise_cons.1 h.up).1
  have h2 : Srt L := h.sub (List.sublist_cons_self _ _)
  refine ⟨h1, h2, (h.del _).eq h2 fun x => ?_⟩
  rw [mem_delN]
  constructor
  · rintro ⟨hx, hn⟩
    rcases List.mem_cons.1 hx with rfl | hx
    · exact absurd rfl hn
    · exact hx
  · intro hx
    refine ⟨List.mem_cons_of_mem _ hx, fun e => ?_⟩
    have := h.un x (List.mem_cons_of_mem _ hx) f (by simp) e
    exact lt_irrefl f (this ▸ h1 x hx)
end Go.Proofs.YtblnhcnfeagjhaaGreatDoor.Q

/- A queue in memory; New, Len, At, Put, Drop, Front, Pop. -/
namespace Go.Proofs.YtblnhcnfeagjhaaGreatDoor.Q
open Go.RowKit Go.IntWalk Go.Maps
set_option linter.unusedVariables false
/-- A queue: its entries in order are L; its blocks are such that S is true of them. -/
structure Qu (S : Nat → Prop) (w : World) (qb : Nat) (L : List E) : Prop where
  ex : ∃ bm rv es, Ln w qb bm rv es ∧ Hp es es.length ∧ (∀ x, x ∈ es ↔ x ∈ L) ∧ ∀ k, fp qb bm rv k → S k
  srt : Srt L
/-- .. and what is new. -/
def Gw (S : Nat → Prop) (w w' : World) (k : Nat) : Prop := S k ∨ (w.heap.size ≤ k ∧ k < w'.heap.size)
theorem Ln.nd {w : World} {qb bm : Nat} {rv : Value} {es : List E} (h : Ln w qb bm rv es) : es.Nodup := by
  rw [List.nodup_iff_pairwise_ne, List.pairwise_iff_getElem]
  intro i j hi hj hij e
  have := h.nodup (List.getElem?_eq_getElem hi) (List.getElem?_eq_getElem hj) (by rw [e])
  omega
theorem Qu.mono {S S' : Nat → Prop} {w : World} {qb : Nat} {L : List E} (h : Qu S w qb L) (hs : ∀ k, S k → S' k) : Qu S' w qb L := by
  obtain ⟨⟨bm, rv, es, h1, h2, h3, h4⟩, h5⟩ := h
  exact ⟨⟨bm, rv, es, h1, h2, h3, fun k hk => hs k (h4 k hk)⟩, h5⟩
theorem Qu.kept {S : Nat → Prop} {w w' : World} {qb : Nat} {L : List E} (h : Qu S w qb L) (hb : ∀ k, S k → k < w.heap.size → w'.heap[k]? = w.heap[k]?) : Qu S w' qb L := by
  obtain ⟨⟨bm, rv, es, h1, h2, h3, h4⟩, h5⟩ := h
  exact ⟨⟨bm, rv, es, h1.kept fun k hk => hb k (h4 k hk) (h1.fpl k hk), h2, h3, h4⟩, h5⟩
theorem Qu.turn {S : Nat → Prop} {w w' : World} {qb bm : Nat} {rv rv' : Value} {es' L' : List E} (hS : ∀ k, fp qb bm rv k → S k) (hL : Ln w' qb bm rv' es') (hT : Tn w w' qb bm rv rv') (hH : Hp es' es'.length) (hm : ∀ x, x ∈ es' ↔ x ∈ L') (hs : Srt L') : Qu (Gw S w w') w' qb L' ∧ Kp S w w' := by
  refine ⟨⟨⟨bm, rv', es', hL, hH, hm, ?_⟩, hs⟩, hT.kp.mono hS⟩
  rintro k (rfl | rfl | e)
  · exact .inl (hS _ (.inl rfl))
  · exact .inl (hS _ (.inr (.inl rfl)))
  · rcases hT.own with ho | ⟨j, hj, hjl⟩
    · exact .inl (hS _ (.inr (.inr (by rw [← ho]; exact e))))
    · rw [hj] at e; cases e; exact .inr ⟨hjl, hL.rvl _ hj⟩
theorem Qu.len {S : Nat → Prop} {w : World} {qb bm : Nat} {rv : Value} {es L : List E} (hL : Ln w qb bm rv es) (hm : ∀ x, x ∈ es ↔ x ∈ L) (hs : Srt L) : es.length = L.length := len_mem hL.nd hs.nodup hm
set_option maxRecDepth 100000 in
set_option maxHeartbeats 1000000 in
/-- queue.New. -/
theorem new_any (w : World) : Calls Tryz.prog 36 #[] w fun r w' => ∃ qb, r = .returned (.pointer (some ⟨qb, 0, none⟩)) ∧ Qu (fun k => w.heap.size ≤ k ∧ k < w'.heap.size) w' qb [] ∧ w.grownBy w' none := by
  have hmm := @run_makeMap Tryz.prog
  go_enter Tryz.func36, Tryz.ntmps36
  go_wp2
  go_ret
  have hg1 := World.grownBy_alloc w (.map #[] 0) none
  have hg2 := World.grownBy_alloc (w.alloc (.map #[] 0)) (.cells #[.slice none 0 0, .map (some w.heap.size)] 111) none
  refine ⟨_, rfl, ⟨⟨w.heap.size, .slice none 0 0, [], ⟨?_, World.ownsRow_nil _ _ _ _, ⟨.map [], ?_, ⟨fun i e h => by simp at h, fun n h => by simp [Maps.has] at h, rfl⟩⟩, by simp [Value.ownBlock], by simp [Value.ownBlock], by simp, by simp⟩, fun k h0 hk => by simp at hk, fun x => Iff.rfl, ?_⟩, Srt.nil⟩, grown_none hg1 hg2⟩
  · have := heap_alloc_new (w.alloc (.map #[] 0)) (.cells #[.slice none 0 0, .map (some w.heap.size)] 111)
    simpa using this
  · exact World.ownsMap.kept (World.ownsMap_made w Tryz.prog 9 (plainElem Tryz.prog 3)) hg2 (by simp)
  · rintro k (rfl | rfl | e)
    · simp
    · simp; omega
    · simp [Value.ownBlock] at e
set_option maxRecDepth 100000 in
set_option maxHeartbeats 1000000 in
/-- Queue.Len. -/
theorem len_any (w : World) {S : Nat → Prop} {qb : Nat} {L : List E} (h : Qu S w qb L) : Calls Tryz.prog 138 #[.pointer (some ⟨qb, 0, none⟩)] w fun r w' => r = .returned (.int .i64 L.length) ∧ w' = w := by
  obtain ⟨⟨bm, rv, es, hL, hH, hm, hS⟩, hs⟩ := h
  have hl := Qu.len (S := S) hL hm hs
  go_enter Tryz.func138, Tryz.ntmps138
  go_wp2_with fail
  refine (llen_any w hL).mono ?_
  rintro r w1 ⟨rfl, rfl⟩
  rw [hl]
  go_wp2
  go_ret
  exact ⟨rfl, rfl⟩
set_option maxRecDepth 100000 in
set_option maxHeartbeats 1000000 in
theorem len_nil (w : World) : Calls Tryz.prog 138 #[.pointer none] w fun r w' => r = .returned (.int .i64 0) ∧ w' = w := by
  go_enter Tryz.func138, Tryz.ntmps138
  go_wp2
  go_ret
  exact ⟨rfl, rfl⟩
/-- What the map tells of a name. -/
theorem Ln.look {w : World} {qb bm : Nat} {rv : Value} {es : List E} (h : Ln w qb bm rv es) {n : ByteArray} (hn : n.size ≤ maxLen) :
    (∃ (i : Nat) (e : E), es[i]? = some e ∧ e.n = n ∧ (Instr.lookup 107 (.map (some bm)) (.string n) false).run Tryz.prog w = .ok (.int .i64 i) w ∧ (Instr.lookup 107 (.map (some bm)) (.string n) true).run Tryz.prog w = .ok (.tuple #[.int .i64 i, .bool true]) w) ∨
    ((∀ x ∈ es, x.n ≠ n) ∧ ∃ c, (Instr.lookup 107 (.map (some bm)) (.string n) true).run Tryz.prog w = .ok (.tuple #[.int .i64 c, .bool false]) w) := by
  obtain ⟨D, hM, hP⟩ := h.mp
  obtain ⟨c, h1, h2, h3⟩ := hM.look hn
  cases hh : Maps.has D (ky n) with
  | true =>
    obtain ⟨e, he, hen⟩ := hP.all n hh
    obtain ⟨i, hi⟩ := List.mem_iff_getElem?.1 he
    have := (hP.has i e hi).2
    rw [hen, h3] at this
    have hc : c = i := by simpa using this
    subst hc
    rw [hh] at h2
    exact .inl ⟨i, e, hi, hen, h1, h2⟩
  | false =>
    rw [hh] at h2
    refine .inr ⟨fun x hx hxn => ?_, c, h2⟩
    obtain ⟨i, hi⟩ := List.mem_iff_getElem?.1 hx
    have := (hP.has i x hi).1
    rw [hxn, hh] at this
    cases this
set_option maxRecDepth 100000 in
set_option maxHeartbeats 1000000 in
/-- Queue.At. -/
theorem at_some (w : World) {S : Nat → Prop} {qb : Nat} {L : List E} (h : Qu S w qb L) {n : ByteArray} (hn : n.size ≤ maxLen) {e : E} (he : getN n L = some e) :
    Calls Tryz.prog 65 #[.pointer (some ⟨qb, 0, none⟩), .string n] w fun r w' => r = .returned (.tuple #[.int .u64 e.at_, .bool true]) ∧ w' = w := by
  obtain ⟨⟨bm, rv, es, hL, hH, hm, hS⟩, hs⟩ := h
  obtain ⟨he1, he2⟩ := getN_some he
  rcases hL.look hn with ⟨i, x, hi, hxn, _, hlk⟩ | ⟨hno, _⟩
  · have hxe : x = e := hs.un x ((hm x).1 (List.mem_of_getElem? hi)) e he1 (by rw [hxn, he2])
    subst hxe
    obtain ⟨a, cap, rfl⟩ := hL.shape
    obtain ⟨g, rfl, hgl, _, k1, k2, _⟩ := hL.row.at hi
    have c0 := hL.c0
    have c1 := hL.c1
    have hil : i < es.length := (List.getElem?_eq_some_iff.1 hi).1
    have hl := hL.len
    clear he he2
    go_enter Tryz.func65, Tryz.ntmps65
    go_wp2
    go_ret2
    exact ⟨rfl, rfl⟩
  · exact absurd he2 (hno e ((hm e).2 he1))
set_option maxRecDepth 100000 in
set_option maxHeartbeats 1000000 in
theorem at_none (w : World) {S : Nat → Prop} {qb : Nat} {L : List E} (h : Qu S w qb L) {n : ByteArray} (hn : n.size ≤ maxLen) (he : hasN n L = false) :
    Calls Tryz.prog 65 #[.pointer (some ⟨qb, 0, none⟩), .string n] w fun r w' => r = .returned (.tuple #[.int .u64 0, .bool false]) ∧ w' = w := by
  obtain ⟨⟨bm, rv, es, hL, hH, hm, hS⟩, hs⟩ := h
  rcases hL.look hn with ⟨i, x, hi, hxn, _, hlk⟩ | ⟨hno, c, hlk⟩
  · exact absurd hxn (hasN_not.1 he x ((hm x).1 (List.mem_of_getElem? hi)))
  · have c1 := hL.c1
    clear he hno
    go_enter Tryz.func65, Tryz.ntmps65
    go_wp2
    go_ret2
    exact ⟨rfl, rfl⟩
set_option maxRecDepth 100000 in
set_option maxHeartbeats 1000000 in
theorem at_nil (w : World) (n : ByteArray) : Calls Tryz.prog 65 #[.pointer none, .string n] w fun r w' => r = .returned (.tuple #[.int .u64 0, .bool false]) ∧ w' = w := by
  go_enter Tryz.func65, Tryz.ntmps65
  go_wp2
  go_ret2
  exact ⟨rfl, rfl⟩
set_option maxRecDepth 100000 in
set_option maxHeartbeats 1000000 in
/-- line.add. -/
theorem add_any (w : World) {qb bm : Nat} {rv : Value} {es : List E} (h : Ln w qb bm rv es) (hh : Hp es es.length) (e : E) (hn : ∀ x ∈ es, x.n ≠ e.n) (he : e.n.size ≤ maxLen ∧ 0 ≤ e.at_ ∧ e.at_ < 18446744073709551616) (hl : es.length < 100000) :
    Calls Tryz.prog 71 #[.pointer (some ⟨qb, 0, none⟩), .agg #[.string e.n, .int .u64 e.at_]] w fun r w' => (∃ v, r = .returned v) ∧ ∃ rv' es', Ln w' qb bm rv' es' ∧ Tn w w' qb bm rv rv' ∧ Hp es' es'.length ∧ ∀ x, x ∈ es' ↔ x ∈ es ∨ x = e := by
  have hg0 := World.grownBy_alloc w (.cells #[.string e.n, .int .u64 e.at_] 91) none
  go_enter Tryz.func71, Tryz.ntmps71
  go_wp2_with fail
  refine (hpush_any _ (h.keep hg0) hh e hn he hl).mono ?_
  rintro r w1 ⟨rfl, rv1, es1, hL1, hT1, hH1, hm1⟩
  go_wp2
  go_end0
  exact ⟨⟨_, rfl⟩, rv1, es1, hL1, (Tn.of0 hg0).trans hT1, hH1, hm1⟩
set_option maxRecDepth 100000 in
set_option maxHeartbeats 1000000 in
/-- line.remove. -/
theorem remove_any (w : World) {qb bm : Nat} {rv : Value} {es : List E} (h : Ln w qb bm rv es) (hh : Hp es es.length) {i : Nat} {e : E} (hi : es[i]? = some e) (hlk : (Instr.lookup 107 (.map (some bm)) (.string e.n) false).run Tryz.prog w = .ok (.int .i64 i) w) :
    Calls Tryz.prog 66 #[.pointer (some ⟨qb, 0, none⟩), .string e.n] w fun r w' => (∃ v, r = .returned v) ∧ ∃ rv' es', Ln w' qb bm rv' es' ∧ Tn w w' qb bm rv rv' ∧ Hp es' es'.length ∧ Wo es es' e := by
  have c1 := h.c1
  go_enter Tryz.func66, Tryz.ntmps66
  go_wp2_with fail
  refine (hremove_any w h hh hi).mono ?_
  rintro r w1 ⟨⟨v, rfl⟩, rv1, es1, hL1, hT1, hH1, hm1⟩
  go_wp2
  go_end0
  exact ⟨⟨_, rfl⟩, rv1, es1, hL1, hT1, hH1, hm1⟩
set_option maxRecDepth 100000 in
set_option maxHeartbeats 1000000 in
/-- line.takeFront. -/
theorem takeFront_any (w : World) {qb bm : Nat} {rv : Value} {es : List E} (h : Ln w qb bm rv es) (hh : Hp es es.length) {f : E} (hf : es[0]? = some f) :
    Calls Tryz.prog 98 #[.pointer (some ⟨qb, 0, none⟩)] w fun r w' => r = .returned (.agg #[.string f.n, .int .u64 f.at_]) ∧ ∃ rv' es', Ln w' qb bm rv' es' ∧ Tn w w' qb bm rv rv' ∧ Hp es' es'.length ∧ Wo es es' f := by
  have hta := run_assert
  have hg0 := World.grownBy_alloc w (.cells #[.string ⟨#[]⟩, .int .u64 0] 91) none
  go_enter Tryz.func98, Tryz.ntmps98
  go_wp2_with fail
  refine (hpop_any _ (h.keep hg0) hh hf).mono ?_
  rintro r w1 ⟨rfl, rv1, es1, hL1, hT1, hH1, hm1⟩
  have hb : w1.heap[w.heap.size]? = some (.cells #[.string ⟨#[]⟩, .int .u64 0] 91 (0, 0)) := by
    rw [hT1.kp.block w.heap.size (by simp) ?_]
    · simpa using heap_alloc_new w (.cells #[.string ⟨#[]⟩, .int .u64 0] 91)
    · rintro (e | e | e)
      · have := h.qbl; omega
      · have := h.bml; omega
      · have := h.rvl _ e; omega
  have d0 : w1.cell? ⟨w.heap.size, 0, none⟩ = some (.string ⟨#[]⟩) := by simp [World.cell?, hb]
  have d1 : w1.cell? ⟨w.heap.size, 1, none⟩ = some (.int .u64 0) := by simp [World.cell?, hb]
  have f0 : ∀ i, w1.frozen? ⟨w.heap.size, i, none⟩ = false := fun i => by simp [World.frozen?, hb]
  go_wp2
  refine bodyPost_ret (v := .agg #[.string f.n, .int .u64 f.at_]) (by rw [results_cell1 rfl]; go_simp) rfl ?_
  have hg2 := (grown_setCell w1 ⟨w.heap.size, 0, none⟩ (.string f.n)).trans (grown_setCell _ ⟨w.heap.size, 1, none⟩ (.int .u64 f.at_))
  have hne : ∀ k, fp qb bm rv1 k → k ≠ w.heap.size := by
    rintro k hk e
    subst e
    have := hT1.own
    rcases hk with e | e | e
    · have := h.qbl; omega
    · have := h.bml; omega
    · rcases hT1.own with ho | ⟨j, hj, hjl⟩
      · have := h.rvl _ (by rw [← ho]; exact e); omega
      · rw [hj] at e; cases e; simp at hjl; omega
  refine ⟨rfl, rv1, es1, hL1.kept fun k hk => hg2.block k (hL1.fpl k hk) (fun e => hne k hk (by cases e; rfl)), ?_, hH1, hm1⟩
  refine ⟨?_, ?_⟩
  · have hk1 := ((Tn.of0 (rv := rv) (qb := qb) (bm := bm) hg0).trans hT1).kp
    exact ⟨hg2.os.trans hk1.os, hg2.tape.trans hk1.tape, hg2.output.trans hk1.output, Nat.le_trans hk1.size hg2.size, fun k hk hn => (hg2.block k (Nat.lt_of_lt_of_le hk hk1.size) (fun e => by have e' : k = w.heap.size := Option.some.inj e; omega)).trans (hk1.block k hk hn)⟩
  · exact ((Tn.of0 (rv := rv) (qb := qb) (bm := bm) hg0).trans hT1).own
theorem set_plc {es : List E} {D : DataW Value} (hP : Plc D es) {i : Nat} {a e : E} (hi : es[i]? = some a) (hn : a.n = e.n) : Plc D (es.set i e) := by
  have hil := (List.getElem?_eq_some_iff.1 hi).1
  refine ⟨fun k x hk => ?_, fun n h => ?_, by rw [hP.size]; simp⟩
  · rw [List.getElem?_set] at hk
    by_cases e1 : i = k
    · subst e1
      rw [if_pos rfl, if_pos hil] at hk
      cases hk
      rw [← hn]
      exact hP.has i a hi
    · rw [if_neg e1] at hk
      exact hP.has k x hk
  · obtain ⟨x, hx, hxn⟩ := hP.all n h
    obtain ⟨k, hk⟩ := List.mem_iff_getElem?.1 hx
    by_cases e1 : i = k
    · subst e1
      rw [hi] at hk
      cases hk
      exact ⟨e, List.mem_of_getElem? (i := i) (by rw [List.getElem?_set, if_pos rfl, if_pos hil]), by rw [← hn]; exact hxn⟩
    · exact ⟨x, List.mem_of_getElem? (i := k) (by rw [List.getElem?_set, if_neg e1]; exact hk), hxn⟩
theorem set_mem {w : World} {qb bm : Nat} {rv : Value} {es : List E} (h : Ln w qb bm rv es) {i : Nat} {a e : E} (hi : es[i]? = some a) (hn : a.n = e.n) (x : E) : x ∈ es.set i e ↔ x = e ∨ (x ∈ es ∧ x.n ≠ e.n) := by
  have hil := (List.getElem?_eq_some_iff.1 hi).1
  constructor
  · intro hx
    obtain ⟨k, hk⟩ := List.mem_iff_getElem?.1 hx
    rw [List.getElem?_set] at hk
    by_cases e1 : i = k
    · subst e1
      rw [if_pos rfl, if_pos hil] at hk
      cases hk
      exact .inl rfl
    · rw [if_neg e1] at hk
      exact .inr ⟨List.mem_of_getElem? hk, fun e' => e1 (h.nodup hi hk (by rw [hn, e']))⟩
  · rintro (rfl | ⟨hx, hne⟩)
    · exact List.mem_of_getElem? (i := i) (by rw [List.getElem?_set, if_pos rfl, if_pos hil])
    · obtain ⟨k, hk⟩ := List.mem_iff_getElem?.1 hx
      refine List.mem_of_getElem? (i := k) ?_
      rw [List.getElem?_set, if_neg ?_]
      · exact hk
      · rintro rfl
        rw [hi] at hk
        cases hk
        exact hne hn
set_option maxRecDepth 100000 in
set_option maxHeartbeats 1000000 in
/-- line.move. -/
theorem move_any (w : World) {qb bm : Nat} {rv : Value} {es : List E} (h : Ln w qb bm rv es) (hh : Hp es es.length) {i : Nat} {a : E} (e : E) (hi : es[i]? = some a) (hn : a.n = e.n) (he : 0 ≤ e.at_ ∧ e.at_ < 18446744073709551616) :
    Calls Tryz.prog 72 #[.pointer (some ⟨qb, 0, none⟩), .agg #[.string e.n, .int .u64 e.at_]] w fun r w' => (∃ v, r = .returned v) ∧ ∃ rv' es', Ln w' qb bm rv' es' ∧ Tn w w' qb bm rv rv' ∧ Hp es' es'.length ∧ ∀ x, x ∈ es' ↔ x = e ∨ (x ∈ es ∧ x.n ≠ e.n) := by
  have hg0 := World.grownBy_alloc w (.cells #[.string e.n, .int .u64 e.at_] 91) none
  have h0 := h.keep hg0
  obtain ⟨ad, cap, rfl⟩ := h.shape
  obtain ⟨g, rfl, hgl, _, k1, k2, f1⟩ := h0.row.at hi
  have hgl' : g < w.heap.size := h.rvl g rfl
  have hsz := (h.ok a (List.mem_of_getElem? hi)).1
  rw [hn] at hsz
  have hil : i < es.length := (List.getElem?_eq_some_iff.1 hi).1
  have hl := h.len
  have hng : w.heap.size ≠ g := by omega
  have hng' : g ≠ w.heap.size := by omega
  obtain ⟨D, hM, hP⟩ := h0.mp
  obtain ⟨c, hlk0, _, hat⟩ := hM.look hsz
  have hc : c = i := by
    have := (hP.has i a hi).2
    rw [hn, hat] at this
    simpa using this
  subst hc
  have hlk : (Instr.lookup 107 (.map (some bm)) (.string e.n) false).run Tryz.prog (w.alloc (.cells #[.string e.n, .int .u64 e.at_] 91)).drew = .ok (.int .i64 i) (w.alloc (.cells #[.string e.n, .int .u64 e.at_] 91)).drew := by
    obtain ⟨c, hlk1, _, hat1⟩ := (show Mp (w.alloc (.cells #[.string e.n, .int .u64 e.at_] 91)).drew bm D from hM).look hsz
    rw [hat] at hat1
    have : (i : Int) = c := by simpa using hat1
    rw [this]; exact hlk1
  have c0 := h0.c0
  have c1 := h0.c1
  have e0 : (w.alloc (.cells #[.string e.n, .int .u64 e.at_] 91)).cell? ⟨w.heap.size, 0, none⟩ = some (.string e.n) := by simp
  have e1 : (w.alloc (.cells #[.string e.n, .int .u64 e.at_] 91)).cell? ⟨w.heap.size, 1, none⟩ = some (.int .u64 e.at_) := by simp
  have hsp : Hid (es[i]? = some a ∧ a.n = e.n) := ⟨hi, hn⟩
  clear hn hi hlk0 hat
  go_enter Tryz.func72, Tryz.ntmps72
  go_wp2_with fail
  generalize hw0 : w.alloc (.cells #[.string e.n, .int .u64 e.at_] 91) = w0 at *
  go_region
  go_wp2_with fail
  go_region
  generalize hw1 : World.drew _ = w1
  have hg1 : w0.grownBy w1 (some g) := by
    rw [← hw1]
    exact ((grown_setCell w0 ⟨g, i * 2, none⟩ _).trans (grown_setCell _ ⟨g, i * 2 + 1, none⟩ _)).trans (((grown_drew _).but _).trans ((grown_drew _).but _))
  have hr1 : Rw 91 w1 (.slice (some ⟨g, 0, none⟩) es.length cap) (es.set i e) := by
    rw [← hw1]
    exact Rw.set h0.row i e hil
  clear hw1
  have hL1 : Ln w1 qb bm (.slice (some ⟨g, 0, none⟩) es.length cap) (es.set i e) := ⟨(hg1.block qb h0.qbl (fun e => h.nq (by rw [e]; rfl))).trans h0.blk, by simpa using hr1, ⟨D, hM.kept (hg1.block bm h0.bml (fun e => h.nm (by rw [e]; rfl))), set_plc hP hsp.out.1 hsp.out.2⟩, h.nq, h.nm, fun x hx => by
    rcases (set_mem h hsp.out.1 hsp.out.2 x).1 hx with rfl | ⟨hx, _⟩
    · exact ⟨hsz, he⟩
    · exact h.ok x hx, by simpa using hl⟩
  have hT1 : Tn w w1 qb bm (.slice (some ⟨g, 0, none⟩) es.length cap) (.slice (some ⟨g, 0, none⟩) es.length cap) := (Tn.of0 hg0).trans ⟨Kp.of hg1 fun k hk => .inr (.inr hk), .inl rfl⟩
  go_wp2_with fail
  refine (fix_any w1 hL1 i (by simpa using hil) (by simpa using hh.turn (i := i) (e := e) hil (Nat.le_refl _))).mono ?_
  rintro r w2 ⟨rfl, es2, hL2, hT2, hH2, hm2⟩
  go_wp2_with fail
  go_end0
  exact ⟨⟨_, rfl⟩, _, es2, hL2, hT1.trans hT2, hH2, fun x => (hm2 x).trans (set_mem h hsp.out.1 hsp.out.2 x)⟩
set_option maxRecDepth 100000 in
set_option maxHeartbeats 1000000 in
/-- Queue.Put. -/
theorem put_any (w : World) {S : Nat → Prop} {qb : Nat} {L : List E} (h : Qu S w qb L) (e : E) (he : e.n.size ≤ maxLen ∧ 0 ≤ e.at_ ∧ e.at_ < 18446744073709551616) (hl : L.length < 100000) :
    Calls Tryz.prog 46 #[.pointer (some ⟨qb, 0, none⟩), .string e.n, .int .u64 e.at_] w fun r w' => r = .returned (.bool (hasN e.n L)) ∧ Qu (Gw S w w') w' qb (putE e L) ∧ Kp S w w' := by
  obtain ⟨⟨bm, rv, es, hL, hH, hm, hS⟩, hs⟩ := h
  have hel := Qu.len (S := S) hL hm hs
  have c1 := hL.c1
  rcases hL.look he.1 with ⟨i, x, hi, hxn, _, hlk⟩ | ⟨hno, c, hlk⟩
  · have hhas : hasN e.n L = true := hasN_iff.2 ⟨x, (hm x).1 (List.mem_of_getElem? hi), hxn⟩
    have hfin : ∀ (w' : World) (rv' : Value) (es' : List E), Ln w' qb bm rv' es' → Tn w w' qb bm rv rv' → Hp es' es'.length → (∀ y, y ∈ es' ↔ y = e ∨ (y ∈ es ∧ y.n ≠ e.n)) → Qu (Gw S w w') w' qb (putE e L) ∧ Kp S w w' :=
      fun w' rv' es' a1 a2 a3 a4 => Qu.turn hS a1 a2 a3 (fun y => by rw [a4, mem_putE, hm]) (hs.put e)
    rw [hhas]
    replace hfin : Hid _ := ⟨hfin⟩
    replace hxn : Hid _ := ⟨hxn⟩
    clear hhas
    go_enter Tryz.func46, Tryz.ntmps46
    go_wp2_with fail
    refine (move_any w hL hH e hi hxn.out he.2).mono ?_
    rintro r w2 ⟨⟨v, rfl⟩, rv2, es2, hL2, hT2, hH2, hm2⟩
    go_wp2
    go_ret
    exact ⟨rfl, hfin.out w2 rv2 es2 hL2 hT2 hH2 hm2⟩
  · have hhas : hasN e.n L = false := hasN_not.2 fun x hx => hno x ((hm x).2 hx)
    have hfin : ∀ (w' : World) (rv' : Value) (es' : List E), Ln w' qb bm rv' es' → Tn w w' qb bm rv rv' → Hp es' es'.length → (∀ y, y ∈ es' ↔ y ∈ es ∨ y = e) → Qu (Gw S w w') w' qb (putE e L) ∧ Kp S w w' :=
      fun w' rv' es' a1 a2 a3 a4 => Qu.turn hS a1 a2 a3 (fun y => by
        rw [a4, mem_putE, hm]
        constructor
        · rintro (h | h)
          · exact .inr ⟨h, hno y ((hm y).2 h)⟩
          · exact .inl h
        · rintro (h | h)
          · exact .inr h
          · exact .inl h.1) (hs.put e)
    rw [hhas]
    replace hfin : Hid _ := ⟨hfin⟩
    clear hhas
    go_enter Tryz.func46, Tryz.ntmps46
    go_wp2_with fail
    refine (add_any w hL hH e hno he (by omega)).mono ?_
    rintro r w2 ⟨⟨v, rfl⟩, rv2, es2, hL2, hT2, hH2, hm2⟩
    go_wp2
    go_ret
    exact ⟨rfl, hfin.out w2 rv2 es2 hL2 hT2 hH2 hm2⟩
set_option maxRecDepth 100000 in
set_option maxHeartbeats 1000000 in
theorem put_nil (w : World) (n : ByteArray) (a : Int) : Calls Tryz.prog 46 #[.pointer none, .string n, .int .u64 a] w fun r w' => r = .returned (.bool false) ∧ w' = w := by
  go_enter Tryz.func46, Tryz.ntmps46
  go_wp2
  go_ret
  exact ⟨rfl, rfl⟩
set_option maxRecDepth 100000 in
set_option maxHeartbeats 1000000 in
/-- Queue.Drop. -/
theorem drop_any (w : World) {S : Nat → Prop} {qb : Nat} {L : List E} (h : Qu S w qb L) (n : ByteArray) (hn : n.size ≤ maxLen) :
    Calls Tryz.prog 43 #[.pointer (some ⟨qb, 0, none⟩), .string n] w fun r w' => r = .returned (.bool (hasN n L)) ∧ Qu (Gw S w w') w' qb (delN n L) ∧ Kp S w w' := by
  have hQ := h
  obtain ⟨⟨bm, rv, es, hL, hH, hm, hS⟩, hs⟩ := h
  rcases hL.look hn with ⟨i, x, hi, hxn, hlk, _⟩ | ⟨hno, c, hlk⟩
  · subst hxn
    have hxm := (hm x).1 (List.mem_of_getElem? hi)
    have hhas : hasN x.n L = true := hasN_iff.2 ⟨x, hxm, rfl⟩
    have hget := hs.get hxm
    rw [hhas]
    clear hhas
    go_enter Tryz.func43, Tryz.ntmps43
    go_wp2_with fail
    refine (at_some w hQ hn hget).mono ?_
    rintro r w1 ⟨rfl, rfl⟩
    go_wp2_with fail
    refine (remove_any w1 hL hH hi hlk).mono ?_
    rintro r w2 ⟨⟨v, rfl⟩, rv2, es2, hL2, hT2, hH2, hm2⟩
    go_wp2
    go_ret
    exact ⟨rfl, Qu.turn hS hL2 hT2 hH2 (fun y => by rw [hm2 y, mem_delN, hm]) (hs.del _)⟩
  · have hhas : hasN n L = false := hasN_not.2 fun x hx => hno x ((hm x).2 hx)
    have hdel := delN_not hhas
    rw [hdel, hhas]
    go_enter Tryz.func43, Tryz.ntmps43
    go_wp2_with fail
    refine (at_none w hQ hn hhas).mono ?_
    rintro r w1 ⟨rfl, rfl⟩
    go_wp2
    go_ret
    exact ⟨rfl, hQ.mono fun k hk => .inl hk, Kp.refl _ _⟩
set_option maxRecDepth 100000 in
set_option maxHeartbeats 1000000 in
theorem drop_nil (w : World) (n : ByteArray) : Calls Tryz.prog 43 #[.pointer none, .string n] w fun r w' => r = .returned (.bool false) ∧ w' = w := by
  go_enter Tryz.func43, Tryz.ntmps43
  go_wp2_with fail
  refine (at_nil w n).mono ?_
  rintro r w1 ⟨rfl, rfl⟩
  go_wp2
  go_ret
  exact ⟨rfl, rfl⟩
end Go.Proofs.YtblnhcnfeagjhaaGreatDoor.Q

/- Queue.Front, Queue.Pop. -/
namespace Go.Proofs.YtblnhcnfeagjhaaGreatDoor.Q
open Go.RowKit Go.IntWalk Go.Maps
set_option linter.unusedVariables false
theorem heap_first {es L : List E} {f : E} (hH : Hp es es.length) (hm : ∀ x, x ∈ es ↔ x ∈ f :: L) (hs : Srt (f :: L)) : es[0]? = some f := by
  have hfm : f ∈ es := (hm f).2 (by simp)
  obtain ⟨k, hk⟩ := List.mem_iff_getElem?.1 hfm
  have hkl := (List.getElem?_eq_some_iff.1 hk).1
  obtain ⟨a, ha⟩ := some_at (es := es) (k := 0) (by omega)
  have h1 := hH.least (Nat.le_refl _) ha k f hkl hk
  rcases List.mem_cons.1 ((hm a).1 (List.mem_of_getElem? ha)) with e | e
  · rw [ha, e]
  · exact absurd (hs.head.1 a e) h1
/-- A block of one's own: a struct of two cells. -/
theorem own_two {w w1 : World} {a b : Value} (hb : w1.heap[w.heap.size]? = some (.cells #[a, b] 91 (0, 0))) : w1.cell? ⟨w.heap.size, 0, none⟩ = some a ∧ w1.cell? ⟨w.heap.size, 1, none⟩ = some b ∧ ∀ i, w1.frozen? ⟨w.heap.size, i, none⟩ = false :=
  ⟨by simp [World.cell?, hb], by simp [World.cell?, hb], fun i => by simp [World.frozen?, hb]⟩
theorem set_two (w1 : World) (B : Nat) (u v : Value) : w1.grownBy ((w1.setCell ⟨B, 0, none⟩ u).setCell ⟨B, 1, none⟩ v) (some B) := (grown_setCell w1 ⟨B, 0, none⟩ u).trans (grown_setCell _ ⟨B, 1, none⟩ v)
set_option maxRecDepth 100000 in
set_option maxHeartbeats 1000000 in
theorem first_front (w : World) {S : Nat → Prop} {qb : Nat} {f : E} {L : List E} (h : Qu S w qb (f :: L)) :
    Calls Tryz.prog 119 #[.pointer (some ⟨qb, 0, none⟩), .func (.func 120) #[] #[]] w fun r w' => r = .returned (.tuple #[.agg #[.string f.n, .int .u64 f.at_], .bool true]) ∧ w.grownBy w' none := by
  have hg0 := World.grownBy_alloc w (.cells #[.string ⟨#[]⟩, .int .u64 0] 91) none
  have h0 : Qu S (w.alloc (.cells #[.string ⟨#[]⟩, .int .u64 0] 91)) qb (f :: L) := h.kept fun k _ hk => hg0.block k hk (by simp)
  obtain ⟨⟨bm, rv, es, hL, hH, hm, hS⟩, hs⟩ := id h0
  have hf := heap_first hH hm hs
  have hd : (((L.length : Int) + 1) == 0) = false := by simp; omega
  go_enter Tryz.func119, Tryz.ntmps119
  go_wp2_with fail
  refine (len_any _ h0).mono ?_
  rintro r w1 ⟨rfl, rfl⟩
  go_wp2_with fail
  refine (front_any _ hL hf).mono ?_
  rintro r w1 ⟨rfl, hg1⟩
  obtain ⟨d0, d1, f0⟩ := own_two (w := w) (w1 := w1) (by rw [hg1.block w.heap.size (by simp) (by simp)]; simpa using heap_alloc_new w (.cells #[.string ⟨#[]⟩, .int .u64 0] 91))
  go_wp2
  refine bodyPost_ret (v := .tuple #[.agg #[.string f.n, .int .u64 f.at_], .bool true]) (by rw [results_cell_tmp rfl]; go_simp) rfl ?_
  exact ⟨rfl, grown_new (grown_none hg0 hg1) (set_two w1 w.heap.size _ _) (Nat.le_refl _)⟩
set_option maxRecDepth 100000 in
set_option maxHeartbeats 1000000 in
theorem first_none (w : World) {S : Nat → Prop} {qb : Nat} (h : Qu S w qb []) (v : Value) :
    Calls Tryz.prog 119 #[.pointer (some ⟨qb, 0, none⟩), v] w fun r w' => r = .returned (.tuple #[.agg #[.string ⟨#[]⟩, .int .u64 0], .bool false]) ∧ w.grownBy w' none := by
  have hg0 := World.grownBy_alloc w (.cells #[.string ⟨#[]⟩, .int .u64 0] 91) none
  have h0 : Qu S (w.alloc (.cells #[.string ⟨#[]⟩, .int .u64 0] 91)) qb [] := h.kept fun k _ hk => hg0.block k hk (by simp)
  go_enter Tryz.func119, Tryz.ntmps119
  go_wp2_with fail
  refine (len_any _ h0).mono ?_
  rintro r w1 ⟨rfl, rfl⟩
  go_wp2
  refine bodyPost_ret (v := .tuple #[.agg #[.string ⟨#[]⟩, .int .u64 0], .bool false]) (by rw [results_cell_tmp rfl]; go_simp) rfl ?_
  exact ⟨rfl, World.grownBy_alloc w _ none⟩
set_option maxRecDepth 100000 in
set_option maxHeartbeats 1000000 in
theorem first_nil (w : World) (v : Value) :
    Calls Tryz.prog 119 #[.pointer none, v] w fun r w' => r = .returned (.tuple #[.agg #[.string ⟨#[]⟩, .int .u64 0], .bool false]) ∧ w.grownBy w' none := by
  go_enter Tryz.func119, Tryz.ntmps119
  go_wp2_with fail
  refine (len_nil _).mono ?_
  rintro r w1 ⟨rfl, rfl⟩
  go_wp2
  refine bodyPost_ret (v := .tuple #[.agg #[.string ⟨#[]⟩, .int .u64 0], .bool false]) (by rw [results_cell_tmp rfl]; go_simp) rfl ?_
  exact ⟨rfl, World.grownBy_alloc w _ none⟩
/-- A block of one's own was written. -/
theorem Kp.own {S : Nat → Prop} {w w0 w1 w2 : World} (hg0 : w.grownBy w0 none) (hk : Kp S w0 w1) (hg2 : w1.grownBy w2 (some w.heap.size)) : Kp S w w2 :=
  ⟨hg2.os.trans (hk.os.trans hg0.os), hg2.tape.trans (hk.tape.trans hg0.tape), hg2.output.trans (hk.output.trans hg0.output), Nat.le_trans hg0.size (Nat.le_trans hk.size hg2.size), fun k hkl hn =>
    (hg2.block k (by have := hg0.size; have := hk.size; omega) (fun e => by have e' : k = w.heap.size := Option.some.inj e; omega)).trans ((hk.block k (Nat.lt_of_lt_of_le hkl hg0.size) hn).trans (hg0.block k hkl (by simp)))⟩
theorem Qu.fpb {S : Nat → Prop} {w : World} {qb : Nat} {L : List E} (h : Qu S w qb L) : Qu (fun k => S k ∧ k < w.heap.size) w qb L := by
  obtain ⟨⟨bm, rv, es, h1, h2, h3, h4⟩, h5⟩ := h
  exact ⟨⟨bm, rv, es, h1, h2, h3, fun k hk => ⟨h4 k hk, h1.fpl k hk⟩⟩, h5⟩
set_option maxRecDepth 100000 in
set_option maxHeartbeats 1000000 in
theorem first_take (w : World) {S : Nat → Prop} {qb : Nat} {f : E} {L : List E} (h : Qu S w qb (f :: L)) (hSl : ∀ k, S k → k < w.heap.size) :
    Calls Tryz.prog 119 #[.pointer (some ⟨qb, 0, none⟩), .func (.func 98) #[] #[]] w fun r w' => r = .returned (.tuple #[.agg #[.string f.n, .int .u64 f.at_], .bool true]) ∧ Qu (Gw S w w') w' qb L ∧ Kp S w w' := by
  have hg0 := World.grownBy_alloc w (.cells #[.string ⟨#[]⟩, .int .u64 0] 91) none
  have h0 : Qu S (w.alloc (.cells #[.string ⟨#[]⟩, .int .u64 0] 91)) qb (f :: L) := h.kept fun k _ hk => hg0.block k hk (by simp)
  obtain ⟨⟨bm, rv, es, hL, hH, hm, hS⟩, hs⟩ := id h0
  have hf := heap_first hH hm hs
  have hd : (((L.length : Int) + 1) == 0) = false := by simp; omega
  go_enter Tryz.func119, Tryz.ntmps119
  go_wp2_with fail
  refine (len_any _ h0).mono ?_
  rintro r w1 ⟨rfl, rfl⟩
  go_wp2_with fail
  refine (takeFront_any _ hL hH hf).mono ?_
  rintro r w1 ⟨rfl, rv1, es1, hL1, hT1, hH1, hm1⟩
  have hd1 : ∀ x, x ∈ es1 ↔ x ∈ L := fun x => by
    have h4 := mem_delN (n := f.n) (L := f :: L) (x := x)
    rw [hs.head.2.2] at h4
    rw [hm1 x, hm x, h4]
  obtain ⟨hQ1, hK1⟩ := Qu.turn hS hL1 hT1 hH1 hd1 hs.head.2.1
  have hnS : ¬ S w.heap.size := fun e => by have := hSl _ e; omega
  obtain ⟨d0, d1, f0⟩ := own_two (w := w) (w1 := w1) (by rw [hK1.block w.heap.size (by simp) hnS]; simpa using heap_alloc_new w (.cells #[.string ⟨#[]⟩, .int .u64 0] 91))
  go_wp2
  refine bodyPost_ret (v := .tuple #[.agg #[.string f.n, .int .u64 f.at_], .bool true]) (by rw [results_cell_tmp rfl]; go_simp) rfl ?_
  have hg2 := set_two w1 w.heap.size (.string f.n) (.int .u64 f.at_)
  refine ⟨rfl, (hQ1.kept fun k hk hkl => hg2.block k hkl fun e => ?_).mono fun k hk => ?_, Kp.own hg0 hK1 hg2⟩
  · have e' : k = w.heap.size := Option.some.inj e
    rcases hk with hk | hk
    · have := hSl k hk; omega
    · have := hk.1; simp at this; omega
  · rcases hk with hk | hk
    · exact .inl hk
    · exact .inr ⟨by have := hk.1; simp at this; omega, Nat.lt_of_lt_of_le hk.2 hg2.size⟩
set_option maxRecDepth 100000 in
set_option maxHeartbeats 1000000 in
/-- Queue.Front. -/
theorem front_some (w : World) {S : Nat → Prop} {qb : Nat} {f : E} {L : List E} (h : Qu S w qb (f :: L)) :
    Calls Tryz.prog 97 #[.pointer (some ⟨qb, 0, none⟩)] w fun r w' => r = .returned (.tuple #[.agg #[.string f.n, .int .u64 f.at_], .bool true]) ∧ w.grownBy w' none := by
  have hg0 := World.grownBy_alloc w (.cells #[.string ⟨#[]⟩, .int .u64 0] 91) none
  have h0 : Qu S (w.alloc (.cells #[.string ⟨#[]⟩, .int .u64 0] 91)) qb (f :: L) := h.kept fun k _ hk => hg0.block k hk (by simp)
  go_enter Tryz.func97, Tryz.ntmps97
  go_wp2_with fail
  refine (first_front _ h0).mono ?_
  rintro r w1 ⟨rfl, hg1⟩
  obtain ⟨d0, d1, f0⟩ := own_two (w := w) (w1 := w1) (by rw [hg1.block w.heap.size (by simp) (by simp)]; simpa using heap_alloc_new w (.cells #[.string ⟨#[]⟩, .int .u64 0] 91))
  go_wp2
  refine bodyPost_ret (v := .tuple #[.agg #[.string f.n, .int .u64 f.at_], .bool true]) (by rw [results_cell_tmp rfl]; go_simp) rfl ?_
  exact ⟨rfl, grown_new (grown_none hg0 hg1) (set_two w1 w.heap.size _ _) (Nat.le_refl _)⟩
set_option maxRecDepth 100000 in
set_option maxHeartbeats 1000000 in
theorem front_no (w : World) (q : Option Addr) (hc : ∀ w', w.grownBy w' none → Calls Tryz.prog 119 #[.pointer q, .func (.func 120) #[] #[]] w' fun r w'' => r = .returned (.tuple #[.agg #[.string ⟨#[]⟩, .int .u64 0], .bool false]) ∧ w'.grownBy w'' none) :
    Calls Tryz.prog 97 #[.pointer q] w fun r w' => r = .returned (.tuple #[.agg #[.string ⟨#[]⟩, .int .u64 0], .bool false]) ∧ w.grownBy w' none := by
  have hg0 := World.grownBy_alloc w (.cells #[.string ⟨#[]⟩, .int .u64 0] 91) none
  replace hc : Hid _ := ⟨hc⟩
  go_enter Tryz.func97, Tryz.ntmps97
  go_wp2_with fail
  refine (hc.out _ hg0).mono ?_
  rintro r w1 ⟨rfl, hg1⟩
  obtain ⟨d0, d1, f0⟩ := own_two (w := w) (w1 := w1) (by rw [hg1.block w.heap.size (by simp) (by simp)]; simpa using heap_alloc_new w (.cells #[.string ⟨#[]⟩, .int .u64 0] 91))
  go_wp2
  refine bodyPost_ret (v := .tuple #[.agg #[.string ⟨#[]⟩, .int .u64 0], .bool false]) (by rw [results_cell_tmp rfl]; go_simp) rfl ?_
  exact ⟨rfl, grown_new (grown_none hg0 hg1) (set_two w1 w.heap.size _ _) (Nat.le_refl _)⟩
theorem front_none (w : World) {S : Nat → Prop} {qb : Nat} (h : Qu S w qb []) :
    Calls Tryz.prog 97 #[.pointer (some ⟨qb, 0, none⟩)] w fun r w' => r = .returned (.tuple #[.agg #[.string ⟨#[]⟩, .int .u64 0], .bool false]) ∧ w.grownBy w' none :=
  front_no w _ fun w' hg => first_none w' (h.kept fun k _ hk => hg.block k hk (by simp)) _
theorem front_nil (w : World) : Calls Tryz.prog 97 #[.pointer none] w fun r w' => r = .returned (.tuple #[.agg #[.string ⟨#[]⟩, .int .u64 0], .bool false]) ∧ w.grownBy w' none :=
  front_no w _ fun w' hg => first_nil w' _
set_option maxRecDepth 100000 in
set_option maxHeartbeats 1000000 in
/-- Queue.Pop. -/
theorem pop_some (w : World) {S : Nat → Prop} {qb : Nat} {f : E} {L : List E} (h : Qu S w qb (f :: L)) (hSl : ∀ k, S k → k < w.heap.size) :
    Calls Tryz.prog 172 #[.pointer (some ⟨qb, 0, none⟩)] w fun r w' => r = .returned (.tuple #[.agg #[.string f.n, .int .u64 f.at_], .bool true]) ∧ Qu (Gw S w w') w' qb L ∧ Kp S w w' := by
  have hg0 := World.grownBy_alloc w (.cells #[.string ⟨#[]⟩, .int .u64 0] 91) none
  have h0 : Qu S (w.alloc (.cells #[.string ⟨#[]⟩, .int .u64 0] 91)) qb (f :: L) := h.kept fun k _ hk => hg0.block k hk (by simp)
  go_enter Tryz.func172, Tryz.ntmps172
  go_wp2_with fail
  refine (first_take _ h0 (fun k hk => Nat.lt_of_lt_of_le (hSl k hk) hg0.size)).mono ?_
  rintro r w1 ⟨rfl, hQ1, hK1⟩
  have hnS : ¬ S w.heap.size := fun e => by have := hSl _ e; omega
  obtain ⟨d0, d1, f0⟩ := own_two (w := w) (w1 := w1) (by rw [hK1.block w.heap.size (by simp) hnS]; simpa using heap_alloc_new w (.cells #[.string ⟨#[]⟩, .int .u64 0] 91))
  go_wp2
  refine bodyPost_ret (v := .tuple #[.agg #[.string f.n, .int .u64 f.at_], .bool true]) (by rw [results_cell_tmp rfl]; go_simp) rfl ?_
  have hg2 := set_two w1 w.heap.size (.string f.n) (.int .u64 f.at_)
  refine ⟨rfl, (hQ1.kept fun k hk hkl => hg2.block k hkl fun e => ?_).mono fun k hk => ?_, Kp.own hg0 hK1 hg2⟩
  · have e' : k = w.heap.size := Option.some.inj e
    rcases hk with hk | hk
    · have := hSl k hk; omega
    · have := hk.1; simp at this; omega
  · rcases hk with hk | hk
    · exact .inl hk
    · exact .inr ⟨by have := hk.1; simp at this; omega, Nat.lt_of_lt_of_le hk.2 hg2.size⟩
set_option maxRecDepth 100000 in
set_option maxHeartbeats 1000000 in
theorem pop_no (w : World) (q : Option Addr) (hc : ∀ w', w.grownBy w' none → Calls Tryz.prog 119 #[.pointer q, .func (.func 98) #[] #[]] w' fun r w'' => r = .returned (.tuple #[.agg #[.string ⟨#[]⟩, .int .u64 0], .bool false]) ∧ w'.grownBy w'' none) :
    Calls Tryz.prog 172 #[.pointer q] w fun r w' => r = .returned (.tuple #[.agg #[.string ⟨#[]⟩, .int .u64 0], .bool false]) ∧ w.grownBy w' none := by
  have hg0 := World.grownBy_alloc w (.cells #[.string ⟨#[]⟩, .int .u64 0] 91) none
  replace hc : Hid _ := ⟨hc⟩
  go_enter Tryz.func172, Tryz.ntmps172
  go_wp2_with fail
  refine (hc.out _ hg0).mono ?_
  rintro r w1 ⟨rfl, hg1⟩
  obtain ⟨d0, d1, f0⟩ := own_two (w := w) (w1 := w1) (by rw [hg1.block w.heap.size (by simp) (by simp)]; simpa using heap_alloc_new w (.cells #[.string ⟨#[]⟩, .int .u64 0] 91))
  go_wp2
  refine bodyPost_ret (v := .tuple #[.agg #[.string ⟨#[]⟩, .int .u64 0], .bool false]) (by rw [results_cell_tmp rfl]; go_simp) rfl ?_
  exact ⟨rfl, grown_new (grown_none hg0 hg1) (set_two w1 w.heap.size _ _) (Nat.le_refl _)⟩
theorem pop_none (w : World) {S : Nat → Prop} {qb : Nat} (h : Qu S w qb []) :
    Calls Tryz.prog 172 #[.pointer (some ⟨qb, 0, none⟩)] w fun r w' => r = .returned (.tuple #[.agg #[.string ⟨#[]⟩, .int .u64 0], .bool false]) ∧ w.grownBy w' none :=
  pop_no w _ fun w' hg => first_none w' (h.kept fun k _ hk => hg.block k hk (by simp)) _
theorem pop_nil (w : World) : Calls Tryz.prog 172 #[.pointer none] w fun r w' => r = .returned (.tuple #[.agg #[.string ⟨#[]⟩, .int .u64 0], .bool false]) ∧ w.grownBy w' none :=
  pop_no w _ fun w' hg => first_nil w' _
end Go.Proofs.YtblnhcnfeagjhaaGreatDoor.Q
