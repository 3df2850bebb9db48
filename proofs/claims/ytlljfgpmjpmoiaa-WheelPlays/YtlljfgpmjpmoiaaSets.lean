/- Sets of timers: add, timers, empty, inOrder, and the least one. -/
import Derived.Test.YtlljfgpmjpmoiaaFig
import Derived.Shelf.SlSortCmp.NoneTotal
import Derived.Sort.KeysCollected
import Derived.Sort.OwnSorted
namespace Go.Proofs.Ytlljfgpmjpmoiaa
open Go.RowKit Go.IntWalk Go.Maps Go.Shelf
set_option linter.unusedVariables false
set_option maxRecDepth 100000 in
set_option maxHeartbeats 1000000 in
/-- set.add. -/
theorem add_any (w : World) {b : Nat} {l l' : List E} (h : Sset w b l) (hl : l.length < maxLen) {e : E} (he : e.ok) (hn : l'.Nodup) (hm : ∀ x, x ∈ l' ↔ x = e ∨ x ∈ l) :
    Calls Try.prog 27 #[.map (some b), .agg #[.string e.n, .int .u64 e.at_]] w fun r w' => r = .returned (.tuple #[]) ∧ Sset w' b l' ∧ w.grownBy w' (some b) := by
  have hg1 := World.grownBy_alloc w (.cells #[.string e.n, .int .u64 e.at_] 52) none
  obtain ⟨w2, hrun, hs2, hg2⟩ := (h.kept (w' := w.alloc (.cells #[.string e.n, .int .u64 e.at_] 52)) (hg1.block b h.lt (by simp))).store hl he hn hm
  replace hg2 : Hid _ := ⟨hg2⟩
  replace hs2 : Hid _ := ⟨hs2⟩
  go_enter Try.func27, Try.ntmps27
  go_wp2
  go_end0
  exact ⟨rfl, hs2.out, grown_same hg1 hg2.out⟩
theorem wpList_append_run {ops : Array Oper} {rest : List Oper} {o : Oper} {a : Act} {w : World} {Q : Exit → Act → World → Prop} (hg : o.guard = none) (sl x : Operand) (t : TypeId) (hop : o.op = Op.call { callee := Callee.builtin Builtin.append, args := #[sl, x], argTypes := #[t, t] })
    (v u : Value) (hs : a.eval sl = v) (hx : a.eval x = u) {v' : Value} {w' : World} (hrun : (Builtin.append_ #[t, t] o.type #[v, u]).run Try.prog w = .ok v' w') (hK : wpList Try.prog ops Q rest (a.put o.dst v') w') :
    wpList Try.prog ops Q (o :: rest) a w := by
  refine wpList_plain hg fun K hK' => ?_
  unfold Oper.wp
  simp [execOp, hop, resolve, invoke, builtin, hs, hx, hrun, Result.andThen]
  exact hK' _ _ hK
theorem Try.info52 : (Try.prog.info? 52).map (fun i => (i.zero, i.size, i.bytes)) = some (some (.agg #[.string ByteArray.empty, .int .u64 0]), 2, 24) := by kernel_rfl
/-- 'append(l, e)', e anywhere in memory. -/
theorem run_append_t (w : World) (rv : Value) (es : List E) (e : E) (B : Nat) (hB : w.cell? ⟨B, 0, none⟩ = some (.string e.n) ∧ w.cell? ⟨B, 1, none⟩ = some (.int .u64 e.at_)) (hrow : Rw 52 w rv es) (hl : es.length ≤ 1000000) (ty : TypeId) :
    ∃ a cap w', (Builtin.append_ #[36, 36] ty #[rv, .slice (some ⟨B, 0, none⟩) 1 1]).run Try.prog w = .ok (.slice a (es.length + 1) cap) w' ∧ Rw 52 w' (.slice a (es.length + 1) cap) (es ++ [e]) ∧ w.grownBy w' rv.ownBlock ∧
      ((Value.slice a (es.length + 1) cap).ownBlock = rv.ownBlock ∨ ∃ k, (Value.slice a (es.length + 1) cap).ownBlock = some k ∧ w.heap.size ≤ k) := by
  obtain ⟨i0, hi, hz0, hz1, hz2⟩ := info_parts Try.info52
  obtain ⟨v', w', hrun, h1, h2, _, h4⟩ := run_append_own_at (P := Try.prog) (w := w) 0 36 ty 52 i0 (.agg #[.string ByteArray.empty, .int .u64 0]) 2 24 Try.underlying36 hi hz0 hz1 hz2 rfl (by decide) rv es.length _ hrow ⟨B, 0, none⟩ 1 1 e.cells rfl (fun j u hj => by
    rw [addr_add, Nat.zero_add]
    match j, hj with
    | 0, hj => simp [E.cells] at hj; subst hj; exact hB.1
    | 1, hj => simp [E.cells] at hj; subst hj; exact hB.2
    | j + 2, hj => simp [E.cells] at hj) (fun u hu => by
    simp only [E.cells, List.mem_cons, List.not_mem_nil, or_false] at hu
    rcases hu with rfl | rfl <;> rfl) (by unfold maxLen; omega) (by omega) (by omega)
  have hlen : (es ++ [e]).length = es.length + 1 := by simp
  have hce : cellsE es ++ e.cells = cellsE (es ++ [e]) := by rw [cellsE_app]; simp [cellsE]
  rw [hce] at h1
  obtain ⟨a, cap, rfl⟩ : ∃ a cap, v' = .slice a (es.length + 1) cap := by
    rcases h1.2 with ⟨_, h0⟩ | ⟨g, c, cur, e1, _⟩
    · omega
    · exact ⟨_, _, e1⟩
  refine ⟨a, cap, w', hrun, by unfold Rw; rw [hlen]; exact h1, h2, ?_⟩
  rcases h4 with h4 | h4
  · exact .inl h4
  · exact .inr ⟨_, h4, by simp⟩
/-- ss: the timers that have come. -/
def Come (l : List E) (left : Lit → Bool) (ss : List E) : Prop := ss.Nodup ∧ ∀ x, x ∈ ss ↔ (x ∈ l ∧ left (kyE x) = false)
theorem Come.start {D : DataW Value} {l : List E} (h : ∀ e ∈ l, Maps.has D (kyE e) = true) : Come l (Maps.has D) [] := ⟨List.nodup_nil, fun x => by
  constructor
  · intro hx; cases hx
  · rintro ⟨hx, h2⟩; rw [h x hx] at h2; cases h2⟩
theorem Come.step {l : List E} {left : Lit → Bool} {ss : List E} (h : Come l left ss) (hok : ∀ e ∈ l, e.ok) {x : E} (hlk : left (kyE x) = true) (hx : x ∈ l) : Come l (fun z => left z && !z.sameKey (kyE x)) (ss ++ [x]) := by
  have hxs : x ∉ ss := fun hm => by
    have := ((h.2 x).1 hm).2
    rw [hlk] at this
    cases this
  refine ⟨List.nodup_append.2 ⟨h.1, by simp, fun a ha b hb => by simp at hb; rintro rfl; exact hxs (hb ▸ ha)⟩, fun y => ?_⟩
  simp only [List.mem_append, List.mem_singleton, h.2 y]
  by_cases hyx : y = x
  · subst hyx
    have : (kyE y).sameKey (kyE y) = true := WideAt.sameKey_self (kyE_key y)
    simp [hx, this]
  · by_cases hyl : y ∈ l
    · have : (kyE y).sameKey (kyE x) = false := sameKey_ne fun e => hyx (kyE_inj (hok y hyl) (hok x hx) e)
      simp [hyx, hyl, this]
    · simp [hyx, hyl]
theorem Come.done {l : List E} {left : Lit → Bool} {ss : List E} (h : Come l left ss) (hl : ∀ kl, left kl = false) : ∀ x, x ∈ ss ↔ x ∈ l := fun x => by rw [h.2 x, hl]; simp
set_option maxRecDepth 100000 in
set_option maxHeartbeats 2000000 in
/-- set.timers. -/
theorem timers_any (w : World) {b : Nat} {l : List E} (h : Sset w b l) (hl : l.length ≤ 100000) :
    Calls Try.prog 37 #[.map (some b)] w fun r w' => ∃ g cap ss, r = .returned (.slice (some ⟨g, 0, none⟩) ss.length cap) ∧ Rw 52 w' (.slice (some ⟨g, 0, none⟩) ss.length cap) ss ∧ w.heap.size ≤ g ∧ ss.Nodup ∧ (∀ x, x ∈ ss ↔ x ∈ l) ∧ w.grownBy w' none := by
  obtain ⟨i0, hi, hz0, hz1, hz2⟩ := info_parts Try.info52
  have hbl := h.lt
  have hml := h.len 3
  obtain ⟨D, hown, hh1, hh2, hsz⟩ := h.own
  have hok := h.ok
  rw [hsz] at hown
  go_enter Try.func37, Try.ntmps37
  go_wp2_with (first
    | (at_make; refine wpList_make_own _ rfl _ _ 36 rfl 0 52 i0 (.agg #[.string ByteArray.empty, .int .u64 0]) 2 Try.underlying36 hi hz0 hz1 _ _ _ l.length rfl rfl rfl (by rw [hz2]; omega) (by unfold maxLen; omega) (Nat.zero_le _) ?_; intro w1 hrow1 hg1)
    | (at_range; refine wpList_range_own _ rfl _ 60 rfl 52 79 keyed52 Try.underlying60 _ b l.length _ rfl (hown.kept hg1 (by simp)) ?_; intro w0 hrg0 hg0 hs0)
    | go_in)
  go_frame
  go_loopw [3] (fun v wr => ∃ (left : Lit → Bool) (cnt : Nat) (ss : List E) (g cap : Nat), v = .slice (some ⟨g, 0, none⟩) ss.length cap ∧ wr.ranges Try.prog 52 unitElem b w1.heap.size l.length D left cnt ∧ Hid (ss.length + cnt ≤ l.length) ∧
      Hid (Rw 52 wr (.slice (some ⟨g, 0, none⟩) ss.length cap) ss) ∧ Hid (w.heap.size ≤ g) ∧ Hid (Come l left ss) ∧ Hid (w.grownBy wr none))
    (fun _ wr => wr.rangeLeft b w1.heap.size)
  case atStart =>
    exact ⟨_, _, [], w.heap.size, l.length, rfl, hrg0, ⟨by rw [hsz]; simp⟩, ⟨World.ownsRow.kept hrow1 hg0 (Or.inr (by simp [Value.ownBlock]))⟩, ⟨Nat.le_refl _⟩, ⟨Come.start hh1⟩, ⟨grown_none hg1 hg0⟩⟩
  case round =>
    obtain ⟨left, cnt, ss, g, cap, rfl, hrg, hcs, hrow, hgw, hC, hnx⟩ := hrel
    go_wp2_with (first
      | (at_next; refine wpList_next_ranges _ rfl _ rfl 52 keyed52 unitElem (fun x : E => Value.agg #[.string x.n, .int .u64 x.at_]) (fun _ : Unit => Value.agg #[]) (fun key kl hk => inv52 hk) (fun v y hv => ⟨(), (unitElem_inv hv).1⟩) b w1.heap.size l.length _ _ _ rfl hrg ?_ ?_)
      | go_in)
    · intro hc0 hl0
      go_wp2
      go_ret
      exact ⟨g, cap, ss, rfl, hrow.out, hgw.out, hC.out.1, hC.out.done hl0, hnx.out⟩
    · intro x kl yd yp w2 cnt2 hkey hlk hv hat hrg2 hlt hg2 hs2 hen
      have hne : (w1.heap.size : Nat) ≠ g := by
        intro e
        obtain ⟨es, clock, since, seen, c0, _, _, _, _, hr, _⟩ := hrg
        rcases hrow.out.2 with ⟨e1, _⟩ | ⟨g', c, cur, e1, _, hg', _⟩
        · cases e1
        · simp only [Value.slice.injEq, Option.some.injEq, Addr.mk.injEq] at e1
          rw [← e1.1.1, ← e, hr] at hg'
          cases hg'
      have hhas : Maps.has D kl = true := has_true_of_atKey hat
      have hxok : x.ok := by
        obtain ⟨hk1, hk2⟩ := inv52ok hkey
        exact ⟨hk1, hk2⟩
      obtain rfl : kyE x = kl := by
        have h1 := key52 hxok
        have h2 := hkey
        rw [show Value.agg #[.string x.n, .int .u64 x.at_] = x.val from rfl, h1] at h2
        exact Option.some.inj h2
      have hxl : x ∈ l := hh2 x hxok hhas
      have hC2 : Hid (Come l (fun z => left z && !z.sameKey (kyE x)) (ss ++ [x])) := ⟨hC.out.step hok hlk hxl⟩
      have hrow2 : Rw 52 w2 (.slice (some ⟨g, 0, none⟩) ss.length cap) ss := World.ownsRow.kept hrow.out hg2 (Or.inr (by simp [Value.ownBlock]; exact fun e => hne e.symm))
      have hg3 := World.grownBy_alloc w2 (.cells #[.string x.n, .int .u64 x.at_] 52) none
      have hg4 := World.grownBy_alloc (w2.alloc (.cells #[.string x.n, .int .u64 x.at_] 52)) (.cells #[.string x.n, .int .u64 x.at_] 52) none
      have hg5 := grown_none hg3 hg4
      have hsl := hcs.out
      obtain ⟨oa, oc, w3, hrun, hr3, hg6, ho⟩ := run_append_t ((w2.alloc (.cells #[.string x.n, .int .u64 x.at_] 52)).alloc (.cells #[.string x.n, .int .u64 x.at_] 52)) (.slice (some ⟨g, 0, none⟩) ss.length cap) ss x (w2.heap.size + 1) ⟨by simp, by simp⟩ (World.ownsRow.kept hrow2 hg5 (Classical.em _)) (by omega) 36
      have hsz2 : w2.heap.size = wr.heap.size := hs2
      clear hkey hlk hv hat hs2 hhas
      replace hg6 : Hid _ := ⟨hg6⟩
      replace hr3 : Hid _ := ⟨hr3⟩
      replace ho : Hid _ := ⟨ho⟩
      replace hsz2 : Hid _ := ⟨hsz2⟩
      replace hrg2 : Hid _ := ⟨hrg2⟩
      go_wp2_with (first
        | (at_builtin; refine wpList_append_run rfl _ _ 36 rfl _ _ rfl rfl hrun ?_)
        | go_in)
      go_roundw
      case rel =>
        have hlen : (ss ++ [x]).length = ss.length + 1 := by simp
        have hgl : g < w2.heap.size := by
          rcases hrow2.2 with ⟨e1, _⟩ | ⟨g', c, cur, e1, _, hg', _⟩
          · cases e1
          · simp only [Value.slice.injEq, Option.some.injEq, Addr.mk.injEq] at e1
            rw [e1.1.1]
            exact (Array.getElem?_eq_some_iff.1 hg').1
        obtain ⟨g', rfl⟩ : ∃ g', oa = some ⟨g', 0, none⟩ := by
          rcases hr3.out.2 with ⟨e1, e2⟩ | ⟨g', c, cur, e1, _⟩
          · simp at e2
          · simp only [Value.slice.injEq] at e1
            exact ⟨g', e1.1⟩
        have hws := hnx.out.size
        have hw1 : w1.heap.size < w2.heap.size := hrg2.out.lt
        have hrg4 := (hrg2.out.alloc (.cells #[.string x.n, .int .u64 x.at_] 52)).alloc (.cells #[.string x.n, .int .u64 x.at_] 52)
        have hbw : b ≠ g := by have := hgw.out; omega
        refine ⟨_, cnt2, ss ++ [x], g', oc, by rw [hlen], hrg4.kept hg6.out (by simp [Value.ownBlock]; exact hbw) (by simp [Value.ownBlock]; exact hne), ⟨by omega⟩, ⟨by rw [hlen]; exact hr3.out⟩, ⟨?_⟩, hC2, ⟨?_⟩⟩
        · rcases ho.out with h1 | ⟨k, h1, h2⟩
          · simp [Value.ownBlock] at h1
            rw [h1]; exact hgw.out
          · simp [Value.ownBlock] at h1
            subst h1
            simp at h2
            have := hsz2.out
            omega
        · have h1 := grown_new hnx.out hg2 (by have := hg1.size; omega)
          exact (grown_none h1 hg5).andThen hg6.out fun j hj => .inl (by simp [Value.ownBlock] at hj; subst hj; exact hgw.out)
      case measure =>
        have hrg4 := (hrg2.out.alloc (.cells #[.string x.n, .int .u64 x.at_] 52)).alloc (.cells #[.string x.n, .int .u64 x.at_] 52)
        have hbw : b ≠ g := by have := hgw.out; omega
        have hrg5 := hrg4.kept hg6.out (by simp [Value.ownBlock]; exact hbw) (by simp [Value.ownBlock]; exact hne)
        rw [hrg5.left_eq, hrg.left_eq]
        exact hlt
set_option maxRecDepth 100000 in
set_option maxHeartbeats 1000000 in
/-- set.empty. -/
theorem empty_any (w : World) {b : Nat} {l : List E} (h : Sset w b l) (hl : l.length ≤ 100000) :
    Calls Try.prog 43 #[.map (some b)] w fun r w' => ∃ g cap ss, r = .returned (.slice (some ⟨g, 0, none⟩) ss.length cap) ∧ Rw 52 w' (.slice (some ⟨g, 0, none⟩) ss.length cap) ss ∧ w.heap.size ≤ g ∧ ss.Nodup ∧ (∀ x, x ∈ ss ↔ x ∈ l) ∧ Sset w' b [] ∧ w.grownBy w' (some b) := by
  go_enter Try.func43, Try.ntmps43
  go_wp2_with fail
  refine (timers_any w h hl).mono ?_
  rintro r w1 ⟨g, cap, ss, rfl, hr, hg, hn, hm, hgr⟩
  obtain ⟨w2, hrun, hs2, hg2⟩ := (h.kept (hgr.block b h.lt (by simp))).clear 0
  have hne : b ≠ g := by have := h.lt; omega
  replace hr : Hid _ := ⟨hr⟩
  replace hg2 : Hid _ := ⟨hg2⟩
  replace hs2 : Hid _ := ⟨hs2⟩
  replace hm : Hid _ := ⟨hm⟩
  go_wp2
  go_ret
  exact ⟨g, cap, ss, rfl, World.ownsRow.kept hr.out hg2.out (Or.inr (by simp [Value.ownBlock]; exact fun e => hne e.symm)), hg, hn, hm.out, hs2.out, grown_same hgr hg2.out⟩
end Go.Proofs.Ytlljfgpmjpmoiaa
