/- The document's list of entries: Find, begins, Longest. -/
import Derived.Test.YtpcdmjalfabbmaaMcc
namespace Go.Proofs.Ytpcdmjalfabbmaa
open Go.RowKit Go.IntWalk Go.Maps Go.Shelf
set_option linter.unusedVariables false
/-- A list of the document's entries that can be read. -/
def Lc (w : World) (v : Value) (L : List E) : Prop :=
  ((v = .slice none 0 0 ∨ ∃ ad cap, v = .slice (some ad) 0 cap) ∧ L = []) ∨ ∃ b off cap, v = .slice (some ⟨b, off, none⟩) L.length cap ∧ b < w.heap.size ∧ L.length ≤ cap ∧ cap ≤ maxLen ∧
    ∀ (j : Nat) (e : E), L[j]? = some e → w.cell? ⟨b, off + j * 2, none⟩ = some (.string (bt e.k)) ∧ w.cell? ⟨b, off + j * 2 + 1, none⟩ = some (.string e.v)
theorem Lc.shape {w : World} {v : Value} {L : List E} (h : Lc w v L) : ∃ a cap, v = .slice a L.length cap := by
  obtain ⟨rfl | ⟨ad, cap, rfl⟩, rfl⟩ | ⟨b, off, cap, rfl, _⟩ := id h
  · exact ⟨_, _, rfl⟩
  · exact ⟨_, _, rfl⟩
  · exact ⟨_, _, rfl⟩
theorem Lc.at {w : World} {a : Option Addr} {len cap : Nat} {L : List E} (h : Lc w (.slice a len cap) L) {j : Nat} {e : E} (hj : L[j]? = some e) :
    ∃ b off, a = some ⟨b, off, none⟩ ∧ b < w.heap.size ∧ w.cell? ⟨b, off + j * 2, none⟩ = some (.string (bt e.k)) ∧ w.cell? ⟨b, off + j * 2 + 1, none⟩ = some (.string e.v) := by
  obtain ⟨_, rfl⟩ | ⟨b, off, c, e, hb, hl, hm, hc⟩ := h
  · simp at hj
  · simp only [Value.slice.injEq] at e
    exact ⟨b, off, e.1, hb, hc j _ hj⟩
theorem Lc.of_row {t : TypeId} {w : World} {v : Value} {L : List E} (h : Rw t w v L) : Lc w v L := by
  rcases id h.2 with ⟨e1, h0⟩ | ⟨g, c, cur, e1, _, hg, hn, hm, _⟩
  · exact .inl ⟨.inl e1, List.eq_nil_of_length_eq_zero h0⟩
  · subst e1
    refine .inr ⟨g, 0, c, rfl, (Array.getElem?_eq_some_iff.1 hg).1, hn, hm, fun j e hj => ?_⟩
    obtain ⟨g', e', _, _, k1, k2, _⟩ := h.at hj
    cases e'
    simp only [Nat.zero_add]
    exact ⟨k1, k2⟩
theorem Lc.grown0 {w w' : World} {v : Value} {L : List E} (h : Lc w v L) (hg : w.grownBy w' none) : Lc w' v L := by
  rcases h with e | ⟨b, off, c, e, hb, hl, hm, hc⟩
  · exact .inl e
  · exact .inr ⟨b, off, c, e, Nat.lt_of_lt_of_le hb hg.size, hl, hm, fun j x hj => ⟨grown_cell hg (hc j x hj).1, grown_cell hg (hc j x hj).2⟩⟩
theorem some_at {L : List E} {k : Nat} (h : k < L.length) : ∃ x, L[k]? = some x := ⟨_, List.getElem?_eq_getElem h⟩
/-- Where a key is. -/
def Fnd (L : List E) (k : K) (i : Int) : Prop := (∃ (n : Nat) (x : E), i = n ∧ L[n]? = some x ∧ x.k = k) ∨ (i = -1 ∧ gt L k = none)
set_option maxRecDepth 100000 in
set_option maxHeartbeats 1000000 in
/-- belfryref08.Find. -/
theorem find_any (w : World) {v : Value} {L : List E} (h : Lc w v L) (hl : L.length ≤ 100000) (k : K) : Calls Try.prog 11 #[v, .string (bt k)] w fun r w' => ∃ i : Int, r = .returned (.int .i64 i) ∧ Fnd L k i ∧ w' = w := by
  obtain ⟨a, cap, rfl⟩ := h.shape
  have htl := bt_toList
  go_enter Try.func11, Try.ntmps11
  go_wp2_with fail
  go_loop [5] (fun i => ∃ j : Nat, j ≤ L.length ∧ i = .int .i64 j ∧ Hid (∀ x ∈ L.take j, x.k ≠ k))
    (fun i => L.length - (intOf i).toNat)
  case atStart => exact ⟨0, by omega, rfl, ⟨by simp⟩⟩
  case round =>
    obtain ⟨j, hj, rfl, hno⟩ := hrel
    by_cases hlt : j < L.length
    · have hd : decide ((j : Int) < L.length) = true := by simp; omega
      obtain ⟨x, hx⟩ := some_at hlt
      obtain ⟨b, off, rfl, _, c0, c1⟩ := h.at hx
      by_cases hn : x.k = k
      · have hq : (x.k == k) = true := by simpa using hn
        have hfin : Hid (Fnd L k j) := ⟨.inl ⟨j, x, rfl, hx, hn⟩⟩
        clear hn
        replace hx : Hid _ := ⟨hx⟩
        go_wp2_with fail
        go_ret
        exact ⟨_, rfl, hfin.out, rfl⟩
      · have hq : (x.k == k) = false := by simpa using hn
        have hno2 : Hid (∀ y ∈ L.take (j + 1), y.k ≠ k) := ⟨fun y hy => by
          rw [List.take_add_one, hx] at hy
          rcases List.mem_append.1 hy with hy | hy
          · exact hno.out y hy
          · simp at hy; subst hy; exact hn⟩
        clear hn
        replace hx : Hid _ := ⟨hx⟩
        go_wp2_with fail
        go_round
        case rel => exact ⟨j + 1, by omega, by go_num, hno2⟩
        case measure => simp [intOf]; omega
    · have hd : decide ((j : Int) < L.length) = false := by simp; omega
      have hfin : Hid (Fnd L k (-1)) := ⟨.inr ⟨rfl, by
        have h1 := hno.out
        rw [List.take_of_length_le (by omega)] at h1
        cases e : gt L k with
        | none => rfl
        | some v => exact absurd rfl (h1 _ (gt_some e))⟩⟩
      go_wp2_with fail
      go_ret
      exact ⟨_, rfl, hfin.out, rfl⟩
set_option maxRecDepth 100000 in
set_option maxHeartbeats 1000000 in
/-- belfryref08.begins. -/
theorem begins_any (w : World) (p k : K) (hp : p.length ≤ maxLen) (hk : k.length ≤ maxLen) : Calls Try.prog 35 #[.string (bt p), .string (bt k)] w fun r w' => r = .returned (.bool (decide (p <+: k))) ∧ w' = w := by
  have htl := bt_toList
  have s1 := bt_size p
  have s2 := bt_size k
  unfold maxLen at hp hk
  obtain ⟨d, hd⟩ : ∃ d, Hid (decide (p <+: k) = d) := ⟨_, ⟨rfl⟩⟩
  rw [hd.out]
  go_enter Try.func35, Try.ntmps35
  by_cases hle : p.length ≤ k.length
  · have hleI : (p.length : Int) ≤ k.length := by omega
    obtain ⟨c, hc⟩ : ∃ c, k.take p.length = c := ⟨_, rfl⟩
    have hcut : (bt k).extract 0 p.length = bt c := by rw [bt_take, hc]
    have hq : (c == p) = d := by
      rw [← hd.out, Bool.eq_iff_iff, beq_iff_eq, decide_eq_true_eq, List.prefix_iff_eq_take, hc]
      exact eq_comm
    clear hc
    go_wp2
    go_ret
    exact ⟨rfl, rfl⟩
  · have hleI : decide ((p.length : Int) ≤ k.length) = false := by simp; omega
    have hled : decide (p.length ≤ k.length) = false := by simp; omega
    have hq : d = false := by
      rw [← hd.out, decide_eq_false_iff_not]
      exact fun h => hle h.length_le
    subst hq
    go_wp2
    go_ret
    exact ⟨rfl, rfl⟩
/-- Where the longest key that begins k is. -/
def Lng (L : List E) (k : K) (i : Int) : Prop := (∃ (n : Nat) (x : E), i = n ∧ L[n]? = some x ∧ x.k <+: k ∧ ∀ y ∈ L, y.k <+: k → y.k.length ≤ x.k.length) ∨ (i = -1 ∧ ∀ y ∈ L, ¬ y.k <+: k)
theorem mem_take_succ {L : List E} {j : Nat} {x y : E} (hx : L[j]? = some x) : y ∈ L.take (j + 1) ↔ y ∈ L.take j ∨ y = x := by
  rw [List.take_add_one, hx]
  simp
def LngT (L : List E) (k : K) (j : Nat) (i : Int) : Prop := (∃ (n : Nat) (x : E), i = n ∧ n < j ∧ L[n]? = some x ∧ x.k <+: k ∧ ∀ y ∈ L.take j, y.k <+: k → y.k.length ≤ x.k.length) ∨ (i = -1 ∧ ∀ y ∈ L.take j, ¬ y.k <+: k)
set_option maxRecDepth 100000 in
set_option maxHeartbeats 2000000 in
/-- belfryref08.Longest. -/
theorem rlong_any (w : World) {v : Value} {L : List E} (h : Lc w v L) (hl : L.length ≤ 100000) (hkm : ∀ x ∈ L, x.k.length ≤ 100000) (k : K) (hk : k.length ≤ 100000) : Calls Try.prog 24 #[v, .string (bt k)] w fun r w' => ∃ i : Int, r = .returned (.int .i64 i) ∧ Lng L k i ∧ w.grownBy w' none := by
  obtain ⟨a, cap, rfl⟩ := h.shape
  have htl := bt_toList
  go_enter Try.func24, Try.ntmps24
  go_wp2_with fail
  go_loopw [5, 6] (fun t i wr => ∃ (j : Nat) (d : Int), j ≤ L.length ∧ i = .int .i64 j ∧ t = .int .i64 d ∧ Hid (LngT L k j d ∧ w.grownBy wr none))
    (fun _ i _ => L.length - (intOf i).toNat)
  case atStart => exact ⟨0, -1, by omega, rfl, rfl, ⟨.inr ⟨rfl, by simp⟩, grown_refl w⟩⟩
  case round =>
    obtain ⟨j, d, hj, rfl, rfl, hS⟩ := hrel
    by_cases hlt : j < L.length
    · have hd : decide ((j : Int) < L.length) = true := by simp; omega
      obtain ⟨x, hx⟩ := some_at hlt
      have hxk := hkm x (List.mem_of_getElem? hx)
      have hg := hS.out.2
      obtain ⟨b, off, rfl, hbl, c0, c1⟩ := (h.grown0 hg).at hx
      have hbg := begins_any wr x.k k (by unfold maxLen; omega) (by unfold maxLen; omega)
      have hszx := bt_size x.k
      by_cases hpre : x.k <+: k
      · have hpd : decide (x.k <+: k) = true := by simpa using hpre
        rw [hpd] at hbg
        rcases hS.out.1 with ⟨n, y, rfl, hnj, hy, hyk, hmx⟩ | ⟨rfl, hno⟩
        · obtain ⟨b', off', e', _, k0, k1⟩ := (h.grown0 hg).at hy
          cases e'
          have hszy := bt_size y.k
          have hyl := hkm y (List.mem_of_getElem? hy)
          have hneg : decide ((n : Int) < 0) = false := by simp
          have hnl : (n : Int) < L.length := by omega
          haveI := lat_nonempty wr
          have kc0 := lat_cell c0
          have kc1 := lat_cell k0
          by_cases hgt : x.k.length > y.k.length
          · have hgd : decide ((x.k.length : Int) > y.k.length) = true := by simp; omega
            have hgdn : decide (y.k.length < x.k.length) = true := by simp; omega
            have hgI : (y.k.length : Int) < x.k.length := by omega
            have hnew : Hid (∀ w', wr.grownBy w' none → LngT L k (j + 1) j ∧ w.grownBy w' none) := ⟨fun w' h' => ⟨.inl ⟨j, x, rfl, by omega, hx, hpre, fun z hz hzk => by
              rcases (mem_take_succ hx).1 hz with hz | rfl
              · have := hmx z hz hzk; omega
              · exact Nat.le_refl _⟩, grown_none hg h'⟩⟩
            clear hS hmx hx hy hpre hyk hg hgt k1 c1
            go_wp2_with fail
            refine hbg.mono ?_
            rintro r w2 ⟨rfl, rfl⟩
            clear hbg
            go_wp2_with fail
            refine wp_region_lat (by kernel_rfl) (by kernel_rfl) ?_
            repeat (go_big_quiet_step (fail))
            refine wpQuiet_nil ?_
            intro _ hw'
            obtain ⟨p, hw''⟩ := hw'
            subst hw''
            replace hnew : Hid _ := ⟨hnew.out _ p.h⟩
            clear kc0 kc1
            go_wp2_with fail
            go_roundw
            case rel => exact ⟨j + 1, j, by omega, by go_num, rfl, hnew⟩
            case measure => simp [intOf]; omega
          · have hgd : decide ((x.k.length : Int) > y.k.length) = false := by simp; omega
            have hgdn : decide (y.k.length < x.k.length) = false := by simp; omega
            have hgI : ¬ (y.k.length : Int) < x.k.length := by omega
            have hnew : Hid (∀ w', wr.grownBy w' none → LngT L k (j + 1) n ∧ w.grownBy w' none) := ⟨fun w' h' => ⟨.inl ⟨n, y, rfl, by omega, hy, hyk, fun z hz hzk => by
              rcases (mem_take_succ hx).1 hz with hz | rfl
              · exact hmx z hz hzk
              · omega⟩, grown_none hg h'⟩⟩
            clear hS hmx hx hy hpre hyk hg hgt k1 c1
            go_wp2_with fail
            refine hbg.mono ?_
            rintro r w2 ⟨rfl, rfl⟩
            clear hbg
            go_wp2_with fail
            refine wp_region_lat (by kernel_rfl) (by kernel_rfl) ?_
            repeat (go_big_quiet_step (fail))
            refine wpQuiet_nil ?_
            intro _ hw'
            obtain ⟨p, hw''⟩ := hw'
            subst hw''
            replace hnew : Hid _ := ⟨hnew.out _ p.h⟩
            clear kc0 kc1
            go_wp2_with fail
            go_roundw
            case rel => exact ⟨j + 1, n, by omega, by go_num, rfl, hnew⟩
            case measure => simp [intOf]; omega
        · haveI := lat_nonempty wr
          have kc0 := lat_cell c0
          have hnew : Hid (∀ w', wr.grownBy w' none → LngT L k (j + 1) j ∧ w.grownBy w' none) := ⟨fun w' h' => ⟨.inl ⟨j, x, rfl, by omega, hx, hpre, fun z hz hzk => by
              rcases (mem_take_succ hx).1 hz with hz | rfl
              · exact absurd hzk (hno z hz)
              · exact Nat.le_refl _⟩, grown_none hg h'⟩⟩
          clear hS hno hx hpre hg c1
          go_wp2_with fail
          refine hbg.mono ?_
          rintro r w2 ⟨rfl, rfl⟩
          clear hbg
          go_wp2_with fail
          refine wp_region_lat (by kernel_rfl) (by kernel_rfl) ?_
          repeat (go_big_quiet_step (fail))
          refine wpQuiet_nil ?_
          intro _ hw'
          obtain ⟨p, hw''⟩ := hw'
          subst hw''
          replace hnew : Hid _ := ⟨hnew.out _ p.h⟩
          clear kc0
          go_wp2_with fail
          go_roundw
          case rel => exact ⟨j + 1, j, by omega, by go_num, rfl, hnew⟩
          case measure => simp [intOf]; omega
      · have hpd : decide (x.k <+: k) = false := by simpa using hpre
        rw [hpd] at hbg
        haveI := lat_nonempty wr
        have hnew : Hid (∀ w', wr.grownBy w' none → LngT L k (j + 1) d ∧ w.grownBy w' none) := ⟨fun w' h' => ⟨by
            rcases hS.out.1 with ⟨n, y, rfl, hnj, hy, hyk, hmx⟩ | ⟨rfl, hno⟩
            · exact .inl ⟨n, y, rfl, by omega, hy, hyk, fun z hz hzk => by
                rcases (mem_take_succ hx).1 hz with hz | rfl
                · exact hmx z hz hzk
                · exact absurd hzk hpre⟩
            · exact .inr ⟨rfl, fun z hz hzk => by
                rcases (mem_take_succ hx).1 hz with hz | rfl
                · exact hno z hz hzk
                · exact hpre hzk⟩, grown_none hg h'⟩⟩
        clear hS hx hpre hg c1
        go_wp2_with fail
        refine hbg.mono ?_
        rintro r w2 ⟨rfl, rfl⟩
        clear hbg
        go_wp2_with fail
        refine wp_region_lat (by kernel_rfl) (by kernel_rfl) ?_
        repeat (go_big_quiet_step (fail))
        refine wpQuiet_nil ?_
        intro _ hw'
        obtain ⟨p, hw''⟩ := hw'
        subst hw''
        replace hnew : Hid _ := ⟨hnew.out _ p.h⟩
        go_wp2_with fail
        go_roundw
        case rel => exact ⟨j + 1, d, by omega, by go_num, rfl, hnew⟩
        case measure => simp [intOf]; omega
    · have hd : decide ((j : Int) < L.length) = false := by simp; omega
      have hfin : Hid (Lng L k d ∧ w.grownBy wr none) := ⟨by
        have h1 := hS.out.1
        unfold LngT at h1
        rw [List.take_of_length_le (by omega)] at h1
        rcases h1 with ⟨n, y, e, _, hy, hyk, hmx⟩ | h1
        · exact .inl ⟨n, y, e, hy, hyk, hmx⟩
        · exact .inr h1, hS.out.2⟩
      clear hS
      go_wp2_with fail
      go_ret
      exact ⟨_, rfl, hfin.out⟩
end Go.Proofs.Ytpcdmjalfabbmaa

/- belfryref08.Drop and Walk. -/
namespace Go.Proofs.Ytpcdmjalfabbmaa
open Go.RowKit Go.IntWalk Go.Maps Go.Shelf
set_option linter.unusedVariables false
theorem wpList_append_run {ops : Array Oper} {rest : List Oper} {o : Oper} {a : Act} {w : World} {Q : Exit → Act → World → Prop} (hg : o.guard = none) (sl x : Operand) (t : TypeId) (hop : o.op = Op.call { callee := Callee.builtin Builtin.append, args := #[sl, x], argTypes := #[t, t] })
    (v u : Value) (hs : a.eval sl = v) (hx : a.eval x = u) {v' : Value} {w' : World} (hrun : (Builtin.append_ #[t, t] o.type #[v, u]).run Try.prog w = .ok v' w') (hK : wpList Try.prog ops Q rest (a.put o.dst v') w') :
    wpList Try.prog ops Q (o :: rest) a w := by
  refine wpList_plain hg fun K hK' => ?_
  unfold Oper.wp
  simp [execOp, hop, resolve, invoke, builtin, hs, hx, hrun, Result.andThen]
  exact hK' _ _ hK
/-- 'append(l, e)', e anywhere in memory. -/
theorem run_append_ref (w : World) (rv : Value) (es : List E) (e : E) (B : Nat) (hB : w.cell? ⟨B, 0, none⟩ = some (.string (bt e.k)) ∧ w.cell? ⟨B, 1, none⟩ = some (.string e.v)) (hrow : Rw 33 w rv es) (hl : es.length ≤ 100000) (ty : TypeId) :
    ∃ a cap w', (Builtin.append_ #[28, 28] ty #[rv, .slice (some ⟨B, 0, none⟩) 1 1]).run Try.prog w = .ok (.slice a (es.length + 1) cap) w' ∧ Rw 33 w' (.slice a (es.length + 1) cap) (es ++ [e]) ∧ w.grownBy w' rv.ownBlock ∧
      ((Value.slice a (es.length + 1) cap).ownBlock = rv.ownBlock ∨ ∃ k, (Value.slice a (es.length + 1) cap).ownBlock = some k ∧ w.heap.size ≤ k) := by
  obtain ⟨i0, hi, hz0, hz1, hz2⟩ := info_parts Try.info33
  obtain ⟨v', w', hrun, h1, h2, _, h4⟩ := run_append_own_at (P := Try.prog) (w := w) 0 28 ty 33 i0 (.agg #[.string ByteArray.empty, .string ByteArray.empty]) 2 32 Try.underlying28 hi hz0 hz1 hz2 rfl (by decide) rv es.length _ hrow ⟨B, 0, none⟩ 1 1 e.cells rfl (fun j u hj => by
    rw [addr_add, Nat.zero_add]
    match j, hj with
    | 0, hj => simp [E.cells] at hj; subst hj; exact hB.1
    | 1, hj => simp [E.cells] at hj; subst hj; exact hB.2
    | j + 2, hj => simp [E.cells] at hj) (fun u hu => by
    simp only [E.cells, List.mem_cons, List.not_mem_nil, or_false] at hu
    rcases hu with rfl | rfl <;> rfl) (by unfold maxLen; omega) (by omega) (by omega)
  have hlen : (es ++ [e]).length = es.length + 1 := by simp
  have hce : cellsE es ++ e.cells = cellsE (es ++ [e]) := by rw [cellsE_app]; simp [cellsE]
  rw [hce] at h1
  obtain ⟨a, cap, rfl⟩ : ∃ a cap, v' = .slice a (es.length + 1) cap := by
    rcases h1.2 with ⟨_, h0⟩ | ⟨g, c, cur, e1, _⟩
    · omega
    · exact ⟨_, _, e1⟩
  refine ⟨a, cap, w', hrun, by unfold Rw; rw [hlen]; exact h1, h2, ?_⟩
  rcases h4 with h4 | h4
  · exact .inl h4
  · exact .inr ⟨_, h4, by simp⟩
/-- One entry more, behind a new block that holds it. -/
theorem app_more {w wr : World} {oa : Option Addr} {oc : Nat} {M : List E} (x : E) (hR : Rw 33 wr (.slice oa M.length oc) M ∧ w.grownBy wr none ∧ ∀ j, (Value.slice oa M.length oc).ownBlock = some j → w.heap.size ≤ j) (hMl : M.length ≤ 100000) :
    ∃ oa' oc' w2, (Builtin.append_ #[28, 28] 28 #[.slice oa M.length oc, .slice (some ⟨wr.heap.size, 0, none⟩) 1 1]).run Try.prog (wr.alloc (.cells #[.string (bt x.k), .string x.v] 33)) = .ok (.slice oa' (M.length + 1) oc') w2 ∧
      Hid (Rw 33 w2 (.slice oa' (M ++ [x]).length oc') (M ++ [x]) ∧ w.grownBy w2 none ∧ ∀ j, (Value.slice oa' (M ++ [x]).length oc').ownBlock = some j → w.heap.size ≤ j) := by
  have hg1 := World.grownBy_alloc wr (.cells #[.string (bt x.k), .string x.v] 33) none
  obtain ⟨oa', oc', w2, hrun, hr2, hg2, ho2⟩ := run_append_ref (wr.alloc (.cells #[.string (bt x.k), .string x.v] 33)) (.slice oa M.length oc) M x wr.heap.size ⟨by simp, by simp⟩ (World.ownsRow.kept hR.1 hg1 (Classical.em _)) hMl 28
  refine ⟨oa', oc', w2, hrun, ⟨?_⟩⟩
  have hlen : (M ++ [x]).length = M.length + 1 := by simp
  have hw := hR.2.1.size
  rw [hlen]
  refine ⟨hr2, ?_, fun j hj => ?_⟩
  · have h3 := grown_none hR.2.1 hg1
    exact h3.andThen hg2 fun j hj => .inl (hR.2.2 j hj)
  · rcases ho2 with ho | ⟨i, hi, hil⟩
    · exact hR.2.2 j (by rw [← ho]; exact hj)
    · rw [hi] at hj; cases hj; simp at hil; omega
set_option maxRecDepth 100000 in
set_option maxHeartbeats 1000000 in
/-- belfryref08.Drop. -/
theorem rdrop_any (w : World) {v : Value} {L D : List E} (h : Lc w v L) (hl : L.length ≤ 100000) (k : K) (hD : Hid (delE k L = D)) : Calls Try.prog 15 #[v, .string (bt k)] w fun r w' => ∃ a cap, r = .returned (.slice a D.length cap) ∧ Rw 33 w' (.slice a D.length cap) D ∧ w.grownBy w' none ∧ ∀ j, (Value.slice a D.length cap).ownBlock = some j → w.heap.size ≤ j := by
  obtain ⟨a, cap, rfl⟩ := h.shape
  have htl := bt_toList
  go_enter Try.func15, Try.ntmps15
  go_wp2_with fail
  go_loopw [5, 6] (fun o i wr => ∃ (j : Nat) (oa : Option Addr) (oc : Nat) (M : List E), j ≤ L.length ∧ o = .slice oa M.length oc ∧ i = .int .i64 j ∧ Hid (M = delE k (L.take j)) ∧ Hid (Rw 33 wr (.slice oa M.length oc) M ∧ w.grownBy wr none ∧ ∀ j, (Value.slice oa M.length oc).ownBlock = some j → w.heap.size ≤ j))
    (fun _ i _ => L.length - (intOf i).toNat)
  case atStart => exact ⟨0, none, 0, [], by omega, rfl, rfl, ⟨by simp [delE]⟩, ⟨World.ownsRow_nil _ _ _ _, grown_refl w, by simp [Value.ownBlock]⟩⟩
  case round =>
    obtain ⟨j, oa, oc, M, hj, rfl, rfl, hMe, hR⟩ := hrel
    have hMl : M.length ≤ 100000 := by
      have := delE_le k (L.take j)
      rw [← hMe.out, List.length_take] at this
      omega
    by_cases hlt : j < L.length
    · have hd : decide ((j : Int) < L.length) = true := by simp; omega
      obtain ⟨x, hx⟩ := some_at hlt
      obtain ⟨b, off, rfl, _, c0, c1⟩ := (h.grown0 hR.out.2.1).at hx
      by_cases hn : x.k = k
      · have hq : (x.k == k) = true := by simpa using hn
        have hq2 : (x.k != k) = false := by simpa using hn
        have hMe2 : Hid (M = delE k (L.take (j + 1))) := ⟨by rw [List.take_add_one, hx, hMe.out]; simp [delE, hn]⟩
        clear hn
        replace hx : Hid _ := ⟨hx⟩
        go_wp2_with fail
        go_roundw
        case rel => exact ⟨j + 1, oa, oc, M, by omega, rfl, by go_num, hMe2, hR⟩
        case measure => simp [intOf]; omega
      · have hq : (x.k == k) = false := by simpa using hn
        have hq2 : (x.k != k) = true := by simpa using hn
        have hMe2 : Hid (M ++ [x] = delE k (L.take (j + 1))) := ⟨by rw [List.take_add_one, hx, hMe.out]; simp [delE, hn]⟩
        obtain ⟨oa', oc', w2, hrun, hR2⟩ := app_more x hR.out hMl
        clear hn
        replace hx : Hid _ := ⟨hx⟩
        go_wp2_with (at_builtin; refine wpList_append_run rfl _ _ 28 rfl _ _ rfl rfl hrun ?_)
        go_roundw
        case rel => exact ⟨j + 1, oa', oc', M ++ [x], by omega, by simp, by go_num, hMe2, hR2⟩
        case measure => simp [intOf]; omega
    · have hd : decide ((j : Int) < L.length) = false := by simp; omega
      have hMe2 : Hid (D = M) := ⟨by rw [hMe.out, ← hD.out, List.take_of_length_le (by omega)]⟩
      go_wp2_with fail
      go_ret
      rw [hMe2.out]
      exact ⟨_, _, rfl, hR.out⟩
theorem sub_app' (A B : List E) (p : K) : sub (A ++ B) p = sub A p ++ sub B p := List.filter_append ..
theorem sub_snoc {L : List E} {i : Nat} {x : E} (hx : L[i]? = some x) (p : K) : sub (L.take (i + 1)) p = sub (L.take i) p ++ (if p <+: x.k then [x] else []) := by
  rw [List.take_add_one, hx, sub_app']
  congr 1
  by_cases h : p <+: x.k <;> simp [sub, h]
/-- Enough taken. -/
theorem sub_enough {L M : List E} {j : Nat} {p : K} {m : Int} (hM : M = sub (L.take j) p) (h1 : M.length ≤ m.toNat) (h2 : m ≤ (M.length : Int)) : (sub L p).take m.toNat = M := by
  have e : sub L p = M ++ sub (L.drop j) p := by
    rw [hM, ← sub_app', List.take_append_drop]
  have hm : m.toNat = M.length := by omega
  rw [e, hm, List.take_left']
  rfl
set_option maxRecDepth 100000 in
set_option maxHeartbeats 1000000 in
/-- belfryref08.Walk. -/
theorem rwalk_any (w : World) {v : Value} {L D : List E} (h : Lc w v L) (hl : L.length ≤ 100000) (hkm : ∀ x ∈ L, x.k.length ≤ 100000) (p : K) (hp : p.length ≤ 100000) (m : Int) (hD : Hid ((sub L p).take m.toNat = D)) : Calls Try.prog 20 #[v, .string (bt p), .int .i64 m] w fun r w' => ∃ a cap, r = .returned (.slice a D.length cap) ∧ Rw 33 w' (.slice a D.length cap) D ∧ w.grownBy w' none := by
  obtain ⟨a, cap, rfl⟩ := h.shape
  have htl := bt_toList
  go_enter Try.func20, Try.ntmps20
  go_wp2_with fail
  go_loopw [7, 8] (fun o i wr => ∃ (j : Nat) (oa : Option Addr) (oc : Nat) (M : List E), j ≤ L.length ∧ o = .slice oa M.length oc ∧ i = .int .i64 j ∧ Hid (M = sub (L.take j) p ∧ M.length ≤ m.toNat) ∧ Hid (Rw 33 wr (.slice oa M.length oc) M ∧ w.grownBy wr none ∧ ∀ j, (Value.slice oa M.length oc).ownBlock = some j → w.heap.size ≤ j))
    (fun _ i _ => L.length - (intOf i).toNat)
  case atStart => exact ⟨0, none, 0, [], by omega, rfl, rfl, ⟨by simp [sub]⟩, ⟨World.ownsRow_nil _ _ _ _, grown_refl w, by simp [Value.ownBlock]⟩⟩
  case round =>
    obtain ⟨j, oa, oc, M, hj, rfl, rfl, hMe, hR⟩ := hrel
    have hMl : M.length ≤ 100000 := by
      have := sub_le (L.take j) p
      rw [← hMe.out.1, List.length_take] at this
      omega
    by_cases hlt : j < L.length
    · have hd : decide ((j : Int) < L.length) = true := by simp; omega
      by_cases hm : (M.length : Int) < m
      · have hmd : decide ((M.length : Int) < m) = true := by simpa using hm
        obtain ⟨x, hx⟩ := some_at hlt
        have hxk := hkm x (List.mem_of_getElem? hx)
        obtain ⟨b, off, rfl, _, c0, c1⟩ := (h.grown0 hR.out.2.1).at hx
        have hbg := begins_any wr p x.k (by unfold maxLen; omega) (by unfold maxLen; omega)
        have hML : M.length + 1 ≤ m.toNat := by omega
        by_cases hn : p <+: x.k
        · have hMe2 : Hid (M ++ [x] = sub (L.take (j + 1)) p ∧ (M ++ [x]).length ≤ m.toNat) := ⟨by rw [sub_snoc hx, ← hMe.out.1, if_pos hn], by simpa using hML⟩
          rw [show decide (p <+: x.k) = true by simpa using hn] at hbg
          obtain ⟨oa', oc', w2, hrun, hR2⟩ := app_more x hR.out hMl
          clear hn hML
          replace hx : Hid _ := ⟨hx⟩
          go_wp2_with fail
          refine hbg.mono ?_
          rintro r w3 ⟨rfl, rfl⟩
          clear hbg
          go_wp2_with (at_builtin; refine wpList_append_run rfl _ _ 28 rfl _ _ rfl rfl hrun ?_)
          go_roundw
          case rel => exact ⟨j + 1, oa', oc', M ++ [x], by omega, by simp, by go_num, hMe2, hR2⟩
          case measure => simp [intOf]; omega
        · have hMe2 : Hid (M = sub (L.take (j + 1)) p ∧ M.length ≤ m.toNat) := ⟨by rw [sub_snoc hx, ← hMe.out.1, if_neg hn, List.append_nil], by omega⟩
          rw [show decide (p <+: x.k) = false by simpa using hn] at hbg
          clear hn hML
          replace hx : Hid _ := ⟨hx⟩
          go_wp2_with fail
          refine hbg.mono ?_
          rintro r w3 ⟨rfl, rfl⟩
          clear hbg
          go_wp2_with fail
          go_roundw
          case rel => exact ⟨j + 1, oa, oc, M, by omega, rfl, by go_num, hMe2, hR⟩
          case measure => simp [intOf]; omega
      · have hmd : decide ((M.length : Int) < m) = false := by simpa using hm
        have hfin : Hid (D = M) := ⟨by rw [← hD.out]; exact sub_enough hMe.out.1 hMe.out.2 (by omega)⟩
        go_wp2_with fail
        go_ret
        rw [hfin.out]
        exact ⟨_, _, rfl, hR.out.1, hR.out.2.1⟩
    · have hd : decide ((j : Int) < L.length) = false := by simp; omega
      have hdn : decide (j < L.length) = false := by simp; omega
      have hfin : Hid (D = M) := ⟨by
        rw [← hD.out]
        have e := hMe.out.1
        rw [List.take_of_length_le (by omega)] at e
        rw [← e, List.take_of_length_le hMe.out.2]⟩
      go_wp2_with fail
      all_goals
        (go_ret
         rw [hfin.out]
         exact ⟨_, _, rfl, hR.out.1, hR.out.2.1⟩)
end Go.Proofs.Ytpcdmjalfabbmaa

/- belfryref08.Put. -/
namespace Go.Proofs.Ytpcdmjalfabbmaa
open Go.RowKit Go.IntWalk Go.Maps Go.Shelf
set_option linter.unusedVariables false
set_option linter.unusedSimpArgs false
def insK (D : List E) (x : E) (k : Nat) : List E := D.take k ++ x :: D.drop k
theorem insK_len (D : List E) (x : E) : insK D x D.length = D ++ [x] := by simp [insK]
theorem insK_at {D : List E} {x : E} {k : Nat} (hk : k ≤ D.length) : (insK D x k)[k]? = some x := by
  unfold insK
  rw [List.getElem?_append_right (by simp; omega)]
  simp [Nat.min_eq_left hk]
theorem insK_lo {D : List E} {x : E} {k j : Nat} (hk : k ≤ D.length) (hj : j < k) : (insK D x k)[j]? = D[j]? := by
  unfold insK
  rw [List.getElem?_append_left (by simp; omega), List.getElem?_take, if_pos hj]
theorem insK_size (D : List E) (x : E) (k : Nat) (hk : k ≤ D.length) : (insK D x k).length = D.length + 1 := by
  unfold insK
  simp
  omega
theorem insK_down {D : List E} {x d : E} {m : Nat} (hd : D[m]? = some d) : ((insK D x (m + 1)).set (m + 1) d).set m x = insK D x m := by
  have hm := (List.getElem?_eq_some_iff.1 hd).1
  apply List.ext_getElem?
  intro j
  rw [List.getElem?_set, List.getElem?_set]
  have l1 : (insK D x (m + 1)).length = D.length + 1 := insK_size D x (m + 1) (by omega)
  by_cases e1 : m = j
  · subst e1
    rw [if_pos rfl, if_pos (by simp [l1]; omega), insK_at (by omega)]
  · rw [if_neg e1]
    by_cases e2 : m + 1 = j
    · subst e2
      rw [if_pos rfl, if_pos (by omega)]
      unfold insK
      rw [List.getElem?_append_right (by simp; omega)]
      simp [Nat.min_eq_left (by omega : m ≤ D.length), hd]
    · rw [if_neg e2]
      by_cases e3 : j < m
      · rw [insK_lo (by omega) (by omega), insK_lo (by omega) e3]
      · unfold insK
        rw [List.getElem?_append_right (by simp; omega), List.getElem?_append_right (by simp; omega)]
        simp only [List.length_take, Nat.min_eq_left (by omega : m + 1 ≤ D.length), Nat.min_eq_left (by omega : m ≤ D.length)]
        obtain ⟨i, rfl⟩ : ∃ i, j = m + 2 + i := ⟨j - m - 2, by omega⟩
        have h1 : m + 2 + i - (m + 1) = i + 1 := by omega
        have h2 : m + 2 + i - m = i + 1 + 1 := by omega
        rw [h1, h2, List.getElem?_cons_succ, List.getElem?_cons_succ, List.getElem?_drop, List.getElem?_drop]
        congr 1
        omega
theorem drop_cons {D : List E} {m : Nat} (h : m < D.length) : ∃ z, D[m]? = some z ∧ D.drop m = z :: D.drop (m + 1) := ⟨D[m], List.getElem?_eq_getElem h, List.drop_eq_getElem_cons h⟩
theorem insK_put {L D : List E} {x : E} {k : Nat} (hs : Srt L) (hD : delE x.k L = D) (hk : k ≤ D.length) (hgt : ∀ y ∈ D.drop k, x.k < y.k) (hle : ∀ y, D[k - 1]? = some y → 0 < k → ¬ x.k < y.k) : insK D x k = putE x L := by
  have hsD : Srt D := hD ▸ hs.del x.k
  have hDn : ∀ y ∈ D, y.k ≠ x.k := fun y hy => by rw [← hD] at hy; exact (mem_delE.1 hy).2
  have hlo : ∀ y ∈ D.take k, y.k < x.k := by
    intro y hy
    obtain ⟨j, hj⟩ := List.mem_iff_getElem?.1 hy
    rw [List.getElem?_take] at hj
    split at hj
    · rename_i hjk
      obtain ⟨z, hz⟩ := some_at (L := D) (k := k - 1) (by omega)
      have h1 := hle z hz (by omega)
      have h2 : z.k < x.k := by
        rcases k_tri z.k x.k with h | h | h
        · exact h
        · exact absurd h (hDn z (List.mem_of_getElem? hz))
        · exact absurd h h1
      by_cases e : j = k - 1
      · subst e; rw [hj] at hz; cases hz; exact h2
      · obtain ⟨l1, e1⟩ := List.getElem?_eq_some_iff.1 hj
        obtain ⟨l2, e2⟩ := List.getElem?_eq_some_iff.1 hz
        have := List.pairwise_iff_getElem.1 hsD j (k - 1) l1 l2 (by omega)
        rw [e1, e2] at this
        exact k_lt_trans this h2
    · cases hj
  have hmem : ∀ y, y ∈ insK D x k ↔ y = x ∨ y ∈ D := fun y => by
    unfold insK
    rw [List.mem_append, List.mem_cons]
    constructor
    · rintro (h | h | h)
      · exact .inr (List.mem_of_mem_take h)
      · exact .inl h
      · exact .inr (List.mem_of_mem_drop h)
    · rintro (h | h)
      · exact .inr (.inl h)
      · rw [← List.take_append_drop k D] at h
        rcases List.mem_append.1 h with h | h
        · exact .inl h
        · exact .inr (.inr h)
  have hsI : Srt (insK D x k) := by
    unfold insK
    refine List.pairwise_append.2 ⟨hsD.sub (List.take_sublist k D), List.pairwise_cons.2 ⟨hgt, hsD.sub (List.drop_sublist k D)⟩, fun y hy z hz => ?_⟩
    rcases List.mem_cons.1 hz with rfl | hz
    · exact hlo y hy
    · exact k_lt_trans (hlo y hy) (hgt z hz)
  refine hsI.eq (hs.put x) fun y => ?_
  rw [hmem, mem_putE, ← mem_delE, hD]
set_option maxRecDepth 100000 in
set_option maxHeartbeats 4000000 in
/-- belfryref08.Put. -/
theorem rput_any (w : World) {v : Value} {L D : List E} (h : Lc w v L) (hl : L.length ≤ 99999) (hsL : Srt L) (x : E) (hD : Hid (delE x.k L = D)) {R : List E} (hRe : Hid (putE x L = R)) : Calls Try.prog 13 #[v, .string (bt x.k), .string x.v] w fun r w' => ∃ a cap, r = .returned (.slice a R.length cap) ∧ Rw 33 w' (.slice a R.length cap) R ∧ w.grownBy w' none ∧ ∀ k, (Value.slice a R.length cap).ownBlock = some k → w.heap.size ≤ k := by
  obtain ⟨a, cap, rfl⟩ := h.shape
  have htl := bt_toList
  have hDl : D.length ≤ 99999 := by rw [← hD.out]; have := delE_le x.k L; omega
  have hRl : R.length = D.length + 1 := by rw [← hRe.out, putE_len hsL, hD.out]
  rw [hRl]
  replace hRl : Hid _ := ⟨hRl⟩
  replace hsL : Hid _ := ⟨hsL⟩
  have hdr := rdrop_any w h (by omega) x.k hD
  go_enter Try.func13, Try.ntmps13
  go_wp2_with fail
  refine hdr.mono ?_
  rintro r w2 ⟨da, dc, rfl, hr2, hg2, hn2⟩
  obtain ⟨oa, oc, w4, hrun, hR4⟩ := app_more x ⟨hr2, hg2, hn2⟩ (by omega)
  have hlx : Hid ((D ++ [x]).length = D.length + 1) := ⟨by simp⟩
  rw [hlx.out] at hR4
  clear hdr hr2 hg2 hn2
  go_wp2_with (at_builtin; refine wpList_append_run rfl _ _ 28 rfl _ _ rfl rfl hrun ?_)
  have hnew : Hid (∀ k, (Value.slice oa (D.length + 1) oc).ownBlock = some k → w.heap.size ≤ k) := ⟨hR4.out.2.2⟩
  clear hrun
  go_loopw [8] (fun i wr => ∃ k : Nat, k ≤ D.length ∧ i = .int .i64 k ∧ Hid (Rw 33 wr (.slice oa (D.length + 1) oc) (insK D x k) ∧ w.grownBy wr none ∧ ∀ y ∈ D.drop k, x.k < y.k))
    (fun i _ => (intOf i).toNat)
  case atStart => exact ⟨_, Nat.le_refl _, by first | rfl | go_num | simp, ⟨by rw [insK_len]; exact hR4.out.1, hR4.out.2.1, by simp⟩⟩
  case round =>
    clear hR4
    obtain ⟨k, hk, rfl, hR⟩ := hrel
    obtain ⟨hR1, hR2, hR3⟩ := hR.out
    haveI := lat_nonempty wr
    by_cases hk0 : k = 0
    · subst hk0
      have hfin : Hid (insK D x 0 = R) := ⟨by rw [← hRe.out]; exact insK_put hsL.out hD.out hk hR3 (fun y hy => by omega)⟩
      clear hR
      replace hR1 : Hid _ := ⟨hR1⟩
      replace hR3 : Hid _ := ⟨hR3⟩
      go_wp2_with fail
      refine wp_region_lat (by kernel_rfl) (by kernel_rfl) ?_
      repeat (go_big_quiet_step (fail))
      refine wpQuiet_nil ?_
      intro _ hw'
      obtain ⟨p, hw''⟩ := hw'
      subst hw''
      go_wp2_with fail
      go_ret
      exact ⟨_, _, rfl, World.ownsRow.kept (by rw [← hfin.out]; exact hR1.out) p.h (Classical.em _), grown_none hR2 p.h, hnew.out⟩
    · obtain ⟨m, rfl⟩ : ∃ m, k = m + 1 := ⟨k - 1, by omega⟩
      have hd : decide (((m : Int) + 1) > 0) = true := decide_eq_true (by omega)
      have hd2 : decide (0 < m + 1) = true := decide_eq_true (by omega)
      obtain ⟨d, hdD⟩ := some_at (L := D) (k := m) (by omega)
      have q1 : (insK D x (m + 1))[m + 1]? = some x := insK_at (by omega)
      have q2 : (insK D x (m + 1))[m]? = some d := by rw [insK_lo (by omega) (by omega)]; exact hdD
      obtain ⟨g, rfl, hgl, _, c0, c1, f0⟩ := hR1.at q1
      obtain ⟨g', e', _, _, c2, c3, _⟩ := hR1.at q2
      cases e'
      have hgn : w.heap.size ≤ g := hnew.out g rfl
      have kc0 := lat_cell c0
      have kc2 := lat_cell c2
      have hlD : (m : Int) + 1 < (D.length : Int) + 1 := by omega
      have hlD2 : (m : Int) < (D.length : Int) + 1 := by omega
      replace hk0 : Hid _ := ⟨hk0⟩
      replace hdD : Hid _ := ⟨hdD⟩
      clear hR
      replace hR1 : Hid _ := ⟨hR1⟩
      replace hR3 : Hid _ := ⟨hR3⟩
      clear q1 q2
      by_cases hlt : x.k < d.k
      · have hbl : Op.bytesLess x.k d.k = true := by rw [bytesLess_eq]; simpa using hlt
        replace hlt : Hid _ := ⟨hlt⟩
        go_wp2_with fail
        refine wp_region_lat (by kernel_rfl) (by kernel_rfl) ?_
        repeat (go_big_quiet_step (fail))
        refine wpQuiet_nil ?_
        intro _ hw'
        obtain ⟨p, hw''⟩ := hw'
        subst hw''
        have hp := p.h
        obtain ⟨wp, hwp⟩ : ∃ wp, wp = p.W := ⟨_, rfl⟩
        rw [← hwp] at hp ⊢
        clear hwp p kc0 kc2
        have e0 := grown_cell hp c0
        have e1 := grown_cell hp c1
        have e2 := grown_cell hp c2
        have e3 := grown_cell hp c3
        have hR1' : Hid (Rw 33 wp (.slice (some ⟨g, 0, none⟩) (D.length + 1) oc) (insK D x (m + 1))) := ⟨World.ownsRow.kept hR1.out hp (Classical.em _)⟩
        have f1 : ∀ j, wp.frozen? ⟨g, j, none⟩ = false := fun j => (grown_frozen hp (a := ⟨g, j, none⟩) hgl).trans (f0 j)
        have hgl' : g < wp.heap.size := Nat.lt_of_lt_of_le hgl hp.size
        have hn1 : g ≠ wp.heap.size := by omega
        have hn2 : wp.heap.size ≠ g := by omega
        have e0' := fun o => grown_cell (World.grownBy_alloc wp o none) e0
        have e1' := fun o => grown_cell (World.grownBy_alloc wp o none) e1
        have e2' := fun o => grown_cell (World.grownBy_alloc wp o none) e2
        have e3' := fun o => grown_cell (World.grownBy_alloc wp o none) e3
        have f1' : ∀ o k, (wp.alloc o).frozen? ⟨g, k, none⟩ = false := fun o k => (grown_frozen (World.grownBy_alloc wp o none) (a := ⟨g, k, none⟩) hgl').trans (f1 k)
        clear c0 c1 c2 c3
        go_wp2_with fail
        refine ⟨⟨m, by omega, by first | rfl | go_num | simp, ⟨?_, ?_, ?_⟩⟩, by simp [intOf]⟩
        · have hk2 : m < (insK D x (m + 1)).length := by rw [insK_size D x _ hk]; omega
          have r1 := Rw.set hR1'.out (m + 1) d (by rw [insK_size D x _ hk]; omega)
          have r2 := Rw.set r1 m x (by simpa using hk2)
          rw [insK_down hdD.out] at r2
          exact World.ownsRow.kept r2 (World.grownBy_alloc _ _ none) (Classical.em _)
        · have s1 := ((grown_setCell wp ⟨g, (m + 1) * 2, none⟩ (.string (bt d.k))).trans (grown_setCell _ ⟨g, (m + 1) * 2 + 1, none⟩ (.string d.v))).trans ((grown_setCell _ ⟨g, m * 2, none⟩ (.string (bt x.k))).trans (grown_setCell _ ⟨g, m * 2 + 1, none⟩ (.string x.v)))
          exact grown_add (grown_new (grown_none hR2 hp) s1 hgn) (World.grownBy_alloc _ _ none)
        · intro y hy
          obtain ⟨z, hz, hzd⟩ := drop_cons (List.getElem?_eq_some_iff.1 hdD.out).1
          rw [hdD.out] at hz; cases hz
          rw [hzd] at hy
          rcases List.mem_cons.1 hy with rfl | hy
          · exact hlt.out
          · exact hR3.out y hy
      · have hbl : Op.bytesLess x.k d.k = false := by rw [bytesLess_eq]; simpa using hlt
        have hfin : Hid (insK D x (m + 1) = R) := ⟨by
          rw [← hRe.out]
          exact insK_put hsL.out hD.out hk hR3.out (fun y hy _ => by
            simp only [Nat.add_sub_cancel] at hy
            rw [hdD.out] at hy; cases hy
            exact hlt)⟩
        replace hlt : Hid _ := ⟨hlt⟩
        go_wp2_with fail
        refine wp_region_lat (by kernel_rfl) (by kernel_rfl) ?_
        repeat (go_big_quiet_step (fail))
        refine wpQuiet_nil ?_
        intro _ hw'
        obtain ⟨p, hw''⟩ := hw'
        subst hw''
        go_wp2_with fail
        go_ret
        exact ⟨_, _, rfl, World.ownsRow.kept (by rw [← hfin.out]; exact hR1.out) p.h (Classical.em _), grown_none hR2 p.h, hnew.out⟩
end Go.Proofs.Ytpcdmjalfabbmaa

/- belfryref08.Common. -/
namespace Go.Proofs.Ytpcdmjalfabbmaa
open Go.RowKit Go.IntWalk Go.Maps Go.Shelf
set_option linter.unusedVariables false
set_option maxRecDepth 100000 in
set_option maxHeartbeats 2000000 in
theorem rcommon_any (w : World) (a b : K) (ha : a.length ≤ 1000000) (hb : b.length ≤ 1000000) : Calls Try.prog 36 #[.string (bt a), .string (bt b)] w fun r w' => r = .returned (.string (bt (lcp a b))) ∧ w.grownBy w' none := by
  have sa := bt_size a
  have sb := bt_size b
  have htl := bt_toList
  obtain ⟨R, hR⟩ : ∃ R : K, Hid (lcp a b = R) := ⟨_, ⟨rfl⟩⟩
  rw [hR.out]
  have e8 := u8_beq
  go_enter Try.func36, Try.ntmps36
  go_wp2_with fail
  go_loopw [5] (fun i wr => ∃ k : Nat, Hid (k ≤ a.length ∧ k ≤ b.length) ∧ i = .int .i64 k ∧ Hid (a.take k = b.take k) ∧ w.grownBy wr none)
    (fun i _ => a.length - (intOf i).toNat)
  case atStart => exact ⟨0, ⟨by omega⟩, rfl, ⟨by simp⟩, grown_refl w⟩
  case round =>
    obtain ⟨k, hk, rfl, hT, hg⟩ := hrel
    have hkI : (k : Int) ≤ a.length := by have := hk.out; omega
    have hcut : (bt a).extract 0 k = bt (a.take k) := bt_take a k
    haveI := lat_nonempty wr
    have hend : (k = a.length ∨ k = b.length ∨ a[k]? ≠ b[k]?) → a.take k = R := fun h => by
      have h1 := hk.out
      have h2 : (lcp a b).length = (a.take k).length := by
        rw [lcp_len hT.out (by omega) (by omega) h]
      have h3 : a.take k <+: lcp a b := lcp_max (List.take_prefix k a) (hT.out ▸ List.take_prefix k b)
      rw [← hR.out]
      exact h3.eq_of_length h2.symm
    replace hend : Hid _ := ⟨hend⟩
    by_cases hka : k < a.length
    · have hd1 : decide ((k : Int) < a.length) = true := by simp; omega
      have hdn1 : decide (k < a.length) = true := by simpa using hka
      by_cases hkb : k < b.length
      · have hd2 : decide ((k : Int) < b.length) = true := by simp; omega
        have hdn2 : decide (k < b.length) = true := by simpa using hkb
        obtain ⟨x, hx⟩ : ∃ x, a[k]? = some x := ⟨_, List.getElem?_eq_getElem hka⟩
        obtain ⟨y, hy⟩ : ∃ y, b[k]? = some y := ⟨_, List.getElem?_eq_getElem hkb⟩
        have ix := get_bt hx
        have iy := get_bt hy
        replace hx : Hid _ := ⟨hx⟩
        replace hy : Hid _ := ⟨hy⟩
        by_cases hxy : x = y
        · have hT2 : Hid (a.take (k + 1) = b.take (k + 1)) := ⟨take_step hT.out (by rw [hx.out, hy.out, hxy])⟩
          subst hxy
          go_wp2_with fail
          refine wp_region_lat (by kernel_rfl) (by kernel_rfl) ?_
          repeat (go_big_quiet_step (fail))
          refine wpQuiet_nil ?_
          intro _ hw'
          obtain ⟨p, hw''⟩ := hw'
          subst hw''
          go_wp2_with fail
          go_roundw
          case rel => exact ⟨k + 1, ⟨by omega⟩, by go_num, hT2, grown_none hg p.h⟩
          case measure => simp [intOf]; omega
        · have hq : ((x.toNat : Int) == (y.toNat : Int)) = false := by rw [u8_beq]; simpa using hxy
          have hfin : Hid (a.take k = R) := ⟨hend.out (.inr (.inr (by rw [hx.out, hy.out]; simpa using hxy)))⟩
          have hxd : decide (x = y) = false := decide_eq_false hxy
          go_wp2_with fail
          refine wp_region_lat (by kernel_rfl) (by kernel_rfl) ?_
          repeat (go_big_quiet_step (fail))
          refine wpQuiet_nil ?_
          intro _ hw'
          obtain ⟨p, hw''⟩ := hw'
          subst hw''
          go_wp2_with fail
          go_ret
          exact ⟨by rw [← hfin.out]; rfl, grown_none hg p.h⟩
      · have hd2 : decide ((k : Int) < b.length) = false := by simp; omega
        have hdn2 : decide (k < b.length) = false := by simpa using hkb
        have hfin : Hid (a.take k = R) := ⟨hend.out (.inr (.inl (by have := hk.out; omega)))⟩
        go_wp2_with fail
        refine wp_region_lat (by kernel_rfl) (by kernel_rfl) ?_
        repeat (go_big_quiet_step (fail))
        refine wpQuiet_nil ?_
        intro _ hw'
        obtain ⟨p, hw''⟩ := hw'
        subst hw''
        go_wp2_with fail
        go_ret
        exact ⟨by rw [← hfin.out]; rfl, grown_none hg p.h⟩
    · have hd1 : decide ((k : Int) < a.length) = false := by simp; omega
      have hdn1 : decide (k < a.length) = false := by simpa using hka
      have hfin : Hid (a.take k = R) := ⟨hend.out (.inl (by have := hk.out; omega))⟩
      go_wp2_with fail
      refine wp_region_lat (by kernel_rfl) (by kernel_rfl) ?_
      repeat (go_big_quiet_step (fail))
      refine wpQuiet_nil ?_
      intro _ hw'
      obtain ⟨p, hw''⟩ := hw'
      subst hw''
      go_wp2_with fail
      go_ret
      exact ⟨by rw [← hfin.out]; rfl, grown_none hg p.h⟩
end Go.Proofs.Ytpcdmjalfabbmaa

/- belfryref08.Nodes. -/
namespace Go.Proofs.Ytpcdmjalfabbmaa
open Go.RowKit Go.IntWalk Go.Maps Go.Shelf
set_option linter.unusedVariables false
set_option linter.unusedSimpArgs false
theorem ndl_one {L : List E} {x : E} (hx : L[0]? = some x) : putE ⟨x.k, ⟨#[]⟩⟩ (ndl L 0) = ndl L 1 := by
  show _ = (if 0 = 0 then putE ⟨kAt L 0, bt []⟩ (ndl L 0) else _)
  rw [if_pos rfl, kAt_some hx]
  rfl
theorem ndl_more {L : List E} {x y : E} {m : Nat} (hx : L[m + 1]? = some x) (hy : L[m]? = some y) : putE ⟨lcp y.k x.k, ⟨#[]⟩⟩ (putE ⟨x.k, ⟨#[]⟩⟩ (ndl L (m + 1))) = ndl L (m + 2) := by
  show _ = (if m + 1 = 0 then _ else putE ⟨lcp (kAt L (m + 1 - 1)) (kAt L (m + 1)), bt []⟩ (putE ⟨kAt L (m + 1), bt []⟩ (ndl L (m + 1))))
  rw [if_neg (by omega), Nat.add_sub_cancel, kAt_some hx, kAt_some hy]
  rfl
theorem lc_one (w : World) : Lc (w.alloc (.cells #[.string ⟨#[]⟩, .string ⟨#[]⟩] 33)) (.slice (some ⟨w.heap.size, 0, none⟩) 1 1) [⟨[], ⟨#[]⟩⟩] := by
  refine .inr ⟨w.heap.size, 0, 1, rfl, by simp, by simp, by unfold maxLen; omega, fun j e hj => ?_⟩
  match j, hj with
  | 0, hj =>
    simp at hj
    subst hj
    exact ⟨by simp [bt_nil], by simp⟩
  | j + 1, hj => simp at hj
set_option maxRecDepth 100000 in
set_option maxHeartbeats 4000000 in
theorem rnodes_any (w : World) {v : Value} {L : List E} (h : Lc w v L) (hl : L.length ≤ 1000) (hkm : ∀ x ∈ L, x.k.length ≤ 100000) {z : Nat} (hz : Hid (nds L = z)) : Calls Try.prog 23 #[v] w fun r w' => r = .returned (.int .i64 z) ∧ w.grownBy w' none := by
  obtain ⟨a, cap, rfl⟩ := h.shape
  have htl := bt_toList
  have h1 := lc_one w
  have hg1 := World.grownBy_alloc w (.cells #[.string ⟨#[]⟩, .string ⟨#[]⟩] 33) none
  have hst : Hid (Lc (w.alloc (.cells #[.string ⟨#[]⟩, .string ⟨#[]⟩] 33)) (.slice (some ⟨w.heap.size, 0, none⟩) 1 1) (ndl L 0) ∧ w.grownBy (w.alloc (.cells #[.string ⟨#[]⟩, .string ⟨#[]⟩] 33)) none) := ⟨h1, hg1⟩
  clear h1 hg1
  go_enter Try.func23, Try.ntmps23
  go_wp2_with fail
  go_loopw [3, 4] (fun o i wr => ∃ (j : Nat) (oa : Option Addr) (oc n : Nat), j ≤ L.length ∧ o = .slice oa n oc ∧ i = .int .i64 j ∧ Hid (n = (ndl L j).length) ∧ Hid (Lc wr (.slice oa n oc) (ndl L j) ∧ w.grownBy wr none))
    (fun _ i _ => L.length - (intOf i).toNat)
  case atStart => exact ⟨0, _, 1, 1, by omega, rfl, by first | rfl | go_num, ⟨rfl⟩, hst⟩
  case round =>
    clear hst
    obtain ⟨j, oa, oc, n, hj, rfl, rfl, hn, hS⟩ := hrel
    by_cases hlt : j < L.length
    · have hd : decide ((j : Int) < L.length) = true := by simp; omega
      obtain ⟨x, hx⟩ := some_at hlt
      have hxk := hkm x (List.mem_of_getElem? hx)
      have hnl := ndl_len L j
      obtain ⟨b, off, rfl, hbl, c0, c1⟩ := (h.grown0 hS.out.2).at hx
      obtain ⟨R, hR⟩ : ∃ R, Hid (putE ⟨x.k, ⟨#[]⟩⟩ (ndl L j) = R) := ⟨_, ⟨rfl⟩⟩
      have hRl : R.length ≤ 99999 := by
        have := putE_le (ndl_srt L j) ⟨x.k, ⟨#[]⟩⟩
        rw [hR.out] at this
        omega
      have hRs : Hid (Srt R) := ⟨hR.out ▸ (ndl_srt L j).put _⟩
      have hp1 := rput_any wr hS.out.1 (by omega) (ndl_srt L j) ⟨x.k, ⟨#[]⟩⟩ ⟨rfl⟩ hR
      dsimp only at hp1
      have hgw : Hid (w.grownBy wr none) := ⟨hS.out.2⟩
      have hh : Hid (Lc w (.slice (some ⟨b, off, none⟩) L.length cap) L) := ⟨h⟩
      replace hp1 : Hid _ := ⟨hp1⟩
      clear hS hnl
      replace hx : Hid _ := ⟨hx⟩
      clear h
      go_wp2_with fail
      refine hp1.out.mono ?_
      rintro r w5 ⟨a5, c5, rfl, hr5, hg5, -⟩
      clear hp1 c0 c1
      by_cases hj0 : j = 0
      · subst hj0
        have hR1 : Hid (R = ndl L 1) := ⟨by rw [← hR.out]; exact ndl_one hx.out⟩
        have hfin : Hid (Lc w5 (.slice a5 R.length c5) (ndl L 1) ∧ w.grownBy w5 none) := ⟨by rw [← hR1.out]; exact Lc.of_row hr5, grown_none hgw.out hg5⟩
        clear hr5 hg5
        go_wp2_with fail
        exact ⟨⟨1, a5, c5, R.length, by omega, rfl, by first | rfl | go_num, ⟨by rw [hR1.out]⟩, hfin⟩, by simp [intOf]; omega⟩
      · obtain ⟨m, rfl⟩ : ∃ m, j = m + 1 := ⟨j - 1, by omega⟩
        obtain ⟨y, hy⟩ := some_at (L := L) (k := m) (by omega)
        have hyk := hkm y (List.mem_of_getElem? hy)
        have hgi : decide (((m : Int) + 1) > 0) = true := decide_eq_true (by omega)
        have hgi2 : decide (0 < m + 1) = true := decide_eq_true (by omega)
        have hR2 : Hid (putE ⟨lcp y.k x.k, ⟨#[]⟩⟩ R = ndl L (m + 2)) := ⟨by rw [← hR.out]; exact ndl_more hx.out hy⟩
        have hcm : Hid (∀ w', Calls Try.prog 36 #[.string (bt y.k), .string (bt x.k)] w' fun r w'' => r = .returned (.string (bt (lcp y.k x.k))) ∧ w'.grownBy w'' none) := ⟨fun w' => rcommon_any w' y.k x.k (by omega) (by omega)⟩
        have hx' : Hid (L[m + 1]? = some x ∧ L[m]? = some y) := ⟨hx.out, hy⟩
        have hwm : IntKind.i64.wrap (m : Int) = (m : Int) := i64_in _ ⟨by omega, by omega⟩
        have hm0 : (0 : Int) ≤ (m : Int) := by omega
        have hm00 : (0 : Int) ≤ (m : Int) + 1 := by omega
        have hmt : ((m : Int)).toNat = m := by simp
        have hmt1 : ((m : Int) + 1).toNat = m + 1 := by omega
        have hm1 : (m : Int) + 1 < L.length := by omega
        have hm2 : (m : Int) < L.length := by omega
        clear hy
        have hL5 := hh.out.grown0 (grown_none hgw.out hg5)
        obtain ⟨b', off', e', _, k1, _⟩ := hL5.at hx'.out.1
        cases e'
        obtain ⟨b', off', e', _, k0, _⟩ := hL5.at hx'.out.2
        cases e'
        have hl5 := Lc.of_row hr5
        have hpt : Hid (∀ w', w5.grownBy w' none → Calls Try.prog 13 #[.slice a5 R.length c5, .string (bt (lcp y.k x.k)), .string { data := #[] }] w' fun r w'' => ∃ a cap, r = .returned (.slice a (ndl L (m + 2)).length cap) ∧ Rw 33 w'' (.slice a (ndl L (m + 2)).length cap) (ndl L (m + 2)) ∧ w'.grownBy w'' none ∧ ∀ k, (Value.slice a (ndl L (m + 2)).length cap).ownBlock = some k → w'.heap.size ≤ k) := ⟨fun w' h' => rput_any w' (hl5.grown0 h') hRl hRs.out ⟨lcp y.k x.k, ⟨#[]⟩⟩ ⟨rfl⟩ hR2⟩
        have hg5' : Hid (w.grownBy w5 none) := ⟨grown_none hgw.out hg5⟩
        clear hL5 hr5 hl5 hg5
        go_wp2_with fail
        refine wp_region_held_drew (S := fun w' => w'.cell? ⟨b, off + m * 2, none⟩ = some (.string (bt y.k)) ∧ w'.cell? ⟨b, off + (m + 1) * 2, none⟩ = some (.string (bt x.k))) (by kernel_rfl) (by (try dsimp only); exact ⟨k0, k1⟩) (fun hHeld => ?_)
        refine wpAnyH_take (i := 0) (v := ?_) rfl (by kernel_rfl) (by kernel_rfl) (by kernel_rfl) (fun _ _ _ h => h) (Or.inl ⟨by rfl, ?_⟩) (by assumption) ?_
        rotate_left
        · (intro w hSw; (try dsimp only at hSw); go_simp; try with_reducible rfl)
        try simp only [List.getElem_toArray, List.getElem_cons_zero, List.getElem_cons_succ, Act.put, List.setIfInBounds_toArray, List.set_cons_zero, List.set_cons_succ]
        refine wpAnyH_take (i := 1) (v := ?_) rfl (by kernel_rfl) (by kernel_rfl) (by kernel_rfl) (fun _ _ _ h => h) (Or.inl ⟨by rfl, ?_⟩) (by assumption) ?_
        rotate_left
        · (intro w hSw; (try dsimp only at hSw); go_simp; try with_reducible rfl)
        try simp only [List.getElem_toArray, List.getElem_cons_zero, List.getElem_cons_succ, Act.put, List.setIfInBounds_toArray, List.set_cons_zero, List.set_cons_succ]
        refine wpAnyH_take (i := 2) (v := ?_) rfl (by kernel_rfl) (by kernel_rfl) (by kernel_rfl) (fun _ _ _ h => h) (Or.inl ⟨by rfl, ?_⟩) (by assumption) ?_
        rotate_left
        · (intro w hSw; (try dsimp only at hSw); go_simp; try with_reducible rfl)
        try simp only [List.getElem_toArray, List.getElem_cons_zero, List.getElem_cons_succ, Act.put, List.setIfInBounds_toArray, List.set_cons_zero, List.set_cons_succ]
        refine wpAnyH_take (i := 3) (v := ?_) rfl (by kernel_rfl) (by kernel_rfl) (by kernel_rfl) (fun _ _ _ h => h) (Or.inl ⟨by rfl, ?_⟩) (by assumption) ?_
        rotate_left
        · (intro w hSw; (try dsimp only at hSw); go_simp; try with_reducible rfl)
        try simp only [List.getElem_toArray, List.getElem_cons_zero, List.getElem_cons_succ, Act.put, List.setIfInBounds_toArray, List.set_cons_zero, List.set_cons_succ]
        refine wpAnyH_take (i := 4) (v := ?_) rfl (by kernel_rfl) (by kernel_rfl) (by kernel_rfl) (fun _ _ _ h => h) (Or.inl ⟨by rfl, ?_⟩) (by assumption) ?_
        rotate_left
        · (intro w hSw; (try dsimp only at hSw); go_simp; try with_reducible rfl)
        try simp only [List.getElem_toArray, List.getElem_cons_zero, List.getElem_cons_succ, Act.put, List.setIfInBounds_toArray, List.set_cons_zero, List.set_cons_succ]
        refine wpAnyH_take (i := 5) (v := ?_) rfl (by kernel_rfl) (by kernel_rfl) (by kernel_rfl) (fun _ _ _ h => h) (Or.inl ⟨by rfl, ?_⟩) (by assumption) ?_
        rotate_left
        · (intro w hSw; (try dsimp only at hSw); go_simp; try with_reducible rfl)
        try simp only [List.getElem_toArray, List.getElem_cons_zero, List.getElem_cons_succ, Act.put, List.setIfInBounds_toArray, List.set_cons_zero, List.set_cons_succ]
        refine wpAnyH_take (i := 6) (v := ?_) rfl (by kernel_rfl) (by kernel_rfl) (by kernel_rfl) (fun _ _ _ h => h) (Or.inl ⟨by rfl, ?_⟩) (by assumption) ?_
        rotate_left
        · (intro w hSw; (try dsimp only at hSw); go_simp; try with_reducible rfl)
        try simp only [List.getElem_toArray, List.getElem_cons_zero, List.getElem_cons_succ, Act.put, List.setIfInBounds_toArray, List.set_cons_zero, List.set_cons_succ]
        refine wpAnyH_take (i := 7) (v := ?_) rfl (by kernel_rfl) (by kernel_rfl) (by kernel_rfl) (fun _ _ _ h => h) (Or.inl ⟨by rfl, ?_⟩) (by assumption) ?_
        rotate_left
        · (intro w hSw; (try dsimp only at hSw); go_simp; try with_reducible rfl)
        try simp only [List.getElem_toArray, List.getElem_cons_zero, List.getElem_cons_succ, Act.put, List.setIfInBounds_toArray, List.set_cons_zero, List.set_cons_succ]
        refine wpAnyH_take (i := 8) (v := ?_) rfl (by kernel_rfl) (by kernel_rfl) (by kernel_rfl) (fun _ _ _ h => h) (Or.inl ⟨by rfl, ?_⟩) (by assumption) ?_
        rotate_left
        · (intro w hSw; (try dsimp only at hSw); go_simp; try with_reducible rfl)
        try simp only [List.getElem_toArray, List.getElem_cons_zero, List.getElem_cons_succ, Act.put, List.setIfInBounds_toArray, List.set_cons_zero, List.set_cons_succ]
        refine wpAnyH_take (i := 9) (v := ?_) rfl (by kernel_rfl) (by kernel_rfl) (by kernel_rfl) (fun _ _ _ h => h) (Or.inl ⟨by rfl, ?_⟩) (by assumption) ?_
        rotate_left
        · (intro w hSw; (try dsimp only at hSw); go_simp; try with_reducible rfl)
        try simp only [List.getElem_toArray, List.getElem_cons_zero, List.getElem_cons_succ, Act.put, List.setIfInBounds_toArray, List.set_cons_zero, List.set_cons_succ]
        refine wpAnyH_take (i := 10) (v := ?_) rfl (by kernel_rfl) (by kernel_rfl) (by kernel_rfl) (fun _ _ _ h => h) (Or.inl ⟨by rfl, ?_⟩) (by assumption) ?_
        rotate_left
        · (intro w hSw; (try dsimp only at hSw); go_simp; try with_reducible rfl)
        try simp only [List.getElem_toArray, List.getElem_cons_zero, List.getElem_cons_succ, Act.put, List.setIfInBounds_toArray, List.set_cons_zero, List.set_cons_succ]
        refine wpAnyH_take (i := 11) (v := ?_) rfl (by kernel_rfl) (by kernel_rfl) (by kernel_rfl) (fun _ _ _ h => h) (Or.inl ⟨by rfl, ?_⟩) (by assumption) ?_
        rotate_left
        · (intro w hSw; (try dsimp only at hSw); go_simp; try with_reducible rfl)
        try simp only [List.getElem_toArray, List.getElem_cons_zero, List.getElem_cons_succ, Act.put, List.setIfInBounds_toArray, List.set_cons_zero, List.set_cons_succ]
        refine wpAnyH_ready (rs := [12]) (by kernel_rfl) (by simp) ?_
        refine AllReadyH.cons rfl (fun K hK => ?_) AllReadyH.nil
        go_simp
        refine (hcm.out _).mono ?_
        rintro r w6 ⟨rfl, hg6⟩
        go_wp2_with fail
        refine hK.out _ _ ?_ (fun hHeld => ?_)
        · ((try dsimp only); exact ⟨grown_cell hg6 hHeld.1, grown_cell hg6 hHeld.2⟩)
        clear hK K
        try simp only [List.getElem_toArray, List.getElem_cons_zero, List.getElem_cons_succ, Act.put, List.setIfInBounds_toArray, List.set_cons_zero, List.set_cons_succ]
        refine wpAnyH_ready (rs := [13]) (by kernel_rfl) (by simp) ?_
        refine AllReadyH.cons rfl (fun K hK => ?_) AllReadyH.nil
        go_simp
        refine (hpt.out _ (grown_none (grown_drew _) hg6)).mono ?_
        rintro r w7 ⟨a7, c7, rfl, hr7, hg7, -⟩
        go_wp2_with fail
        refine hK.out _ _ ?_ (fun hHeld => ?_)
        · ((try dsimp only); exact ⟨grown_cell hg7 hHeld.1, grown_cell hg7 hHeld.2⟩)
        clear hK K
        try simp only [List.getElem_toArray, List.getElem_cons_zero, List.getElem_cons_succ, Act.put, List.setIfInBounds_toArray, List.set_cons_zero, List.set_cons_succ]
        refine wpAnyH_take (i := 14) (v := ?_) rfl (by kernel_rfl) (by kernel_rfl) (by kernel_rfl) (fun _ _ _ h => h) (Or.inl ⟨by rfl, ?_⟩) (by assumption) ?_
        rotate_left
        · (intro w hSw; (try dsimp only at hSw); go_simp; try with_reducible rfl)
        try simp only [List.getElem_toArray, List.getElem_cons_zero, List.getElem_cons_succ, Act.put, List.setIfInBounds_toArray, List.set_cons_zero, List.set_cons_succ]
        refine wpAnyH_done (by kernel_rfl) ?_ _
        have hfin : Hid (Lc w7 (.slice a7 (ndl L (m + 2)).length c7) (ndl L (m + 2)) ∧ w.grownBy w7 none) := ⟨Lc.of_row hr7, grown_none hg5'.out (grown_none (grown_none (grown_drew _) hg6) hg7)⟩
        clear hr7 hg6 hg7 hpt hcm hHeld k0 k1
        go_wp2_with fail
        exact ⟨⟨m + 2, a7, c7, _, by omega, rfl, by go_num, ⟨rfl⟩, hfin⟩, by simp [intOf]; omega⟩
    · have hd : decide ((j : Int) < L.length) = false := by simp; omega
      have hfin : Hid (n = z) := ⟨by rw [hn.out, ← hz.out]; unfold nds; rw [show j = L.length by omega]⟩
      go_wp2_with fail
      go_ret
      exact ⟨by rw [hfin.out]; rfl, hS.out.2⟩
end Go.Proofs.Ytpcdmjalfabbmaa
