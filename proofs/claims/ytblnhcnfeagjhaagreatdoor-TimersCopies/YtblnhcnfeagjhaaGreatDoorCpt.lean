/- Table.Copy. -/
import Derived.Test.YtblnhcnfeagjhaaGreatDoorDtt
import Derived.Test.YtblnhcnfeagjhaaGreatDoorAls
import Derived.Test.YtblnhcnfeagjhaaGreatDoorSet
import Derived.Maps.RangeWalk
namespace Go.Proofs.YtblnhcnfeagjhaaGreatDoor
open Go.RowKit Go.IntWalk Go.Maps Go.Shelf
open Go.Proofs (encStr)
set_option linter.unusedVariables false
theorem ranges_kept2 {H : Type} {P : Program} {k : TypeId} {R : Value → Option (DataW H × List MemPlace)} {w w' : World} {b r n : Nat} {D : DataW H} {left : Lit → Bool} {cnt : Nat} (h : w.ranges P k R b r n D left cnt) (hb : w'.heap[b]? = w.heap[b]?) (hr : w'.heap[r]? = w.heap[r]?) : w'.ranges P k R b r n D left cnt := by
  obtain ⟨es, clock, since, seen, c0, hb', F, hs, hD, hr', rest⟩ := h
  exact ⟨es, clock, since, seen, c0, hb.trans hb', F, hs, hD, hr.trans hr', rest⟩
theorem lay_any (w : World) {S : Nat → Prop} {tb : Nat} {now : Int} {M : List Tmr} {L1 : List W.E} {L2 : List Q.E} (h : Tab S w tb now M L1 L2) (x : Tmr) (hx : Sps w.heap.size w x.v x.xs) (hxb : ∀ k, x.v.ownBlock = some k → k < w.heap.size ∧ ¬ S k)
    (hno : ∀ y ∈ M, y.nm ≠ x.nm) (hok : (0 ≤ x.at_ ∧ 0 ≤ x.ev) ∧ tR x = true) (hl : M.length < 10000) :
    Calls Tryz.prog 37 #[ptr tb, x.val] w fun r w' => r = .returned (.tuple #[]) ∧ (∃ L1' L2', Tab (fun k => Gw S w w' k ∨ x.v.ownBlock = some k) w' tb now (x :: M) L1' L2') ∧ Kp S w w' := by
  by_cases ha : x.at_ ≤ now
  · refine (lay_due w h x hx hxb hno hok hl ha).mono ?_
    rintro r w' ⟨rfl, hT, hK⟩
    exact ⟨rfl, ⟨_, _, hT⟩, hK⟩
  · refine (lay_wait w h x hx hxb hno hok hl (by omega)).mono ?_
    rintro r w' ⟨rfl, hT, hK⟩
    exact ⟨rfl, ⟨_, _, hT⟩, hK⟩
def mkT (c : ByteArray × Int × Int × Int × Value) : Value := .agg #[.string c.1, .int .i64 c.2.1, .int .u64 c.2.2.1, .int .u64 c.2.2.2.1, c.2.2.2.2]
theorem tElem_shape {v : Value} {y : DataW Value × List MemPlace} (h : tElem v = some y) : ∃ c, v = mkT c := by
  unfold tElem at h
  split at h
  · rename_i cs
    split at h
    · rename_i a b c d e hl
      refine ⟨(a, b, c, d, e), ?_⟩
      show Value.agg cs = _
      congr 1
      apply Array.toList_inj.1
      exact hl
    · cases h
  · cases h
/-- The loop of Copy. -/
structure CpS (w wr : World) (D : DataW Value) (M : List Tmr) (tc r : Nat) (now : Int) (Mc : List Tmr) (left : Lit → Bool) (cnt : Nat) : Prop where
  tab : ∃ Sc L1c L2c, Tab Sc wr tc now Mc L1c L2c ∧ ∀ k, Sc k → (w.heap.size ≤ k ∧ k < wr.heap.size) ∧ k ≠ r
  gr : w.grownBy wr none
  fro : ∀ y ∈ Mc, ∃ x ∈ M, y = { x with v := y.v }
  come : ∀ n : ByteArray, (∃ y ∈ Mc, y.nm = n) ↔ (Maps.has D (W.ky n) = true ∧ left (W.ky n) = false)
  len : Mc.length + cnt ≤ M.length
  rlow : w.heap.size ≤ r
set_option maxRecDepth 100000 in
set_option maxHeartbeats 4000000 in
theorem copy_t (w : World) {S : Nat → Prop} {tb : Nat} {now : Int} {M : List Tmr} {L1 : List W.E} {L2 : List Q.E} (h : Tab S w tb now M L1 L2) (hnow : 0 ≤ now ∧ now < 18446744073709551616) :
    Calls Tryz.prog 22 #[ptr tb] w fun r w' => ∃ tc Sc Mc L1c L2c, r = .returned (ptr tc) ∧ Tab Sc w' tc now Mc L1c L2c ∧ (∀ k, Sc k → w.heap.size ≤ k ∧ k < w'.heap.size) ∧ (∀ y ∈ Mc, ∃ x ∈ M, y = { x with v := y.v }) ∧ (∀ x ∈ M, ∃ y ∈ Mc, y.nm = x.nm) ∧ w.grownBy w' none := by
  have hck := clock_t w h
  have hnew := new_t w now hnow
  obtain ⟨mb, wb, qb, S1, S2, hT, hfp, hI⟩ := h
  have b0 : w.cell? ⟨tb, 0, none⟩ = some (.map (some mb)) := by simp [World.cell?, hT.blk]
  obtain ⟨D, hM, hP⟩ := hT.tm
  have hsz := hP.size
  have hlen := hI.len
  have hT' : Hid _ := ⟨hT⟩
  have hI' : Hid _ := ⟨hI⟩
  have hM' : Hid _ := ⟨hM⟩
  have hP' : Hid _ := ⟨hP⟩
  replace hck : Hid _ := ⟨hck⟩
  replace hnew : Hid _ := ⟨hnew⟩
  have hmbl := hT.tm.lt
  clear hM hP hT hI hfp
  go_enter Tryz.func22, Tryz.ntmps22
  go_wp2_with fail
  refine hck.out.mono ?_
  rintro r w1 ⟨rfl, rfl⟩
  go_wp2_with fail
  refine hnew.out.mono ?_
  rintro r w2 ⟨tc, rfl, hTc, hg2⟩
  have b0 := grown_cell hg2 b0
  have hM2 : w2.ownsMap Tryz.prog 9 tElem mb (Maps.size D) D := hM'.out.kept (hg2.block mb hmbl (by simp))
  have hrl := hg2.size
  replace hTc : Hid _ := ⟨hTc⟩
  replace hg2 : Hid _ := ⟨hg2⟩
  clear hck hnew
  go_wp2_with (first
    | (at_range; refine wpList_range_own _ rfl _ 68 rfl 9 32 W.keyed9 Tryz.underlying68 _ mb (Maps.size D) _ rfl hM2 ?_; intro w3 hrg0 hg0 hs0)
    | go_in)
  have hst : Hid (CpS w1 w3 D M tc w2.heap.size now [] (Maps.has D) (Maps.size D)) := ⟨⟨⟨_, _, _, hTc.out.keep hg0, fun k hk => ⟨⟨hk.1, by omega⟩, by omega⟩⟩, grown_none hg2.out hg0, by simp, fun n => by cases Maps.has D (W.ky n) <;> simp, by simpa using hsz, hrl⟩⟩
  have hrgH : Hid _ := ⟨hrg0⟩
  clear hrg0 hg0 hs0 hTc hg2 hM2 b0
  go_frame
  go_loopw [] (fun wr => ∃ (left : Lit → Bool) (cnt : Nat) (Mc : List Tmr), Hid (wr.ranges Tryz.prog 9 tElem mb w2.heap.size (Maps.size D) D left cnt) ∧ Hid (CpS w1 wr D M tc w2.heap.size now Mc left cnt)) (fun wr => wr.rangeLeft mb w2.heap.size)
  case atStart => exact ⟨_, _, [], hrgH, hst⟩
  case round =>
    clear hst hrgH
    obtain ⟨left, cnt, Mc, hrg, hR⟩ := hrel
    go_wp2_with (first
      | (at_next; refine wpList_next_ranges _ rfl _ rfl 9 W.keyed9 tElem encStr mkT (fun key kl hk => by obtain ⟨x, hx, _⟩ := Maps.keyOf_str Tryz.underlying9 hk; exact ⟨x, hx⟩) (fun v y hv => tElem_shape hv) mb w2.heap.size (Maps.size D) _ _ _ rfl hrg.out ?_ ?_)
      | go_in)
    · intro hc0 hl0
      have hR' := hR
      clear hrg hR
      go_wp2
      go_ret
      obtain ⟨Sc, L1c, L2c, hTc, hSc⟩ := hR'.out.tab
      refine ⟨tc, Sc, Mc, L1c, L2c, rfl, hTc, fun k hk => (hSc k hk).1, hR'.out.fro, fun x hx => ?_, hR'.out.gr⟩
      exact (hR'.out.come x.nm).2 ⟨(hP'.out.has x hx).1, hl0 _⟩
    · intro xk c1 c2 c3 c4 c5 kl yd yp w4 cnt2 hkey hlk hv hat hrg2 hlt hg4 hs4 hen
      obtain ⟨x', ex, rfl, hxl'⟩ := Maps.keyOf_str Tryz.underlying9 hkey
      obtain rfl : xk = x' := Go.encStr_inj ex
      have hky : Lit.string xk = W.ky ⟨xk.toArray⟩ := by simp [W.ky]
      rw [hky] at hlk hat hrg2
      have hhas : Maps.has D (W.ky ⟨xk.toArray⟩) = true := has_true_of_atKey hat
      obtain ⟨x, hxM, hxn⟩ := hP'.out.all _ hhas
      have hxv : mkT (c1, c2, c3, c4, c5) = x.val := by
        have h1 := (hP'.out.has x hxM).2
        have h2 := tElem_inv hv
        simp only [Prod.mk.injEq] at h2
        rw [hxn, hat, h2.1] at h1
        simpa using h1
      rw [hxv] at hen hv
      rw [← hxn] at hlk hat hrg2
      obtain ⟨Sc, L1c, L2c, hTc, hSc⟩ := hR.out.tab
      have hgw := hR.out.gr
      have hsw := hgw.size
      have hTb := hT'.out
      have hsx := (hTb.sp x hxM).1
      have hxr := (tR_iff x).1 (hI'.out.ok x hxM).2
      have hxl : x.xs.length ≤ 100000 := by
        have := hxr.2.2.2.2
        unfold wrE at this
        split at this <;> omega
      have hgw4 : w1.grownBy w4 none := grown_new hgw hg4 hR.out.rlow
      have hTc4 : Tab Sc w4 tc now Mc L1c L2c := hTc.kept hg4.size fun k hk hl => hg4.block k hl fun e => (hSc k hk).2 (by simpa using e)
      have hs4' := hg4.size
      have hga := World.grownBy_alloc w4 zT none
      have hb8 : (w4.alloc zT).heap[w4.heap.size]? = some (.cells #[.string ⟨#[]⟩, .int .i64 0, .int .u64 0, .int .u64 0, .slice none 0 0] 32 (0, 0)) := World.alloc_heap_new w4 _
      have hno : ∀ y ∈ Mc, y.nm ≠ x.nm := fun y hy e => by
        have := ((hR.out.come x.nm).1 ⟨y, hy, e⟩).2
        rw [hlk] at this
        cases this
      have hokx := hI'.out.ok x hxM
      have hlc := hR.out.len
      have hap : Hid (∀ w', w1.grownBy w' none → Calls Tryz.prog 38 #[x.val] w' fun r w6 => ∃ va vc, r = .returned ({ x with v := .slice va x.xs.length vc } : Tmr).val ∧ Sps w6.heap.size w6 (.slice va x.xs.length vc) x.xs ∧ (∀ k, (Value.slice va x.xs.length vc).ownBlock = some k → w'.heap.size ≤ k ∧ k < w6.heap.size) ∧ w'.grownBy w6 none) := ⟨fun w' hg => by
        refine (apart_any w' x ((hsx.keep hg (Nat.le_refl _)).up hg.size) hxl).mono ?_
        rintro r w6 ⟨v', rfl, hs6, hn6, hg6⟩
        obtain ⟨va, vc, rfl, _⟩ := hs6.shape
        exact ⟨va, vc, rfl, hs6, hn6, hg6⟩⟩
      have hly : Hid (∀ wx wy va vc, w4.grownBy wx none → Sps wy.heap.size wy (.slice va x.xs.length vc) x.xs → (∀ k, (Value.slice va x.xs.length vc).ownBlock = some k → wx.heap.size ≤ k ∧ k < wy.heap.size) → wx.grownBy wy none →
          Calls Tryz.prog 37 #[ptr tc, ({ x with v := .slice va x.xs.length vc } : Tmr).val] wy fun r w' => r = .returned (.tuple #[]) ∧ Hid (w'.ranges Tryz.prog 9 tElem mb w2.heap.size (Maps.size D) D (fun z => left z && !z.sameKey (W.ky x.nm)) cnt2) ∧ Hid (CpS w1 w' D M tc w2.heap.size now ({ x with v := .slice va x.xs.length vc } :: Mc) (fun z => left z && !z.sameKey (W.ky x.nm)) cnt2)) := ⟨fun wx wy va vc hgx hsy hny hgy => by
        have hg4y := grown_none hgx hgy
        have hxs := hgx.size
        have hys := hgy.size
        refine (lay_any wy (hTc4.keep hg4y) { x with v := .slice va x.xs.length vc } hsy (fun k hk => ⟨(hny k hk).2, fun e => by have := (hny k hk).1; have := (hSc k e).1.2; omega⟩) hno hokx (by omega)).mono ?_
        rintro r w' ⟨rfl, ⟨L1', L2', hT2⟩, hK⟩
        have hks := hK.size
        have hrgl := hrg2.lt
        have hrow := hrg2.owns.lt
        refine ⟨rfl, ⟨ranges_kept2 (ranges_kept2 hrg2 (hg4y.block _ hrow (by simp)) (hg4y.block _ hrgl (by simp))) (hK.block _ (by omega) fun e => by have := (hSc _ e).1.1; omega) (hK.block _ (by omega) fun e => (hSc _ e).2 rfl)⟩, ⟨⟨⟨_, L1', L2', hT2, fun k hk => ?_⟩, ?_, fun y hy => ?_, fun n => ?_, ?_, ?_⟩⟩⟩
        · rcases hk with (hk | hk) | hk
          · have := hSc k hk
            exact ⟨⟨this.1.1, by omega⟩, this.2⟩
          · exact ⟨⟨by omega, hk.2⟩, by omega⟩
          · have := hny k hk
            exact ⟨⟨by omega, by omega⟩, by omega⟩
        · have hg1 := grown_none hgw4 hg4y
          exact ⟨hK.os.trans hg1.os, hK.tape.trans hg1.tape, hK.output.trans hg1.output, Nat.le_trans hg1.size hK.size, fun k hk _ => (hK.block k (by have := hg1.size; omega) fun e => by have := (hSc k e).1.1; omega).trans (hg1.block k hk (by simp))⟩
        · rcases List.mem_cons.1 hy with rfl | hy
          · exact ⟨x, hxM, rfl⟩
          · exact hR.out.fro y hy
        · have e : Lit.sameKey (W.ky n) (W.ky x.nm) = decide (n = x.nm) := by
            by_cases hn : n = x.nm
            · subst hn
              simp [W.ky, Lit.sameKey]
            · have : ¬ n.data = x.nm.data := fun e => hn (ba_list (by rw [e]))
              simp [W.ky, Lit.sameKey, hn, this]
          rw [e]
          by_cases hn : n = x.nm
          · subst hn
            simp [(hP'.out.has x hxM).1]
          · have := hR.out.come n
            simp only [List.mem_cons, exists_eq_or_imp]
            simp only [hn, decide_false, Bool.not_false, Bool.and_true]
            rw [← this]
            constructor
            · rintro (h | h)
              · exact absurd h.symm hn
              · exact h
            · exact fun h => .inr h
        · simp only [List.length_cons]
          omega
        · exact hR.out.rlow⟩
      have hmeas : Hid (∀ w' : World, w'.ranges Tryz.prog 9 tElem mb w2.heap.size (Maps.size D) D (fun z => left z && !z.sameKey (W.ky x.nm)) cnt2 → w'.rangeLeft mb w2.heap.size < wr.rangeLeft mb w2.heap.size) := ⟨fun w' h => by rw [h.left_eq, hrg.out.left_eq]; exact hlt⟩
      obtain ⟨xa, xc, hxs, _⟩ := hsx.shape
      obtain ⟨nm, vr, at_, ev, sv, xs⟩ := x
      simp only at hxs
      subst hxs
      simp only [Tmr.val] at hen hap hly
      have hgw4H : Hid _ := ⟨hgw4⟩
      replace hga : Hid _ := ⟨hga⟩
      clear hat hv hlk hrg2 hno hTc hTc4 hSc hR hrg hgw hTb hsx hokx hxM hxn hxv hhas hgw4 hg4 hs4 hkey ex
      go_wp2_with (first
        | (refine wpList_store5 rfl _ _ rfl rfl w4.heap.size #[.string nm, .int .i64 vr, .int .u64 at_, .int .u64 ev, .slice xa xs.length xc] rfl rfl hb8 rfl rfl rfl ?_
           intro w5 hb5 hg5
           obtain ⟨c0, c1, c2, c3, c4, f0⟩ := own_five hb5
           clear hb8))
      have hg45 : Hid (w4.grownBy w5 none) := ⟨grown_new hga.out hg5 (Nat.le_refl _)⟩
      have hap5 := hap.out w5 (grown_none hgw4H.out hg45.out)
      replace hap5 : Hid _ := ⟨hap5⟩
      clear hga hg5 hap
      go_wp2_with fail
      refine hap5.out.mono ?_
      rintro r w6 ⟨va, vc, rfl, hs6, hn6, hg6⟩
      have hly6 := hly.out w5 w6 va vc hg45.out hs6 hn6 hg6
      replace hly6 : Hid _ := ⟨hly6⟩
      clear hap5 hs6 hn6 hg6 hly hg45 c0 c1 c2 c3 c4 hb5
      go_wp2_with fail
      refine hly6.out.mono ?_
      rintro r w7 ⟨rfl, hr7, hC7⟩
      clear hly6
      go_wp2_with fail
      go_roundw
      case rel => exact ⟨_, cnt2, _, hr7, hC7⟩
      case measure => exact hmeas.out _ hr7.out
end Go.Proofs.YtblnhcnfeagjhaaGreatDoor
