/- told; Same; lists of texts. -/
import Derived.Test.YtpcdmjalfabbmaaOrw
namespace Go.Proofs.Ytpcdmjalfabbmaa
open Go.RowKit Go.IntWalk Go.Maps Go.Shelf
set_option linter.unusedVariables false
set_option maxRecDepth 100000 in
set_option maxHeartbeats 4000000 in
/-- belfryref08.Same, of a list and itself. -/
theorem same_any {w : World} {a a2 : Option Addr} {cap cap2 : Nat} {L : List E} (h1 : Rw 33 w (.slice a L.length cap) L) (h2 : Rw 33 w (.slice a2 L.length cap2) L) (hl : L.length ≤ 100000) :
    Calls Try.prog 17 #[.slice a L.length cap, .slice a2 L.length cap2] w fun r w' => r = .returned (.bool true) ∧ w.grownBy w' none := by
  go_enter Try.func17, Try.ntmps17
  go_wp2_with fail
  go_loopw [5] (fun i wr => ∃ j : Nat, j ≤ L.length ∧ i = .int .i64 j ∧ Hid (w.grownBy wr none))
    (fun i _ => L.length - (intOf i).toNat)
  case atStart => exact ⟨0, by omega, rfl, ⟨grown_refl w⟩⟩
  case round =>
    obtain ⟨j, hj, rfl, hR⟩ := hrel
    by_cases hlt : j < L.length
    · have hd : decide ((j : Int) < L.length) = true := by simp; omega
      obtain ⟨x, hx⟩ : ∃ x, L[j]? = some x := ⟨_, List.getElem?_eq_getElem hlt⟩
      obtain ⟨g, rfl, _, _, k0, k1, _⟩ := h1.at hx
      obtain ⟨b, rfl, hbl, _, m0, m1, _⟩ := h2.at hx
      have hq1 : ((bt x.k).toList != (bt x.k).toList) = false := by simp
      have hq2 : (x.v.toList != x.v.toList) = false := by simp
      haveI := lat_nonempty wr
      have kc0 := lat_cell (grown_cell hR.out k0)
      have kc1 := lat_cell (grown_cell hR.out k1)
      have kc2 := lat_cell (grown_cell hR.out m0)
      have kc3 := lat_cell (grown_cell hR.out m1)
      replace hx : Hid _ := ⟨hx⟩
      clear k0 k1 m0 m1
      go_wp2_with fail
      refine wp_region_lat (by kernel_rfl) (by kernel_rfl) ?_
      repeat (go_big_quiet_step (fail))
      refine wpQuiet_nil ?_
      intro _ hw'
      obtain ⟨p, hw''⟩ := hw'
      subst hw''
      have hR2 : Hid (w.grownBy p.W none) := ⟨grown_none hR.out p.h⟩
      clear kc0 kc1 kc2 kc3
      go_wp2_with fail
      go_roundw
      case rel => exact ⟨j + 1, by omega, by go_num, hR2⟩
      case measure => simp [intOf]; omega
    · have hd : decide ((j : Int) < L.length) = false := by simp; omega
      go_wp2_with fail
      go_ret
      exact ⟨rfl, hR.out⟩
theorem Try.info33 : (Try.prog.info? 33).map (fun i => (i.zero, i.size, i.bytes)) = some (some (.agg #[.string ByteArray.empty, .string ByteArray.empty]), 2, 32) := by kernel_rfl
theorem step_app33 {ops : Array Oper} {o : Oper} {a : Act} {w : World} {K : Act → World → Prop} {Q : Exit → Act → World → Prop} {E' : Prop} (hgd : o.guard = none) (sl x : Operand) (hop : o.op = Op.call { callee := Callee.builtin Builtin.append, args := #[sl, x], argTypes := #[28, 28] })
    {v : Value} {es : List E} {e : E} {B base : Nat} (hs : a.eval sl = v) (hx : a.eval x = .slice (some ⟨B, 0, none⟩) 1 1) (hown : w.ownsRow base 33 2 v es.length (cellsE es)) (h0 : w.cell? ⟨B, 0, none⟩ = some (.string (bt e.k))) (h1 : w.cell? ⟨B, 1, none⟩ = some (.string e.v)) (hl : es.length ≤ 100000) (hb : base ≤ w.heap.size)
    (hK : ∀ v' w', w'.ownsRow base 33 2 v' (es ++ [e]).length (cellsE (es ++ [e])) → w.grownBy w' v.ownBlock → K (a.put o.dst v') w') :
    if Region.wanted o (yielded ops a.tmps) = true then Oper.wp Try.prog o a w K Q else E' := by
  obtain ⟨i0, hi, hz0, hz1, hz2⟩ := info_parts Try.info33
  obtain ⟨v', w', hrun, hr, hg, _⟩ := run_append_own (P := Try.prog) w base 28 o.type 33 i0 (.agg #[.string ByteArray.empty, .string ByteArray.empty]) 2 32 Try.underlying28 hi hz0 hz1 hz2 rfl (by decide) v es.length _ hown ⟨B, 0, none⟩ 1 1 e.cells rfl
    (fun j u hj => by
      rw [addr_add, Nat.zero_add]
      match j, hj with
      | 0, hj => simp [E.cells] at hj; subst hj; exact h0
      | 1, hj => simp [E.cells] at hj; subst hj; exact h1
      | j + 2, hj => simp [E.cells] at hj) (fun u hu => by
        simp only [E.cells, List.mem_cons, List.not_mem_nil, or_false] at hu
        rcases hu with rfl | rfl <;> rfl) (by unfold maxLen; omega) (by omega) hb
  have e1 : cellsE es ++ e.cells = cellsE (es ++ [e]) := by rw [cellsE_app]; simp [cellsE]
  rw [e1] at hr
  have hw : Region.wanted o (yielded ops a.tmps) = true := by simp [Region.wanted, hgd]
  rw [if_pos hw]
  unfold Oper.wp
  simp [execOp, hop, resolve, invoke, builtin, hs, hx, hrun, Result.andThen]
  exact hK v' w' (by rw [List.length_append]; exact hr) hg
set_option maxRecDepth 100000 in
set_option maxHeartbeats 4000000 in
/-- belfrylaw08.told. -/
theorem told_any {w : World} {a : Option Addr} {cap : Nat} {L : List E} (h : Rw 46 w (.slice a L.length cap) L) (hl : L.length ≤ 10000) :
    Calls Try.prog 18 #[.slice a L.length cap] w fun r w' => ∃ a' cap', r = .returned (.slice a' L.length cap') ∧ w'.ownsRow w.heap.size 33 2 (.slice a' L.length cap') L.length (cellsE L) ∧ w.grownBy w' none := by
  go_enter Try.func18, Try.ntmps18
  go_wp2_with fail
  go_loopw [3, 4] (fun v iv wr => ∃ i : Nat, i ≤ L.length ∧ iv = .int .i64 i ∧ Hid (wr.ownsRow w.heap.size 33 2 v (L.take i).length (cellsE (L.take i)) ∧ w.grownBy wr none))
    (fun _ iv _ => L.length - (intOf iv).toNat)
  case atStart => exact ⟨0, by omega, rfl, ⟨by simpa [cellsE] using World.ownsRow_nil w w.heap.size 33 2, grown_refl w⟩⟩
  case round =>
    obtain ⟨i, hi, rfl, hR⟩ := hrel
    by_cases hlt : i < L.length
    · have hd : decide ((i : Int) < L.length) = true := by simp; omega
      obtain ⟨x, hx⟩ : ∃ x, L[i]? = some x := ⟨_, List.getElem?_eq_getElem hlt⟩
      obtain ⟨g, rfl, hgl, _, k0, k1, _⟩ := h.at hx
      have k0 := grown_cell hR.out.2 k0
      have k1 := grown_cell hR.out.2 k1
      have hls : (L.take i).length = i := by rw [List.length_take]; omega
      have hown : ∀ k, u3.ownBlock = some k → w.heap.size ≤ k ∧ k < wr.heap.size := fun k hk => by
        rcases id hR.out.1.2 with ⟨e, _⟩ | ⟨g', cp, cur, e, hge, hg6, _⟩
        · rw [e] at hk; cases hk
        · rw [e] at hk
          simp only [Value.ownBlock, Option.some.injEq] at hk
          subst hk
          exact ⟨hge, (Array.getElem?_eq_some_iff.1 hg6).1⟩
      have hgr := hR.out.2
      have hws := hgr.size
      have hrow := hR.out.1
      replace hls : Hid _ := ⟨hls⟩
      replace hown : Hid _ := ⟨hown⟩
      replace hx : Hid _ := ⟨hx⟩
      clear hR
      go_wp2_with fail
      go_region_held3 (fun w' => w'.cell? ⟨g, i * 2, none⟩ = some (.string (bt x.k)) ∧ w'.cell? ⟨g, i * 2 + 1, none⟩ = some (.string x.v))
        (first
          | go_keep
          | (go_split_ands
             refine ⟨?_, ?_⟩
             · (exact hg4.cell (by assumption) (fun e => by have := (hown.out g e.symm).1; omega))
             · (exact hg4.cell (by assumption) (fun e => by have := (hown.out g e.symm).1; omega))))
        ((refine step_app33 (by rfl) _ _ (by rfl) (v := u3) (es := L.take i) (e := x) (B := wr.heap.size) (base := w.heap.size) (by rfl) (by rfl) ((hrow.alloc _).drew) (by simp) (by simp) (by have := hls.out; omega) (by simp; omega) ?_; intro v4 w4 hr4 hg4))
      have hg5 : w.grownBy w4 none := (grown_none (grown_none hgr (World.grownBy_alloc wr (.cells #[.string (bt x.k), .string x.v] 33) none)) (grown_drew _)).andThen hg4 fun j hj => .inl (hown.out j hj).1
      have hR2 : Hid (w4.ownsRow w.heap.size 33 2 v4 (L.take (i + 1)).length (cellsE (L.take (i + 1))) ∧ w.grownBy w4 none) := ⟨by
        rw [List.take_add_one, hx.out]
        exact ⟨hr4, hg5⟩⟩
      clear hr4 hg4 hrow hgr hg5
      go_wp2_with fail
      go_roundw
      case rel => exact ⟨i + 1, by omega, by go_num, hR2⟩
      case measure => simp [intOf]; omega
    · have hd : decide ((i : Int) < L.length) = false := by simp; omega
      obtain ⟨hr, hg⟩ := hR.out
      rw [List.take_of_length_le (by omega)] at hr
      obtain ⟨a', c', hv⟩ : ∃ a' c', u3 = .slice a' L.length c' := by
        rcases id hr.2 with ⟨rfl, h0⟩ | ⟨g, cp, cur, e, _⟩
        · exact ⟨none, 0, by rw [h0]⟩
        · exact ⟨_, _, e⟩
      subst hv
      replace hr : Hid _ := ⟨hr⟩
      go_wp2_with fail
      go_ret
      exact ⟨_, _, rfl, hr.out, hg⟩
end Go.Proofs.Ytpcdmjalfabbmaa
