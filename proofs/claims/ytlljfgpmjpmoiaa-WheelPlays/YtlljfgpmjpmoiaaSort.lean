/- Timers sorted: slices.SortFunc by compare; set.inOrder. -/
import Derived.Test.YtlljfgpmjpmoiaaSets
namespace Go.Proofs.Ytlljfgpmjpmoiaa
open Go.RowKit Go.IntWalk Go.Maps Go.Shelf Go.Sort
set_option linter.unusedVariables false
theorem lt_cf (x y : E) : ltOf cfE x y = ltb x y := by
  unfold ltOf cfE c3
  cases h : ltb x y <;> cases k : ltb y x <;> simp
theorem swo_cf : SWO (ltOf cfE) := {
  irrefl := fun x => by rw [lt_cf]; exact ltb_f (lt_irrefl x)
  trans := fun x y z h1 h2 => by rw [lt_cf] at *; exact ltb_iff.2 (lt_trans (ltb_iff.1 h1) (ltb_iff.1 h2))
  ntrans := fun x y z h1 h2 => by
    rw [lt_cf] at *
    refine ltb_f (nlt_trans (fun h => ?_) (fun h => ?_) (b := y))
    · rw [ltb_iff.2 h] at h1; cases h1
    · rw [ltb_iff.2 h] at h2; cases h2 }
theorem tot_cf (x y : E) (h1 : ltOf cfE x y = false) (h2 : ltOf cfE y x = false) : x = y := by
  rw [lt_cf] at h1 h2
  rcases lt_tri x y with h | h | h
  · rw [ltb_iff.2 h] at h1; cases h1
  · exact h
  · rw [ltb_iff.2 h] at h2; cases h2
theorem flat_cells [Inhabited E] (es : List E) : flatK E.cells 2 es.toArray = (cellsE es).toArray := by
  apply Array.ext
  · simp [cellsE_len]
  · intro j h1 h2
    have hj : j < es.length * 2 := by simpa using h1
    have hj2 : j / 2 < es.length := by omega
    have h3 := cellsE_at (List.getElem?_eq_getElem hj2)
    have h4 : (flatK E.cells 2 es.toArray)[j]! = (flatK E.cells 2 es.toArray)[j] := getElem!_pos _ j h1
    rw [← h4, get_flatK _ _ _ _ (by simpa using hj)]
    have h5 : es.toArray[j / 2]! = es[j / 2] := by rw [getElem!_pos _ _ (by simpa using hj2)]; simp
    rw [h5]
    apply Option.some.inj
    have h6 : some (cellsE es).toArray[j] = (cellsE es)[j]? := by rw [List.getElem?_eq_getElem (by rw [cellsE_len]; exact hj)]; simp
    rw [h6]
    rcases Nat.mod_two_eq_zero_or_one j with h7 | h7
    · have h8 : j = j / 2 * 2 := by omega
      rw [h7]
      conv => rhs; rw [h8]
      rw [h3.1]
      rfl
    · have h8 : j = j / 2 * 2 + 1 := by omega
      rw [h7]
      conv => rhs; rw [h8]
      rw [h3.2]
      rfl
theorem holds_row [Inhabited E] {w : World} {g cap : Nat} {es : List E} (h : Rw 52 w (.slice (some ⟨g, 0, none⟩) es.length cap) es) : HoldsK E.cells 2 w g 0 es.toArray := by
  unfold HoldsK
  rw [flat_cells]
  intro j hj
  have hj' : j < (cellsE es).length := by simpa using hj
  have h1 := h.cells (g := g) rfl j _ (List.getElem?_eq_getElem hj')
  rw [addr_add] at h1
  refine ⟨?_, ?_⟩
  · rw [h1, getElem!_pos _ j hj]
    simp
  · rcases h.2 with ⟨e, _⟩ | ⟨g', c, cur, e, _, hb, _⟩
    · cases e
    · simp only [Value.slice.injEq, Option.some.injEq, Addr.mk.injEq] at e
      rw [← e.1.1] at hb
      simp [World.frozen?, hb]
theorem take_put (cur : Array Value) (ts : List Value) (h : ts.length ≤ cur.size) : (putCells id 0 ts.toArray cur).toList.take ts.length = ts := by
  apply List.ext_getElem?
  intro j
  by_cases hj : j < ts.length
  · rw [List.getElem?_take_of_lt hj, Array.getElem?_toList]
    simp [putCells, hj, show j < cur.size by omega]
  · rw [List.getElem?_take_eq_none (by omega), List.getElem?_eq_none (by omega)]
theorem row_sorted [Inhabited E] {w : World} {g cap n : Nat} {os : Array Obj} {es ts : List E} (hl : ts.length = es.length) (h : Rw 52 w (.slice (some ⟨g, 0, none⟩) es.length cap) es) :
    Rw 52 (sortWorldK E.cells 2 w g 0 n ts.toArray os) (.slice (some ⟨g, 0, none⟩) es.length cap) ts ∧ w.grownBy (sortWorldK E.cells 2 w g 0 n ts.toArray os) (some g) := by
  unfold sortWorldK putRowK
  rw [flat_cells]
  constructor
  · rcases h with ⟨h1, ⟨e, h0⟩ | ⟨g', c, cur, e, h0, hb, hn, hm, hs, ht⟩⟩
    · cases e
    · simp only [Value.slice.injEq, Option.some.injEq, Addr.mk.injEq] at e
      obtain ⟨⟨rfl, _⟩, _, rfl⟩ := e
      have hg : g < w.heap.size := (Array.getElem?_eq_some_iff.1 hb).1
      refine ⟨by rw [cellsE_len], .inr ⟨g, cap, putCells id 0 (cellsE ts).toArray cur, by rw [hl], h0, ?_, by omega, hm, by simp [putCells, hs], ?_⟩⟩
      · rw [heap_grow_old _ _ (by simpa using hg)]
        simp [putRow, mapBlock, Sort.ahead, Array.getElem?_modify, hb, onCells]
      · have := take_put cur (cellsE ts) (by rw [cellsE_len]; omega)
        rw [cellsE_len] at this
        exact this
  · refine ⟨rfl, rfl, rfl, by simp, fun k hk hne => ?_⟩
    rw [heap_grow_old _ _ (by simpa using hk)]
    have : g ≠ k := fun e => hne (by rw [e])
    simp [putRow, mapBlock, Sort.ahead, Array.getElem?_modify, this]
theorem agg52 : ∀ w, (isAgg 52).run Try.prog w = .ok true w := Try.isAgg52
theorem size52 : ∀ w, (Go.sizeOf 52).run Try.prog w = .ok 2 w := Try.sizeOf52
theorem cmp_lays [Inhabited E] (g size : Nat) (w : World) : CmpLays Try.prog 33 #[] E.cells 2 cfE g 0 size w := fun m os dk _ x y => (compare_any x y _).mono fun e w' ⟨he, hw⟩ => by subst hw; exact ⟨he, 0, _, by rw [alloc_eq_grow, alloc_eq_grow, grow_grow]; rfl⟩
/-- In order, as a list that was sorted is. -/
theorem sorted_up {ss : List E} : (ss.mergeSort fun x y => !ltOf cfE y x).Pairwise (fun x y => ¬ lt y x) := by
  refine (List.pairwise_mergeSort (le := fun x y => !ltOf cfE y x) (fun a b c h1 h2 => ?_) (fun a b => ?_) ss).imp fun {a b} h => ?_
  · simp only [lt_cf, Bool.not_eq_true'] at *
    refine ltb_f (nlt_trans (b := b) (fun h => ?_) (fun h => ?_))
    · rw [ltb_iff.2 h] at h2; cases h2
    · rw [ltb_iff.2 h] at h1; cases h1
  · simp only [lt_cf]
    cases h : ltb b a with
    | false => rfl
    | true => rw [ltb_f (lt_asymm (ltb_iff.1 h))]; rfl
  · simp only [lt_cf, Bool.not_eq_true'] at h
    intro hl
    rw [ltb_iff.2 hl] at h
    cases h
set_option maxHeartbeats 1000000 in
/-- slices.SortFunc by compare. -/
theorem sort_any (w : World) {g cap : Nat} {ss : List E} (h : Rw 52 w (.slice (some ⟨g, 0, none⟩) ss.length cap) ss) (hl : ss.length ≤ 100000) :
    Calls Try.prog 32 #[.slice (some ⟨g, 0, none⟩) ss.length cap, .func (.func 33) #[] #[]] w fun r w' => r = .returned (.tuple #[]) ∧ ∃ ts, Rw 52 w' (.slice (some ⟨g, 0, none⟩) ss.length cap) ts ∧ ts.Perm ss ∧ ts.Pairwise (fun x y => ¬ lt y x) ∧ w.grownBy w' (some g) := by
  haveI : Inhabited E := ⟨⟨⟨#[]⟩, 0⟩⟩
  have eg : ∀ args w, (callFunc 33 args).run Try.prog w = .ok (.enter 33 args) w := enters_of Try.func33 (by kernel_rfl) rfl
  have hgl : g < w.heap.size := by
    rcases h.2 with ⟨e, _⟩ | ⟨g', c, cur, e, _, hb, _⟩
    · cases e
    · simp only [Value.slice.injEq, Option.some.injEq, Addr.mk.injEq] at e
      rw [← e.1.1] at hb
      exact (Array.getElem?_eq_some_iff.1 hb).1
  have hc := AnyQ.slices_SortFunc_total Try.sortT 2 agg52 size52 E.cells (fun _ => rfl) (fun x v hv => by simp [E.cells] at hv; rcases hv with rfl | rfl <;> rfl) cfE swo_cf 33 #[] g 0 cap ss.toArray w eg (cmp_lays g _ w) (holds_row h) hgl (by simp; omega) tot_cf
  refine hc.mono ?_
  rintro r w' ⟨rfl, n, os, rfl⟩
  have hp := List.mergeSort_perm ss (fun x y => !ltOf cfE y x)
  obtain ⟨h1, h2⟩ := row_sorted (n := n) (os := os) (ts := ss.mergeSort fun x y => !ltOf cfE y x) hp.length_eq h
  exact ⟨rfl, _, h1, hp, sorted_up, h2⟩
theorem sort_none (w : World) (p : Option Addr) (cap : Nat) (fv : Value) : Calls Try.prog 32 #[.slice p 0 cap, fv] w fun r w' => r = .returned (.tuple #[]) ∧ w' = w := AnyF.slices_SortFunc_none Try.sortT p cap fv w
/-- Names once, in order: the one list in order. -/
theorem Srt.of_up {l L : List E} (hs : Srt L) (hn : l.Nodup) (hu : l.Pairwise (fun x y => ¬ lt y x)) (hm : ∀ x, x ∈ l ↔ x ∈ L) : l = L := by
  have h1 : l.Pairwise lt := by
    rw [List.nodup_iff_pairwise_ne] at hn
    refine (hn.and hu).imp fun {a b} ⟨h1, h2⟩ => ?_
    rcases lt_tri a b with h | h | h
    · exact h
    · exact absurd h h1
    · exact absurd h h2
  exact Srt.eq ⟨h1, fun x hx y hy e => hs.un x ((hm x).1 hx) y ((hm y).1 hy) e⟩ hs hm
set_option maxRecDepth 100000 in
set_option maxHeartbeats 1000000 in
/-- set.inOrder. -/
theorem inOrder_any (w : World) {b : Nat} {l : List E} (h : Sset w b l) (hl : l.length ≤ 100000) (hs : Srt l) :
    Calls Try.prog 39 #[.map (some b)] w fun r w' => ∃ a cap, r = .returned (.slice a l.length cap) ∧ Rw 52 w' (.slice a l.length cap) l ∧ (∀ k, (Value.slice a l.length cap).ownBlock = some k → w.heap.size ≤ k) ∧ w.grownBy w' none := by
  go_enter Try.func39, Try.ntmps39
  go_wp2_with fail
  refine (timers_any w h hl).mono ?_
  rintro r w1 ⟨g, cap, ss, rfl, hr, hg, hn, hm, hgr⟩
  have hlen : Hid (ss.length = l.length) := ⟨len_mem hn h.nd hm⟩
  go_wp2_with fail
  refine (sort_any w1 hr (by have := hlen.out; omega)).mono ?_
  rintro r w2 ⟨rfl, ts, hr2, hp, hu, hg2⟩
  have hts : ts = l := hs.of_up (hp.nodup_iff.2 hn) hu fun x => (hp.mem_iff).trans (hm x)
  have hg3 := grown_new hgr hg2 hg
  replace hr2 : Hid _ := ⟨hr2⟩
  replace hm : Hid _ := ⟨hm⟩
  replace hg2 : Hid _ := ⟨hg2⟩
  replace hts : Hid _ := ⟨hts⟩
  go_wp2
  go_ret
  refine ⟨_, _, by rw [← hlen.out]; rfl, ?_, ?_, hg3⟩
  · rw [← hlen.out, ← hts.out]; exact hr2.out
  · intro k hk
    simp [Value.ownBlock] at hk
    subst hk
    exact hg
end Go.Proofs.Ytlljfgpmjpmoiaa
