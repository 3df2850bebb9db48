/- What a disk's Segments does. -/
import Derived.Test.YtgblekdllcngnaaSort
namespace Go.Proofs.Ytgblekdllcngnaa
open Go.RowKit Go.IntWalk Go.Maps Go.Sort
set_option linter.unusedVariables false

theorem Try.info3 : (Try.prog.info? 3).map (fun i => (i.zero, i.size, i.bytes)) = some (some (.int .i64 0), 1, 8) := by kernel_rfl

/-- ss: the numbers that have come. -/
def Come (l : List Sg) (left : Lit → Bool) (ss : List Int) : Prop := ss.Nodup ∧ ∀ x, x ∈ ss ↔ ((getS x l).isSome = true ∧ left (.int .i64 x) = false)
theorem Come.start (l : List Sg) : Come l (Maps.has (DM l)) [] := ⟨List.nodup_nil, fun x => by rw [DM_has]; cases (getS x l).isSome <;> simp⟩
theorem Come.step {l : List Sg} {left : Lit → Bool} {ss : List Int} (h : Come l left ss) {x : Int} (hlk : left (.int .i64 x) = true) (hat : (getS x l).isSome = true) : Come l (fun z => left z && !z.sameKey (.int .i64 x)) (ss ++ [x]) := by
  have hx : x ∉ ss := fun hm => by
    have := ((h.2 x).1 hm).2
    rw [hlk] at this
    cases this
  refine ⟨List.nodup_append.2 ⟨h.1, by simp, fun a ha b hb => by simp at hb; rintro rfl; exact hx (hb ▸ ha)⟩, fun y => ?_⟩
  have e : Lit.sameKey (.int .i64 y) (.int .i64 x) = decide (y = x) := by simp [Lit.sameKey]
  simp only [List.mem_append, List.mem_singleton, e, h.2 y]
  by_cases hyx : y = x
  · subst hyx
    simp [hat]
  · simp [hyx]
theorem map_up {l : List Sg} (h : Up l) : (l.map Sg.n).Pairwise (· < ·) := List.pairwise_map.2 h
theorem Come.sorted {l : List Sg} {left : Lit → Bool} {ss : List Int} (h : Come l left ss) (hu : Up l) (hl : ∀ kl, left kl = false) : ss.mergeSort (fun x y => decide (x ≤ y)) = l.map Sg.n := by
  have hp : ss.Perm (l.map Sg.n) := by
    refine (List.perm_ext_iff_of_nodup h.1 ((map_up hu).imp fun hlt => by omega)).2 fun x => ?_
    rw [h.2 x]
    constructor
    · intro h1
      obtain ⟨y, hy⟩ := Option.isSome_iff_exists.1 h1.1
      obtain ⟨h3, h4⟩ := getS_mem hy
      exact List.mem_map.2 ⟨y, h3, h4⟩
    · intro hm
      obtain ⟨y, h3, rfl⟩ := List.mem_map.1 hm
      exact ⟨by rw [hu.get h3]; rfl, hl _⟩
  have hs1 : (ss.mergeSort fun x y => decide (x ≤ y)).Pairwise (fun x y => x ≤ y) := (List.pairwise_mergeSort (le := fun x y => decide (x ≤ y)) (fun a b c h1 h2 => by simp at *; omega) (fun a b => by simp; omega) ss).imp fun h => by simpa using h
  exact ((List.mergeSort_perm ss _).trans hp).eq_of_pairwise (fun a b _ _ h1 h2 => by omega) hs1 ((map_up hu).imp fun h => by omega)

set_option maxRecDepth 100000 in
set_option maxHeartbeats 1000000 in
/-- disk.Segments. -/
theorem segments_any (w : World) {sb bm : Nat} {N : Nat → Prop} {l : List Sg} {root : List Int} (h : Dsk w sb bm N l root) :
    Calls Try.prog 21 #[.pointer (some ⟨sb, 0, none⟩)] w fun r w' => ∃ g cap, r = .returned (.slice (some ⟨g, 0, none⟩) l.length cap) ∧
      w'.ownsRow w.heap.size 3 1 (.slice (some ⟨g, 0, none⟩) l.length cap) l.length ((l.map Sg.n).map (Value.int .i64)) ∧ w.grownBy w' none := by
  obtain ⟨i0, hi, hz0, hz1, hz2⟩ := info_parts Try.info3
  have hbl := h.bml
  have hlen := h.len
  have c0 := h.c0
  have hml := h.mp.len 3
  have hown : w.ownsMap Try.prog 3 cElem bm l.length (DM l) := h.mp
  go_enter Try.func21, Try.ntmps21
  go_wp2_with (first
    | (at_make; refine wpList_make_own _ rfl _ _ 23 rfl w.heap.size 3 i0 (.int .i64 0) 1 Try.underlying23 hi hz0 hz1 _ _ _ l.length rfl rfl rfl (by rw [hz2]; omega) (by unfold maxLen; omega) (Nat.le_refl _) ?_; intro w1 hrow1 hg1; have c1 := grown_cell hg1 c0)
    | (at_range; refine wpList_range_own _ rfl _ 51 rfl 3 67 keyed3 Try.underlying51 _ bm l.length _ rfl (hown.kept hg1 (by simp)) ?_; intro w0 hrg0 hg0 hs0)
    | go_in)
  go_frame
  go_loopw [3] (fun v wr => ∃ (left : Lit → Bool) (cnt : Nat) (ss : List Int), wr.ranges Try.prog 3 cElem bm w1.heap.size l.length (DM l) left cnt ∧ ss.length + cnt ≤ l.length ∧
      wr.ownsRow w.heap.size 3 1 v ss.length (ss.map (Value.int .i64)) ∧ v ≠ .slice none 0 0 ∧ Come l left ss ∧ w.grownBy wr none)
    (fun _ wr => wr.rangeLeft bm w1.heap.size)
  case atStart =>
    exact ⟨_, _, [], hrg0, by rw [DM_size]; simp, hrow1.kept hg0 (Or.inr (by simp [Value.ownBlock])), by simp, Come.start l, grown_none hg1 hg0⟩
  case round =>
    obtain ⟨left, cnt, ss, hrg, hcs, hrow, hnn, hC, hnx⟩ := hrel
    go_wp2_with (first
      | (at_next; refine wpList_next_ranges _ rfl _ rfl 3 keyed3 cElem (Value.int .i64) (fun c : Value × Int => Value.agg #[c.1, .int .i64 c.2]) (fun key kl hk => by obtain ⟨x, hx, _⟩ := Maps.keyOf_int_inv Try.underlying3 hk; exact ⟨x, hx⟩) (fun v y hv => cElem_shape hv) bm w1.heap.size l.length _ _ _ rfl hrg ?_ ?_)
      | go_in)
    · intro hc0 hl0
      rcases hrow.2 with ⟨hnil, _⟩ | ⟨g, cap, cur, rfl, hbase, hb, h1, h2, h3, h4⟩
      · exact absurd hnil hnn
      have hH : Holds (Value.int .i64) wr g 0 ss.toArray := holds_of_blockI hb (by simpa using h4)
      have hgl : g < wr.heap.size := (Array.getElem?_eq_some_iff.1 hb).1
      have hc := sort_any g cap ss wr hH hgl (by omega)
      go_wp2_with (go_at_call 45; refine hc.mono ?_; rintro e w' ⟨rfl, nn, os, rfl⟩)
      go_ret
      have hso := hC.sorted h.up hl0
      have hsl : ss.length = l.length := by
        have := congrArg List.length hso
        simpa using this
      have hown2 := ownsRow_sortedI (n := nn) (os := os) (ts := ss.mergeSort fun x y => decide (x ≤ y)) (by simp) hbase hb h1 h2 h3
      rw [hso, hsl] at hown2
      refine ⟨g, cap, by rw [hsl]; rfl, ?_, ?_⟩
      · rw [hso]
        exact hown2
      · exact grown_new hnx (grownBy_sortedI _) hbase
    · intro x cv cs kl yd yp w2 cnt2 hkey hlk hv hat hrg2 hlt hg2 hs2 hen
      obtain ⟨x', ex, rfl, _⟩ := Maps.keyOf_int_inv Try.underlying3 hkey
      obtain rfl : x = x' := by cases ex; rfl
      have hrow2 := hrow.kept hg2 (Or.inr (row_ne_iter hrow hrg).symm)
      have hws := hnx.size
      have hw2s := hg2.size
      clear hs2
      go_wp2_with (first
        | (at_builtin; refine wpList_append_own _ rfl _ _ 23 rfl w.heap.size 3 i0 (.int .i64 0) 1 8 Try.underlying23 hi hz0 hz1 hz2 rfl (by decide) _ _ _ rfl (hrow2.alloc _) ⟨w2.heap.size, 0, none⟩ 1 1 [.int .i64 x] rfl rfl (cell_one_new _ _ _) (by simp [Value.oneCell']) (by unfold maxLen at *; omega) (by omega) (by simp; omega) ?_; intro v' w3 hown' hg3 hnil3)
        | go_in)
      have hrg3 := (hrg2.alloc (.cells #[.int .i64 x] 3)).kept hg3 (row_ne_low hrow2 hbl) (row_ne_iter hrow2 hrg2)
      go_roundw
      case rel =>
        refine ⟨_, cnt2, ss ++ [x], hrg3, by simp; omega, by simpa using hown', fun hv' => by have := (hnil3.1 hv').2; omega, hC.step hlk ?_, ?_⟩
        · have h1 := hat .nil
          rw [DM_at] at h1
          cases hx : getS x l with
          | some y => rfl
          | none =>
            rw [hx] at h1
            have := cElem_inv hv
            rw [← h1] at this
            cases this
        · exact (grown_none (grown_new hnx hg2 hg1.size) (World.grownBy_alloc w2 _ none)).andThen hg3 fun j hj => .inl (hrow2.lt j hj).1
      case measure => rw [hrg3.left_eq, hrg.left_eq]; exact hlt
set_option maxRecDepth 100000 in
set_option maxHeartbeats 1000000 in
theorem segments_nil (w : World) : Calls Try.prog 21 #[.pointer none] w fun r w' => r = .returned (.slice none 0 0) ∧ w = w' := by
  go_enter Try.func21, Try.ntmps21
  go_wp2
  go_ret
  exact ⟨rfl, rfl⟩
end Go.Proofs.Ytgblekdllcngnaa
