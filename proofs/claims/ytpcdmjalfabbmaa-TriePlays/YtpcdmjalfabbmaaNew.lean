/- Texts cloned, a new node. -/
import Derived.Test.YtpcdmjalfabbmaaBase
import Derived.Lib.BufferWrite
import Derived.Lib.UnsafeStr
import Derived.Laws.MakeOwn
namespace Go.Proofs.Ytpcdmjalfabbmaa
open Go.RowKit Go.IntWalk Go.Maps
set_option linter.unusedVariables false
theorem Try.info5 : (Try.prog.info? 5).map (fun i => (i.zero, i.size, i.bytes)) = some (some (.int .u8 0), 1, 1) := by kernel_rfl
theorem below_grown {w w' : World} (h : Below w.heap.size w w') : w.grownBy w' none := ⟨h.os, h.tape, h.output, h.size, fun k hk _ => h.block k hk⟩
set_option maxRecDepth 100000 in
set_option maxHeartbeats 1000000 in
/-- internal/stringslite.Clone: the same text; what it makes is new. -/
theorem slclone_any (w : World) (k : K) (hk : k.length ≤ 1000000) : Calls Try.prog 46 #[.string (bt k)] w fun r w' => r = .returned (.string (bt k)) ∧ w.grownBy w' none := by
  cases k with
  | nil =>
    rw [bt_nil]
    go_enter Try.func46, Try.ntmps46
    go_wp2
    go_ret
    exact ⟨rfl, grown_refl w⟩
  | cons c l =>
    obtain ⟨i0, hi, hz0, hz1, hz2⟩ := info_parts Try.info5
    have hl : (bt (c :: l)).size = l.length + 1 := by rw [bt_size]; rfl
    generalize hs : bt (c :: l) = s at *
    obtain ⟨M, hM⟩ : ∃ M, M = madeCells (Value.int .u8 0).cells ((((l.length : Nat) : Int) + 1).toNat * i0.size) := ⟨_, rfl⟩
    have hMl : M.size = l.length + 1 := by rw [hM, size_madeCells, hz1]; simp
    have m1 : ∀ W : World, (Instr.makeSlice 84 (.int .i64 ((l.length : Int) + 1)) (.int .i64 ((l.length : Int) + 1))).run Try.prog W = .ok (.slice (some ⟨W.heap.size, 0, none⟩) (l.length + 1) (l.length + 1)) (W.alloc (.cells M 5)) := fun W => by
      have h := run_make (P := Try.prog) W 84 5 i0 (.int .u8 0) Try.underlying84 hi hz0 .i64 .i64 ((l.length : Int) + 1) ((l.length : Int) + 1) (by omega) (by omega) (by rw [hz2]; simp at hk; omega) (by simp at hk; omega)
      rw [← hM] at h
      exact h
    have b1 := heap_alloc_new w (.cells M 5)
    have m2 := Lib.run_copy_row_string (P := Try.prog) (w.alloc (.cells M 5)) 84 9 3 5 w.heap.size 0 (l.length + 1) (l.length + 1) s M 5 Try.underlying84 (by rw [hi]; simp [hz1]) b1 (by omega) (by omega)
    rw [hl] at m2
    obtain ⟨Y, hY⟩ : ∃ Y, Y = (M.toList.take 0 ++ Lib.byteCells s.data.toList ++ M.toList.drop (0 + (l.length + 1))).toArray := ⟨_, rfl⟩
    rw [← hY] at m2
    have hsd : s.data.toList = c :: l := by rw [← hs]; rfl
    have hYl : Y.toList = Lib.byteCells (c :: l) := by
      rw [hY, hsd]
      simp [List.drop_of_length_le, hMl]
    have b2 : ((w.alloc (.cells M 5)).setRow w.heap.size Y).heap[w.heap.size]? = some (.cells Y 5 (0, 0)) := setRow_heap _ _ M _ 5 (0, 0) b1
    have m3 := Lib.run_unsafeString_row (P := Try.prog) ((w.alloc (.cells M 5)).setRow w.heap.size Y) 89 3 9 5 Try.underlying89 (by kernel_rfl) w.heap.size Y.size (by unfold World.shape?; rw [b2]) (c :: l) (by simp) (by rw [← Array.length_toList, hYl, Lib.byteCells_length]; exact Nat.le_refl _) (by omega)
      (fun j x hx => by
        rw [addr_add, Nat.zero_add]
        simp only [World.cell?, b2]
        rw [← Array.getElem?_toList, hYl, Lib.byteCells, List.getElem?_map, hx]
        rfl)
    have hs2 : (⟨(c :: l).toArray⟩ : ByteArray) = s := hs
    rw [hs2] at m3
    rw [show (((c :: l).length : Nat) : Int) = (l.length : Int) + 1 by simp] at m3
    clear hY hM hsd hYl hs hs2
    go_enter Try.func46, Try.ntmps46
    go_wp2
    go_ret
    have g1 : Below w.heap.size w (w.alloc (.cells M 5)) := (Below.refl _ w).alloc (Nat.le_refl _) _
    have g2 : Below w.heap.size (w.alloc (.cells M 5)) ((w.alloc (.cells M 5)).setRow w.heap.size Y) := ⟨rfl, rfl, rfl, by simp, fun k hk => setRow_other _ _ _ _ (by omega)⟩
    exact ⟨rfl, below_grown (Lib.below_freeze (g1.trans g2) (p := ⟨w.heap.size, 0, none⟩) (Nat.le_refl _) _)⟩
set_option maxRecDepth 100000 in
set_option maxHeartbeats 1000000 in
/-- strings.Clone. -/
theorem clone_any (w : World) (k : K) (hk : k.length ≤ 1000000) : Calls Try.prog 38 #[.string (bt k)] w fun r w' => r = .returned (.string (bt k)) ∧ w.grownBy w' none := by
  go_enter Try.func38, Try.ntmps38
  go_wp2_with fail
  refine (slclone_any w k hk).mono ?_
  rintro r w1 ⟨rfl, hg⟩
  go_wp2
  go_ret
  exact ⟨rfl, hg⟩
set_option maxRecDepth 100000 in
set_option maxHeartbeats 1000000 in
/-- newNode. -/
theorem node_any (w : World) (k : K) (hk : k.length ≤ 1000000) : Calls Try.prog 28 #[.string (bt k)] w fun r w' => ∃ nb mb, r = .returned (ptr nb) ∧ w.heap.size ≤ mb ∧ w.heap.size ≤ nb ∧ w'.heap[mb]? = some (.map #[] 0) ∧ w'.heap[nb]? = some (.cells #[.string (bt k), .string (bt []), .bool false, .map (some mb)] 64 (0, 0)) ∧ w.grownBy w' none := by
  have hmm := @run_makeMap Try.prog
  go_enter Try.func28, Try.ntmps28
  go_wp2_with fail
  refine (clone_any w k hk).mono ?_
  rintro r w1 ⟨rfl, hg⟩
  go_wp2
  go_ret
  have hs := hg.size
  have b1 := heap_alloc_new w1 (Obj.map #[] 0)
  generalize ho : Obj.cells #[Value.string (bt k), Value.string { data := #[] }, Value.bool false, Value.map (some w1.heap.size)] 64 = o
  have b2 := heap_alloc_new (w1.alloc (Obj.map #[] 0)) o
  have g1 := World.grownBy_alloc w1 (Obj.map #[] 0) none
  have g2 := World.grownBy_alloc (w1.alloc (Obj.map #[] 0)) o none
  refine ⟨w1.heap.size + 1, w1.heap.size, rfl, by omega, by omega, ?_, ?_, grown_none (grown_none hg g1) g2⟩
  · rw [g2.block w1.heap.size (by simp) (by simp)]; exact b1
  · rw [bt_nil, ho]; simpa using b2
theorem take_step {a b : K} {n : Nat} (h : a.take n = b.take n) (e : a[n]? = b[n]?) : a.take (n + 1) = b.take (n + 1) := by
  rw [List.take_add_one, List.take_add_one, h, e]
/-- .. told by its length. -/
theorem lcp_len {a b : K} {n : Nat} (h : a.take n = b.take n) (ha : n ≤ a.length) (hb : n ≤ b.length) (hn : n = a.length ∨ n = b.length ∨ a[n]? ≠ b[n]?) : lcp a b = a.take n := by
  refine lcp_eq (List.take_prefix n a) (h ▸ List.take_prefix n b) fun c h1 h2 => ?_
  have e1 := List.prefix_iff_eq_take.1 h1
  have e2 := List.prefix_iff_eq_take.1 h2
  have hc : c.length ≤ n := by
    rcases hn with e | e | e
    · have := h1.length_le; omega
    · have := h2.length_le; omega
    · refine Nat.le_of_not_lt fun hlt => e ?_
      have l1 := h1.length_le
      have l2 := h2.length_le
      have q1 : c[n]? = a[n]? := by rw [e1, List.getElem?_take, if_pos hlt]
      have q2 : c[n]? = b[n]? := by rw [e2, List.getElem?_take, if_pos hlt]
      exact q1.symm.trans q2
  rw [e1]
  exact (List.take_prefix_take_left hc)
theorem idx_bt (W : World) (k : K) (i : Nat) {c : UInt8} (h : k[i]? = some c) : (Instr.index 9 (.string (bt k)) (.int .i64 i)).run Try.prog W = .ok (.int .u8 c.toNat) W := by
  have hl := (List.getElem?_eq_some_iff.1 h)
  obtain ⟨h1, rfl⟩ := hl
  rw [run_index_string _ _ _ _ _ Try.underlying9]
  have hi : (0 : Int) ≤ (i : Int) ∧ (i : Int) < (bt k).size := ⟨by omega, by rw [bt_size]; omega⟩
  rw [dif_pos hi]
  simp [bt]
  rfl
theorem get_bt {k : K} {i : Nat} {c : UInt8} (h : k[i]? = some c) : ∀ hi : i < (bt k).size, (bt k)[i]'hi = c := fun hi => by
  obtain ⟨h1, rfl⟩ := List.getElem?_eq_some_iff.1 h
  rfl
theorem len_bt (W : World) (k : K) (ty : TypeId) : (Builtin.len_ #[9] ty #[.string (bt k)]).run Try.prog W = .ok (.int .i64 k.length) W := by
  rw [run_len_string _ _ _ _ Try.underlying9, bt_size]
  rfl
theorem u8_beq (c d : UInt8) : ((c.toNat : Int) == (d.toNat : Int)) = decide (c = d) := by
  rw [Bool.eq_iff_iff]
  simp only [beq_iff_eq, decide_eq_true_eq]
  exact ⟨fun h => UInt8.toNat_inj.1 (by omega), fun h => by rw [h]⟩
set_option maxRecDepth 100000 in
set_option maxHeartbeats 1000000 in
/-- common. -/
theorem common_any (w : World) (a b : K) (ha : a.length ≤ 1000000) (hb : b.length ≤ 1000000) : Calls Try.prog 39 #[.string (bt a), .string (bt b)] w fun r w' => r = .returned (.int .i64 (lcp a b).length) ∧ w.grownBy w' none := by
  obtain ⟨m, hm⟩ : ∃ m : Nat, m = min a.length b.length := ⟨_, rfl⟩
  have sa := bt_size a
  have sb := bt_size b
  have hM : (if b.length < a.length then (b.length : Int) else (a.length : Int)) = m := by subst hm; split <;> omega
  have hml : Hid (m ≤ a.length ∧ m ≤ b.length ∧ (m = a.length ∨ m = b.length)) := ⟨by omega⟩
  clear hm
  obtain ⟨R, hR⟩ : ∃ R : Nat, Hid ((lcp a b).length = R) := ⟨_, ⟨rfl⟩⟩
  rw [hR.out]
  have e8 := u8_beq
  go_enter Try.func39, Try.ntmps39
  go_wp2_with fail
  go_loopw [13] (fun i wr => ∃ k : Nat, Hid (k ≤ m) ∧ i = .int .i64 k ∧ Hid (a.take k = b.take k) ∧ w.grownBy wr none)
    (fun i _ => m - (intOf i).toNat)
  case atStart => exact ⟨0, ⟨by omega⟩, rfl, ⟨by simp⟩, grown_refl w⟩
  case round =>
    obtain ⟨k, hk, rfl, hT, hg⟩ := hrel
    by_cases hlt : k < m
    · have hd : decide ((k : Int) < m) = true := by simp; omega
      obtain ⟨x, hx⟩ : ∃ x, a[k]? = some x := ⟨_, List.getElem?_eq_getElem (by have := hml.out; omega)⟩
      obtain ⟨y, hy⟩ : ∃ y, b[k]? = some y := ⟨_, List.getElem?_eq_getElem (by have := hml.out; omega)⟩
      haveI := lat_nonempty wr
      have ix := get_bt hx
      have iy := get_bt hy
      have ka : k < a.length := by have := hml.out; omega
      have kb : k < b.length := by have := hml.out; omega
      have hdn : decide (k < m) = true := by simpa using hlt
      replace hx : Hid _ := ⟨hx⟩
      replace hy : Hid _ := ⟨hy⟩
      replace hlt : Hid _ := ⟨hlt⟩
      by_cases hxy : x = y
      · have hq : ((x.toNat : Int) == (y.toNat : Int)) = true := by rw [u8_beq]; simpa using hxy
        have hq2 : ((x.toNat : Int) != (y.toNat : Int)) = false := by rw [bne, hq]; rfl
        have hT2 : Hid (a.take (k + 1) = b.take (k + 1)) := ⟨take_step hT.out (by rw [hx.out, hy.out, hxy])⟩
        clear hxy
        go_wp2_with fail
        refine wp_region_lat (by kernel_rfl) (by kernel_rfl) ?_
        repeat (go_big_quiet_step (fail))
        refine wpQuiet_nil ?_
        intro _ hw'
        obtain ⟨p, hw''⟩ := hw'
        subst hw''
        go_wp2_with fail
        go_roundw
        case rel => exact ⟨k + 1, ⟨by have := hlt.out; omega⟩, by go_num, hT2, grown_none hg p.h⟩
        case measure => have := hlt.out; simp [intOf]; omega
      · have hq : ((x.toNat : Int) == (y.toNat : Int)) = false := by rw [u8_beq]; simpa using hxy
        have hq2 : ((x.toNat : Int) != (y.toNat : Int)) = true := by rw [bne, hq]; rfl
        have hfin : Hid (R = k) := ⟨by
          have h1 := hml.out
          have h2 := hlt.out
          rw [← hR.out, lcp_len hT.out (by omega) (by omega) (.inr (.inr (by rw [hx.out, hy.out]; simpa using hxy))), List.length_take]
          omega⟩
        clear hxy
        go_wp2_with fail
        refine wp_region_lat (by kernel_rfl) (by kernel_rfl) ?_
        repeat (go_big_quiet_step (fail))
        refine wpQuiet_nil ?_
        intro _ hw'
        obtain ⟨p, hw''⟩ := hw'
        subst hw''
        go_wp2_with fail
        go_ret
        exact ⟨by rw [hfin.out]; rfl, grown_none hg p.h⟩
    · have hd : decide ((k : Int) < m) = false := by simp; omega
      have hdn : decide (k < m) = false := by simpa using hlt
      have hfin : Hid (R = k) := ⟨by
        have h1 := hml.out
        have h2 := hk.out
        rw [← hR.out, lcp_len hT.out (by omega) (by omega) (by omega), List.length_take]
        omega⟩
      have hkm : k = m := by have := hk.out; omega
      subst hkm
      go_wp2_with fail
      go_ret
      exact ⟨by rw [hfin.out]; rfl, hg⟩
end Go.Proofs.Ytpcdmjalfabbmaa
