/- A new wheel. -/
import Derived.Test.YtlljfgpmjpmoiaaWhl
namespace Go.Proofs.Ytlljfgpmjpmoiaa
open Go.RowKit Go.IntWalk Go.Maps Go.Shelf
set_option linter.unusedVariables false
/-- A wheel of which k sets are made; its blocks lie from n on. -/
structure Mk (w wr : World) (n : Nat) (now : Int) (k : Nat) : Prop where
  gr : w.grownBy wr none
  sz : wr.heap.size = n + 3 + k
  bd : wr.heap[n]? = some (.map #[] 0)
  bf : wr.heap[n + 1]? = some (.map #[] 0)
  wb : ∃ cs : Array Value, wr.heap[n + 2]? = some (.cells cs 64 (0, 0)) ∧ cs.size = 67 ∧ cs[0]? = some (.int .u64 now) ∧ cs[1]? = some (.map (some n)) ∧ cs[66]? = some (.map (some (n + 1))) ∧ ∀ i, i < k → cs[2 + i]? = some (.map (some (n + 3 + i)))
  st : ∀ i, i < k → wr.heap[n + 3 + i]? = some (.map #[] 0)
theorem zc_size : Try.zeroCells64.size = 67 := by kernel_rfl
theorem Mk.start (w : World) (now : Int) : Mk w (((w.alloc (Obj.map #[] 0)).alloc (Obj.map #[] 0)).alloc (.cells (((Try.zeroCells64.setIfInBounds 0 (Value.int IntKind.u64 now)).setIfInBounds 1 (Value.map (some w.heap.size))).setIfInBounds 66 (Value.map (some (w.heap.size + 1)))) 64)) w.heap.size now 0 := by
  have z := zc_size
  have g1 := World.grownBy_alloc w (Obj.map #[] 0) none
  have g2 := World.grownBy_alloc (w.alloc (Obj.map #[] 0)) (Obj.map #[] 0) none
  generalize hcs : ((Try.zeroCells64.setIfInBounds 0 (Value.int IntKind.u64 now)).setIfInBounds 1 (Value.map (some w.heap.size))).setIfInBounds 66 (Value.map (some (w.heap.size + 1))) = cs
  have g3 := World.grownBy_alloc ((w.alloc (Obj.map #[] 0)).alloc (Obj.map #[] 0)) (.cells cs 64) none
  have b1 := heap_alloc_new w (Obj.map #[] 0)
  have b2 := heap_alloc_new (w.alloc (Obj.map #[] 0)) (Obj.map #[] 0)
  have b3 := heap_alloc_new ((w.alloc (Obj.map #[] 0)).alloc (Obj.map #[] 0)) (.cells cs 64)
  refine ⟨grown_none (grown_none g1 g2) g3, by simp, ?_, ?_, ⟨cs, by simpa using b3, ?_, ?_, ?_, ?_, by omega⟩, by omega⟩
  · rw [(grown_none g2 g3).block w.heap.size (by simp) (by simp)]; exact b1
  · rw [g3.block (w.heap.size + 1) (by simp) (by simp)]; simpa using b2
  · subst hcs; simp [z]
  · subst hcs; simp [z]
  · subst hcs; simp [z]
  · subst hcs; simp [z]
/-- One more set. -/
theorem Mk.next {w wr : World} {n : Nat} {now : Int} {k : Nat} (h : Mk w wr n now k) (hk : k < 64) (hn : w.heap.size ≤ n) (a : Nat) (ha : a = 2 + k) : Mk w ((wr.alloc (.map #[] 0)).setCell ⟨n + 2, a, none⟩ (.map (some wr.heap.size))) n now (k + 1) := by
  subst ha
  obtain ⟨cs, h1, h2, h3, h4, h5, h6⟩ := h.wb
  have hs := h.sz
  have hg2 := World.grownBy_alloc wr (Obj.map #[] 0) none
  have hg1 := grown_setCell (wr.alloc (Obj.map #[] 0)) ⟨n + 2, 2 + k, none⟩ (.map (some wr.heap.size))
  have hb := heap_alloc_new wr (Obj.map #[] 0)
  have hz : (wr.alloc (Obj.map #[] 0)).heap.size = wr.heap.size + 1 := by simp
  have old : ∀ j, j < wr.heap.size → j ≠ n + 2 → ((wr.alloc (.map #[] 0)).setCell ⟨n + 2, 2 + k, none⟩ (.map (some wr.heap.size))).heap[j]? = wr.heap[j]? := fun j hj hne => by
    rw [hg1.block j (by rw [hz]; omega) (by simp; exact hne), hg2.block j hj (by simp)]
  refine ⟨grown_new (grown_none h.gr hg2) hg1 (by show w.heap.size ≤ n + 2; omega), ?_, (old n (by omega) (by omega)).trans h.bd, (old (n + 1) (by omega) (by omega)).trans h.bf, ⟨cs.setIfInBounds (2 + k) (.map (some wr.heap.size)), ?_, by simpa using h2, ?_, ?_, ?_, fun i hi => ?_⟩, fun i hi => ?_⟩
  · simp; omega
  · exact heap_set ((hg2.block (n + 2) (by omega) (by simp)).trans h1) _ _
  · rw [Array.getElem?_setIfInBounds_ne (by omega)]; exact h3
  · rw [Array.getElem?_setIfInBounds_ne (by omega)]; exact h4
  · rw [Array.getElem?_setIfInBounds_ne (by omega)]; exact h5
  · by_cases e : i = k
    · subst e
      rw [Array.getElem?_setIfInBounds_self, if_pos (by omega), hs]
    · rw [Array.getElem?_setIfInBounds_ne (by omega)]
      exact h6 i (by omega)
  · by_cases e : i = k
    · subst e
      rw [hg1.block _ (by rw [hz]; omega) (by simp; omega), ← hs]
      exact hb
    · rw [old _ (by omega) (by omega)]
      exact h.st i (by omega)
theorem Mk.done {w wr : World} {n : Nat} {now : Int} (h : Mk w wr n now 64) (hn : w.heap.size ≤ n) (hb : 0 ≤ now ∧ now < 18446744073709551616) : Wh (fun k => w.heap.size ≤ k ∧ k < wr.heap.size) wr (n + 2) now [] := by
  obtain ⟨cs, h1, h2, h3, h4, h5, h6⟩ := h.wb
  have hs := h.sz
  have hW : Wf wr (n + 2) n (fun i => if i < 64 then n + 3 + i else n + 1) now [] (atP now []) := by
    refine ⟨⟨cs, h1, h2, h3, h4, fun i hi => ?_⟩, Dl.made h.bd, fun i hi => ?_, fun i j hi hj e => ?_, fun i hi => ?_, hb⟩
    · by_cases e : i < 64
      · simp only [e, if_true]; exact h6 i e
      · have : i = 64 := by omega
        subst this
        simpa using h5
    · by_cases e : i < 64
      · simp only [e, if_true]; exact Sset.made (h.st i e)
      · simp only [e, if_false]; exact Sset.made h.bf
    · split at e <;> split at e <;> omega
    · split <;> omega
  refine ⟨⟨n, _, hW, ?_⟩, Srt.nil, by simp, by simp, by simp⟩
  rintro k (rfl | rfl | ⟨i, hi, rfl⟩)
  · omega
  · omega
  · simp only
    split <;> omega
set_option maxRecDepth 100000 in
set_option maxHeartbeats 2000000 in
/-- wheel.New. -/
theorem new_any (w : World) (now : Int) (hn : 0 ≤ now ∧ now < 18446744073709551616) : Calls Try.prog 9 #[.int .u64 now] w fun r w' => ∃ wb, r = .returned (.pointer (some ⟨wb, 0, none⟩)) ∧ Wh (fun k => w.heap.size ≤ k ∧ k < w'.heap.size) w' wb now [] ∧ w.grownBy w' none := by
  have hmm := @run_makeMap Try.prog
  have hM := Mk.start w now
  replace hM : Hid _ := ⟨hM⟩
  go_enter Try.func9, Try.ntmps9
  go_wp2_with fail
  go_loopw [11] (fun i wr => ∃ k : Nat, k ≤ 4 ∧ i = .int .i64 k ∧ Hid (Mk w wr w.heap.size now (16 * k)))
    (fun i _ => 4 - (intOf i).toNat)
  case atStart => exact ⟨0, by omega, rfl, hM⟩
  case round =>
    clear hM
    obtain ⟨k, hk, rfl, hM⟩ := hrel
    by_cases hlt : k < 4
    · have hd : decide ((k : Int) < 4) = true := by simp; omega
      go_wp2_with fail
      go_loopw [14] (fun i wr => ∃ q : Nat, q ≤ 16 ∧ i = .int .i64 q ∧ Hid (Mk w wr w.heap.size now (16 * k + q)))
        (fun i _ => 16 - (intOf i).toNat)
      case atStart => exact ⟨0, by omega, rfl, hM⟩
      case round =>
        clear hM
        obtain ⟨q, hq, rfl, hM⟩ := hrel
        by_cases hlq : q < 16
        · have hdq : decide ((q : Int) < 16) = true := by simp; omega
          have hfz : wr.frozen? ⟨w.heap.size + 1 + 1, 2 + k * 16 + q, none⟩ = false := by
            obtain ⟨cs, h1, _⟩ := hM.out.wb
            simp [World.frozen?, h1]
          have hce : ∃ v, wr.cell? ⟨w.heap.size + 1 + 1, 2 + k * 16 + q, none⟩ = some v := by
            obtain ⟨cs, h1, h2, _⟩ := hM.out.wb
            refine ⟨cs[2 + k * 16 + q]'(by omega), ?_⟩
            simp [World.cell?, h1]
          obtain ⟨cv, hce⟩ := hce
          have hne := hM.out.next (by omega) (Nat.le_refl _) (2 + k * 16 + q) (by omega)
          replace hne : Hid _ := ⟨hne⟩
          have hal := World.grownBy_alloc wr (Obj.map #[] 0) none
          have hce2 := grown_cell hal hce
          have hwl : w.heap.size + 1 + 1 < wr.heap.size := by have := hM.out.sz; omega
          have hfz2 : (wr.alloc (Obj.map #[] 0)).frozen? ⟨w.heap.size + 1 + 1, 2 + k * 16 + q, none⟩ = false := by rw [grown_frozen hal hwl]; exact hfz
          replace hwl : Hid _ := ⟨hwl⟩
          go_wp2_with fail
          go_roundw
          case rel => exact ⟨q + 1, by omega, by go_num, hne⟩
          case measure => simp [intOf]; omega
        · have hdq : decide ((q : Int) < 16) = false := by simp; omega
          have hqe : q = 16 := by omega
          subst hqe
          go_wp2_with fail
          go_roundw
          case rel => exact ⟨k + 1, by omega, by go_num, hM⟩
          case measure => simp [intOf]; omega
    · have hd : decide ((k : Int) < 4) = false := by simp; omega
      have hke : k = 4 := by omega
      subst hke
      go_wp2_with fail
      go_ret
      exact ⟨_, rfl, hM.out.done (Nat.le_refl _) hn, hM.out.gr⟩
end Go.Proofs.Ytlljfgpmjpmoiaa
