/- A wheel in memory; where a deadline is at home; Clock, Len, Slot, Far. -/
import Derived.Test.YtlljfgpmjpmoiaaMin
namespace Go.Proofs.Ytlljfgpmjpmoiaa
open Go.RowKit Go.IntWalk Go.Maps Go.Shelf
set_option linter.unusedVariables false
/-- The blocks of a wheel. -/
def fpw (wb bd : Nat) (bs : Nat → Nat) (k : Nat) : Prop := k = wb ∨ k = bd ∨ ∃ i, i < 65 ∧ k = bs i
/-- A wheel: block wb is its struct, bd its deadlines, which are L's; bs i are its sets (64: the far one), which hold c i. -/
structure Wf (w : World) (wb bd : Nat) (bs : Nat → Nat) (now : Int) (L : List E) (c : Nat → List E) : Prop where
  blk : ∃ cs : Array Value, w.heap[wb]? = some (.cells cs 64 (0, 0)) ∧ cs.size = 67 ∧ cs[0]? = some (.int .u64 now) ∧ cs[1]? = some (.map (some bd)) ∧ ∀ i, i < 65 → cs[2 + i]? = some (.map (some (bs i)))
  dl : Dl w bd L
  st : ∀ i, i < 65 → Sset w (bs i) (c i)
  inj : ∀ i j, i < 65 → j < 65 → bs i = bs j → i = j
  nd : ∀ i, i < 65 → bs i ≠ bd
  nw : 0 ≤ now ∧ now < 18446744073709551616
section
variable {w w' : World} {wb bd : Nat} {bs : Nat → Nat} {now : Int} {L L' : List E} {c c' : Nat → List E}
theorem Wf.wbl (h : Wf w wb bd bs now L c) : wb < w.heap.size := by obtain ⟨cs, h1, _⟩ := h.blk; exact (Array.getElem?_eq_some_iff.1 h1).1
theorem Wf.fpl (h : Wf w wb bd bs now L c) : ∀ k, fpw wb bd bs k → k < w.heap.size := by
  rintro k (rfl | rfl | ⟨i, hi, rfl⟩)
  · exact h.wbl
  · exact h.dl.lt
  · exact (h.st i hi).lt
theorem Wf.nwb (h : Wf w wb bd bs now L c) {i : Nat} (hi : i < 65) : bs i ≠ wb := by
  intro e
  obtain ⟨cs, h1, _⟩ := h.blk
  obtain ⟨es, cl, h2⟩ := (h.st i hi).isMap
  rw [e, h1] at h2
  cases h2
theorem Wf.ndw (h : Wf w wb bd bs now L c) : bd ≠ wb := by
  intro e
  obtain ⟨cs, h1, _⟩ := h.blk
  obtain ⟨D, ⟨es, cl, h2, _⟩, _⟩ := h.dl
  rw [e, h1] at h2
  cases h2
theorem Wf.c0 (h : Wf w wb bd bs now L c) : w.cell? ⟨wb, 0, none⟩ = some (.int .u64 now) := by
  obtain ⟨cs, h1, _, h2, _⟩ := h.blk
  simp [World.cell?, h1, h2]
theorem Wf.c1 (h : Wf w wb bd bs now L c) : w.cell? ⟨wb, 1, none⟩ = some (.map (some bd)) := by
  obtain ⟨cs, h1, _, _, h2, _⟩ := h.blk
  simp [World.cell?, h1, h2]
theorem Wf.cn (h : Wf w wb bd bs now L c) {i : Nat} (hi : i < 65) : w.cell? ⟨wb, 2 + i, none⟩ = some (.map (some (bs i))) := by
  obtain ⟨cs, h1, _, _, _, h2⟩ := h.blk
  simp [World.cell?, h1, h2 i hi]
/-- .. a level's slot's. -/
theorem Wf.cs (h : Wf w wb bd bs now L c) {k q : Nat} (hk : k < 4) (hq : q < 16) : w.cell? ⟨wb, 2 + k * 16 + q, none⟩ = some (.map (some (bs (16 * k + q)))) := by
  have := h.cn (i := 16 * k + q) (by omega)
  rw [show 2 + k * 16 + q = 2 + (16 * k + q) by omega]
  exact this
theorem Wf.fz (h : Wf w wb bd bs now L c) (i : Nat) : w.frozen? ⟨wb, i, none⟩ = false := by
  obtain ⟨cs, h1, _⟩ := h.blk
  simp [World.frozen?, h1]
theorem Wf.kept (h : Wf w wb bd bs now L c) (hb : ∀ k, fpw wb bd bs k → w'.heap[k]? = w.heap[k]?) : Wf w' wb bd bs now L c := by
  obtain ⟨cs, h1, h2⟩ := h.blk
  exact ⟨⟨cs, (hb wb (.inl rfl)).trans h1, h2⟩, h.dl.kept (hb bd (.inr (.inl rfl))), fun i hi => (h.st i hi).kept (hb _ (.inr (.inr ⟨i, hi, rfl⟩))), h.inj, h.nd, h.nw⟩
theorem Wf.keep (h : Wf w wb bd bs now L c) (hg : w.grownBy w' none) : Wf w' wb bd bs now L c := h.kept fun k hk => hg.block k (h.fpl k hk) (by simp)
/-- A set has turned. -/
theorem Wf.turnSet (h : Wf w wb bd bs now L c) {i : Nat} (hi : i < 65) {l : List E} (hg : w.grownBy w' (some (bs i))) (hs : Sset w' (bs i) l) (hc : ∀ j, j < 65 → c' j = if j = i then l else c j) : Wf w' wb bd bs now L c' := by
  obtain ⟨cs, h1, h2⟩ := h.blk
  refine ⟨⟨cs, (hg.block wb h.wbl (by simp; exact (h.nwb hi).symm)).trans h1, h2⟩, h.dl.kept (hg.block bd h.dl.lt (by simp; exact (h.nd i hi).symm)), fun j hj => ?_, h.inj, h.nd, h.nw⟩
  rw [hc j hj]
  by_cases e : j = i
  · subst e; simpa using hs
  · simp only [e, if_false]
    exact (h.st j hj).kept (hg.block _ (h.st j hj).lt (by simp; exact fun e2 => e (h.inj j i hj hi e2)))
/-- The deadlines have turned. -/
theorem Wf.turnDl (h : Wf w wb bd bs now L c) (hg : w.grownBy w' (some bd)) (hd : Dl w' bd L') : Wf w' wb bd bs now L' c := by
  obtain ⟨cs, h1, h2⟩ := h.blk
  exact ⟨⟨cs, (hg.block wb h.wbl (by simp; exact h.ndw.symm)).trans h1, h2⟩, hd, fun j hj => (h.st j hj).kept (hg.block _ (h.st j hj).lt (by simp; exact h.nd j hj)), h.inj, h.nd, h.nw⟩
/-- The clock was moved. -/
theorem Wf.turnNow (h : Wf w wb bd bs now L c) {now' : Int} (hn : 0 ≤ now' ∧ now' < 18446744073709551616) : Wf (w.setCell ⟨wb, 0, none⟩ (.int .u64 now')) wb bd bs now' L c := by
  obtain ⟨cs, h1, h2, h3, h4, h5⟩ := h.blk
  have hg := grown_setCell w ⟨wb, 0, none⟩ (.int .u64 now')
  refine ⟨⟨cs.setIfInBounds 0 (.int .u64 now'), heap_set h1 0 _, by simpa using h2, by simp [h2], ?_, fun i hi => ?_⟩, h.dl.kept (hg.block bd h.dl.lt (by simp; exact h.ndw)), fun j hj => (h.st j hj).kept (hg.block _ (h.st j hj).lt (by simp; exact h.nwb hj)), h.inj, h.nd, hn⟩
  · rw [Array.getElem?_setIfInBounds_ne (by omega)]; exact h4
  · rw [Array.getElem?_setIfInBounds_ne (by omega)]; exact h5 i hi
end
theorem lat_figure {w : World} (a : Int) (k : Nat) (p : Lat w) (ha : 0 ≤ a ∧ a < 18446744073709551616) (hk : k < 16) : Calls Try.prog 41 #[.int .u64 a, .int .i64 k] p.W fun e w'' => e = .returned (.int .i64 (fg a.toNat k)) ∧ ∃ p' : Lat w, w'' = p'.W :=
  (figure_any a k p.W ha hk).mono fun e w'' ⟨he, hB⟩ => ⟨he, p, hB⟩
set_option maxRecDepth 100000 in
set_option maxHeartbeats 1000000 in
/-- Wheel.home. -/
theorem home_any (w : World) {wb bd : Nat} {bs : Nat → Nat} {now : Int} {L : List E} {c : Nat → List E} (h : Wf w wb bd bs now L c) (a : Int) (ha : 0 ≤ a ∧ a < 18446744073709551616) (hne : a ≠ now) :
    Calls Try.prog 26 #[.pointer (some ⟨wb, 0, none⟩), .int .u64 a] w fun r w' => r = .returned (.map (some (bs (plc now.toNat a.toNat)))) ∧ w.grownBy w' none := by
  have hun := unlike_any a now w ha h.nw hne
  have hlv := lv_lt (a := a.toNat) (b := now.toNat) (by have := ha; omega) (by have := h.nw; omega) (by have := h.nw; omega)
  have hfg := fg_lt a.toNat (lv a.toNat now.toNat)
  by_cases hl : lv a.toNat now.toNat < 4
  · have hpl := plc_near hl
    rw [hpl]
    have cn := h.cs hl hfg
    have c0 := h.c0
    haveI := lat_nonempty w
    have kf := fun p : Lat w => lat_figure a (lv a.toNat now.toNat) p ha hlv
    generalize fg a.toNat (lv a.toNat now.toNat) = q at *
    generalize lv a.toNat now.toNat = k at *
    have hd : decide ((k : Int) ≥ 4) = false := by simp; omega
    have kcn := lat_cell cn
    clear hpl
    go_enter Try.func26, Try.ntmps26
    go_wp2_with (go_at_call 40; refine hun.mono ?_; rintro e w' ⟨rfl, rfl⟩)
    refine wp_region_lat (by kernel_rfl) (by kernel_rfl) ?_
    repeat (go_big_quiet_step (fail))
    go_big_quiet_step ((go_at_call 41; exact kf _))
    repeat (go_big_quiet_step (fail))
    refine wpQuiet_nil ?_
    intro _ hw'
    obtain ⟨p, hw''⟩ := hw'
    subst hw''
    go_wp2
    go_ret
    exact ⟨rfl, p.h⟩
  · have hpl := plc_far hl
    rw [hpl]
    have cn := h.cn (i := 64) (by omega)
    have c0 := h.c0
    generalize lv a.toNat now.toNat = k at *
    have hd : decide ((k : Int) ≥ 4) = true := by simp; omega
    simp only [Nat.reduceAdd] at cn
    clear hpl
    go_enter Try.func26, Try.ntmps26
    go_wp2_with (go_at_call 40; refine hun.mono ?_; rintro e w' ⟨rfl, rfl⟩)
    go_ret
    exact ⟨rfl, grown_refl _⟩
/-- Where a timer stands. -/
def pE (now : Int) (e : E) : Nat := plc now.toNat e.at_.toNat
/-- Those that stand at a place. -/
def atP (now : Int) (L : List E) (i : Nat) : List E := L.filter fun e => pE now e == i
theorem mem_atP {now : Int} {L : List E} {i : Nat} {x : E} : x ∈ atP now L i ↔ x ∈ L ∧ pE now x = i := by simp [atP]
/-- A wheel: its clock, its timers in order; its blocks are such that S is true of them. -/
structure Wh (S : Nat → Prop) (w : World) (wb : Nat) (now : Int) (L : List E) : Prop where
  ex : ∃ bd bs, Wf w wb bd bs now L (atP now L) ∧ ∀ k, fpw wb bd bs k → S k
  srt : Srt L
  abv : ∀ e ∈ L, now < e.at_
  ok : ∀ e ∈ L, e.ok
  len : L.length ≤ 100000
theorem Srt.atP {L : List E} (h : Srt L) (now : Int) (i : Nat) : Srt (atP now L i) := h.sub List.filter_sublist
section
variable {S S' : Nat → Prop} {w w' : World} {wb : Nat} {now : Int} {L : List E}
theorem Wh.mono (h : Wh S w wb now L) (hs : ∀ k, S k → S' k) : Wh S' w wb now L := by
  obtain ⟨bd, bs, h1, h2⟩ := h.ex
  exact ⟨⟨bd, bs, h1, fun k hk => hs k (h2 k hk)⟩, h.srt, h.abv, h.ok, h.len⟩
theorem Wh.kept (h : Wh S w wb now L) (hb : ∀ k, S k → k < w.heap.size → w'.heap[k]? = w.heap[k]?) : Wh S w' wb now L := by
  obtain ⟨bd, bs, h1, h2⟩ := h.ex
  exact ⟨⟨bd, bs, h1.kept fun k hk => hb k (h2 k hk) (h1.fpl k hk), h2⟩, h.srt, h.abv, h.ok, h.len⟩
theorem Wh.nw (h : Wh S w wb now L) : 0 ≤ now ∧ now < 18446744073709551616 := by
  obtain ⟨bd, bs, h1, h2⟩ := h.ex
  exact h1.nw
end
set_option maxRecDepth 100000 in
set_option maxHeartbeats 1000000 in
/-- Wheel.Clock. -/
theorem clock_any (w : World) {S : Nat → Prop} {wb : Nat} {now : Int} {L : List E} (h : Wh S w wb now L) : Calls Try.prog 20 #[.pointer (some ⟨wb, 0, none⟩)] w fun r w' => r = .returned (.int .u64 now) ∧ w' = w := by
  obtain ⟨bd, bs, h1, h2⟩ := h.ex
  have c0 := h1.c0
  go_enter Try.func20, Try.ntmps20
  go_wp2
  go_ret
  exact ⟨rfl, rfl⟩
set_option maxRecDepth 100000 in
set_option maxHeartbeats 1000000 in
theorem clock_nil (w : World) : Calls Try.prog 20 #[.pointer none] w fun r w' => r = .returned (.int .u64 0) ∧ w' = w := by
  go_enter Try.func20, Try.ntmps20
  go_wp2
  go_ret
  exact ⟨rfl, rfl⟩
set_option maxRecDepth 100000 in
set_option maxHeartbeats 1000000 in
/-- Wheel.Len. -/
theorem len_any (w : World) {S : Nat → Prop} {wb : Nat} {now : Int} {L : List E} (h : Wh S w wb now L) : Calls Try.prog 21 #[.pointer (some ⟨wb, 0, none⟩)] w fun r w' => r = .returned (.int .i64 L.length) ∧ w' = w := by
  obtain ⟨bd, bs, h1, h2⟩ := h.ex
  have c1 := h1.c1
  have hl := h1.dl.len 3
  go_enter Try.func21, Try.ntmps21
  go_wp2
  go_ret
  exact ⟨rfl, rfl⟩
set_option maxRecDepth 100000 in
set_option maxHeartbeats 1000000 in
theorem len_nil (w : World) : Calls Try.prog 21 #[.pointer none] w fun r w' => r = .returned (.int .i64 0) ∧ w' = w := by
  go_enter Try.func21, Try.ntmps21
  go_wp2
  go_ret
  exact ⟨rfl, rfl⟩
theorem atP_len (now : Int) (L : List E) (i : Nat) : (atP now L i).length ≤ L.length := List.length_filter_le _ _
set_option maxRecDepth 100000 in
set_option maxHeartbeats 1000000 in
/-- Wheel.Slot, of a slot that is one. -/
theorem slot_any (w : World) {S : Nat → Prop} {wb : Nat} {now : Int} {L : List E} (h : Wh S w wb now L) {k q : Nat} (hk : k < 4) (hq : q < 16) {M : List E} (hM : Hid (atP now L (16 * k + q) = M)) :
    Calls Try.prog 22 #[.pointer (some ⟨wb, 0, none⟩), .int .i64 k, .int .i64 q] w fun r w' => ∃ a cap, r = .returned (.slice a M.length cap) ∧ Rw 52 w' (.slice a M.length cap) M ∧ (∀ j, (Value.slice a M.length cap).ownBlock = some j → w.heap.size ≤ j) ∧ w.grownBy w' none := by
  obtain ⟨bd, bs, h1, h2⟩ := h.ex
  have cs := h1.cs hk hq
  have hs := h1.st (16 * k + q) (by omega)
  have hl := atP_len now L (16 * k + q)
  have hsr := h.srt.atP now (16 * k + q)
  have hlen := h.len
  rw [hM.out] at hs hl hsr
  generalize bs (16 * k + q) = b at *
  have d1 : decide ((k : Int) < 0) = false := by simp
  have d2 : decide ((k : Int) ≥ 4) = false := by simp; omega
  have d3 : decide ((q : Int) < 0) = false := by simp
  have d4 : decide ((q : Int) ≥ 16) = false := by simp; omega
  replace hl : Hid _ := ⟨hl⟩
  go_enter Try.func22, Try.ntmps22
  go_wp2_with fail
  refine (inOrder_any w hs (by have := hl.out; omega) hsr).mono ?_
  rintro r w1 ⟨a, cap, rfl, hr, hn, hg⟩
  replace hr : Hid _ := ⟨hr⟩
  replace hn : Hid _ := ⟨hn⟩
  go_wp2
  go_ret
  exact ⟨a, cap, rfl, hr.out, hn.out, hg⟩
set_option maxRecDepth 100000 in
set_option maxHeartbeats 1000000 in
/-- .. of one that is none. -/
theorem slot_none (w : World) (wb : Nat) (k q : Int) (h : k < 0 ∨ k ≥ 4 ∨ q < 0 ∨ q ≥ 16) :
    Calls Try.prog 22 #[.pointer (some ⟨wb, 0, none⟩), .int .i64 k, .int .i64 q] w fun r w' => r = .returned (.slice none 0 0) ∧ w' = w := by
  by_cases h1 : k < 0
  · have d1 : decide (k < 0) = true := by simpa using h1
    go_enter Try.func22, Try.ntmps22
    go_wp2
    go_ret
    exact ⟨rfl, rfl⟩
  · have d1 : decide (k < 0) = false := by simpa using h1
    by_cases h2 : k ≥ 4
    · have d2 : decide (k ≥ 4) = true := by simpa using h2
      go_enter Try.func22, Try.ntmps22
      go_wp2
      go_ret
      exact ⟨rfl, rfl⟩
    · have d2 : decide (k ≥ 4) = false := by simpa using h2
      by_cases h3 : q < 0
      · have d3 : decide (q < 0) = true := by simpa using h3
        go_enter Try.func22, Try.ntmps22
        go_wp2
        go_ret
        exact ⟨rfl, rfl⟩
      · have d3 : decide (q < 0) = false := by simpa using h3
        have d4 : decide (q ≥ 16) = true := by simp; omega
        go_enter Try.func22, Try.ntmps22
        go_wp2
        go_ret
        exact ⟨rfl, rfl⟩
set_option maxRecDepth 100000 in
set_option maxHeartbeats 1000000 in
theorem slot_nil (w : World) (k q : Int) : Calls Try.prog 22 #[.pointer none, .int .i64 k, .int .i64 q] w fun r w' => r = .returned (.slice none 0 0) ∧ w' = w := by
  go_enter Try.func22, Try.ntmps22
  go_wp2
  go_ret
  exact ⟨rfl, rfl⟩
set_option maxRecDepth 100000 in
set_option maxHeartbeats 1000000 in
/-- Wheel.Far. -/
theorem far_any (w : World) {S : Nat → Prop} {wb : Nat} {now : Int} {L : List E} (h : Wh S w wb now L) {M : List E} (hM : Hid (atP now L 64 = M)) :
    Calls Try.prog 25 #[.pointer (some ⟨wb, 0, none⟩)] w fun r w' => ∃ a cap, r = .returned (.slice a M.length cap) ∧ Rw 52 w' (.slice a M.length cap) M ∧ (∀ j, (Value.slice a M.length cap).ownBlock = some j → w.heap.size ≤ j) ∧ w.grownBy w' none := by
  obtain ⟨bd, bs, h1, h2⟩ := h.ex
  have cs := h1.cn (i := 64) (by omega)
  simp only [Nat.reduceAdd] at cs
  have hs := h1.st 64 (by omega)
  have hl := atP_len now L 64
  have hsr := h.srt.atP now 64
  have hlen := h.len
  rw [hM.out] at hs hl hsr
  generalize bs 64 = b at *
  replace hl : Hid _ := ⟨hl⟩
  go_enter Try.func25, Try.ntmps25
  go_wp2_with fail
  refine (inOrder_any w hs (by have := hl.out; omega) hsr).mono ?_
  rintro r w1 ⟨a, cap, rfl, hr, hn, hg⟩
  replace hr : Hid _ := ⟨hr⟩
  replace hn : Hid _ := ⟨hn⟩
  go_wp2
  go_ret
  exact ⟨a, cap, rfl, hr.out, hn.out, hg⟩
set_option maxRecDepth 100000 in
set_option maxHeartbeats 1000000 in
theorem far_nil (w : World) : Calls Try.prog 25 #[.pointer none] w fun r w' => r = .returned (.slice none 0 0) ∧ w' = w := by
  go_enter Try.func25, Try.ntmps25
  go_wp2
  go_ret
  exact ⟨rfl, rfl⟩
end Go.Proofs.Ytlljfgpmjpmoiaa
