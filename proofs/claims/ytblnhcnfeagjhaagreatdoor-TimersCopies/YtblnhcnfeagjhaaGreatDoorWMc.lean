/- A wheel in memory; where a deadline is at home; Clock, Len, Slot, Far. -/
import Derived.Test.YtblnhcnfeagjhaaGreatDoorWMin
namespace Go.Proofs.YtblnhcnfeagjhaaGreatDoor.W
open Go.RowKit Go.IntWalk Go.Maps Go.Shelf
set_option linter.unusedVariables false
/-- The blocks of a wheel. -/
def fpw (wb bd : Nat) (bs : Nat → Nat) (k : Nat) : Prop := k = wb ∨ k = bd ∨ ∃ i, i < 65 ∧ k = bs i
/-- A wheel: block wb is its struct, bd its deadlines, which are L's; bs i are its sets (64: the far one), which hold c i. -/
structure Wf (w : World) (wb bd : Nat) (bs : Nat → Nat) (now : Int) (L : List E) (c : Nat → List E) : Prop where
  blk : ∃ cs : Array Value, w.heap[wb]? = some (.cells cs 106 (0, 0)) ∧ cs.size = 67 ∧ cs[0]? = some (.int .u64 now) ∧ cs[1]? = some (.map (some bd)) ∧ ∀ i, i < 65 → cs[2 + i]? = some (.map (some (bs i)))
  dl : Dl w bd L
  st : ∀ i, i < 65 → Sset w (bs i) (c i)
  inj : ∀ i j, i < 65 → j < 65 → bs i = bs j → i = j
  nd : ∀ i, i < 65 → bs i ≠ bd
  nw : 0 ≤ now ∧ now < 18446744073709551616
section
variable {w w' : World} {wb bd : Nat} {bs : Nat → Nat} {now : Int} {L L' : List E} {c c' : Nat → List E}
theorem Wf.wbl (h : Wf w wb bd bs now L c) : wb < w.heap.size := by obtain ⟨cs, h1, _⟩ := h.blk; exact (Array.getElem?_eq_some_iff.1 h1).1
theorem Wf.fpl (h : Wf w wb bd bs now L c) : ∀ k, fpw wb bd bs k → k < w.heap.size := by
  rintro k (rfl | rfl | ⟨i, hi, rfl⟩)
  · exact h.wbl
  · exact h.dl.lt
  · exact (h.st i hi).lt
theorem Wf.nwb (h : Wf w wb bd bs now L c) {i : Nat} (hi : i < 65) : bs i ≠ wb := by
  intro e
  obtain ⟨cs, h1, _⟩ := h.blk
  obtain ⟨es, cl, h2⟩ := (h.st i hi).isMap
  rw [e, h1] at h2
  cases h2
theorem Wf.ndw (h : Wf w wb bd bs now L c) : bd ≠ wb := by
  intro e
  obtain ⟨cs, h1, _⟩ := h.blk
  obtain ⟨D, ⟨es, cl, h2, _⟩, _⟩ := h.dl
  rw [e, h1] at h2
  cases h2
theorem Wf.c0 (h : Wf w wb bd bs now L c) : w.cell? ⟨wb, 0, none⟩ = some (.int .u64 now) := by
  obtain ⟨cs, h1, _, h2, _⟩ := h.blk
  simp [World.cell?, h1, h2]
theorem Wf.c1 (h : Wf w wb bd bs now L c) : w.cell? ⟨wb, 1, none⟩ = some (.map (some bd)) := by
  obtain ⟨cs, h1, _, _, h2, _⟩ := h.blk
  simp [World.cell?, h1, h2]
theorem Wf.cn (h : Wf w wb bd bs now L c) {i : Nat} (hi : i < 65) : w.cell? ⟨wb, 2 + i, none⟩ = some (.map (some (bs i))) := by
  obtain ⟨cs, h1, _, _, _, h2⟩ := h.blk
  simp [World.cell?, h1, h2 i hi]
/-- .. a level's slot's. -/
theorem Wf.cs (h : Wf w wb bd bs now L c) {k q : Nat} (hk : k < 4) (hq : q < 16) : w.cell? ⟨wb, 2 + k * 16 + q, none⟩ = some (.map (some (bs (16 * k + q)))) := by
  have := h.cn (i := 16 * k + q) (by omega)
  rw [show 2 + k * 16 + q = 2 + (16 * k + q) by omega]
  exact this
theorem Wf.fz (h : Wf w wb bd bs now L c) (i : Nat) : w.frozen? ⟨wb, i, none⟩ = false := by
  obtain ⟨cs, h1, _⟩ := h.blk
  simp [World.frozen?, h1]
theorem Wf.kept (h : Wf w wb bd bs now L c) (hb : ∀ k, fpw wb bd bs k → w'.heap[k]? = w.heap[k]?) : Wf w' wb bd bs now L c := by
  obtain ⟨cs, h1, h2⟩ := h.blk
  exact ⟨⟨cs, (hb wb (.inl rfl)).trans h1, h2⟩, h.dl.kept (hb bd (.inr (.inl rfl))), fun i hi => (h.st i hi).kept (hb _ (.inr (.inr ⟨i, hi, rfl⟩))), h.inj, h.nd, h.nw⟩
theorem Wf.keep (h : Wf w wb bd bs now L c) (hg : w.grownBy w' none) : Wf w' wb bd bs now L c := h.kept fun k hk => hg.block k (h.fpl k hk) (by simp)
/-- A set has turned. -/
theorem Wf.turnSet (h : Wf w wb bd bs now L c) {i : Nat} (hi : i < 65) {l : List E} (hg : w.grownBy w' (some (bs i))) (hs : Sset w' (bs i) l) (hc : ∀ j, j < 65 → c' j = if j = i then l else c j) : Wf w' wb bd bs now L c' := by
  obtain ⟨cs, h1, h2⟩ := h.blk
  refine ⟨⟨cs, (hg.block wb h.wbl (by simp; exact (h.nwb hi).symm)).trans h1, h2⟩, h.dl.kept (hg.block bd h.dl.lt (by simp; exact (h.nd i hi).symm)), fun j hj => ?_, h.inj, h.nd, h.nw⟩
  rw [hc j hj]
  by_cases e : j = i
  · subst e; simpa using hs
  · simp only [e, if_false]
    exact (h.st j hj).kept (hg.block _ (h.st j hj).lt (by simp; exact fun e2 => e (h.inj j i hj hi e2)))
/-- The deadlines have turned. -/
theorem Wf.turnDl (h : Wf w wb bd bs now L c) (hg : w.grownBy w' (some bd)) (hd : Dl w' bd L') : Wf w' wb bd bs now L' c := by
  obtain ⟨cs, h1, h2⟩ := h.blk
  exact ⟨⟨cs, (hg.block wb h.wbl (by simp; exact h.ndw.symm)).trans h1, h2⟩, hd, fun j hj => (h.st j hj).kept (hg.block _ (h.st j hj).lt (by simp; exact h.nd j hj)), h.inj, h.nd, h.nw⟩
/-- The clock was moved. -/
theorem Wf.turnNow (h : Wf w wb bd bs now L c) {now' : Int} (hn : 0 ≤ now' ∧ now' < 18446744073709551616) : Wf (w.setCell ⟨wb, 0, none⟩ (.int .u64 now')) wb bd bs now' L c := by
  obtain ⟨cs, h1, h2, h3, h4, h5⟩ := h.blk
  have hg := grown_setCell w ⟨wb, 0, none⟩ (.int .u64 now')
  refine ⟨⟨cs.setIfInBounds 0 (.int .u64 now'), heap_set h1 0 _, by simpa using h2, by simp [h2], ?_, fun i hi => ?_⟩, h.dl.kept (hg.block bd h.dl.lt (by simp; exact h.ndw)), fun j hj => (h.st j hj).kept (hg.block _ (h.st j hj).lt (by simp; exact h.nwb hj)), h.inj, h.nd, hn⟩
  · rw [Array.getElem?_setIfInBounds_ne (by omega)]; exact h4
  · rw [Array.getElem?_setIfInBounds_ne (by omega)]; exact h5 i hi
end
theorem lat_figure {w : World} (a : Int) (k : Nat) (p : Lat w) (ha : 0 ≤ a ∧ a < 18446744073709551616) (hk : k < 16) : Calls Tryz.prog 87 #[.int .u64 a, .int .i64 k] p.W fun e w'' => e = .returned (.int .i64 (fg a.toNat k)) ∧ ∃ p' : Lat w, w'' = p'.W :=
  (figure_any a k p.W ha hk).mono fun e w'' ⟨he, hB⟩ => ⟨he, p, hB⟩
set_option maxRecDepth 100000 in
set_option maxHeartbeats 1000000 in
/-- Wheel.home. -/
theorem home_any (w : World) {wb bd : Nat} {bs : Nat → Nat} {now : Int} {L : List E} {c : Nat → List E} (h : Wf w wb bd bs now L c) (a : Int) (ha : 0 ≤ a ∧ a < 18446744073709551616) (hne : a ≠ now) :
    Calls Tryz.prog 64 #[.pointer (some ⟨wb, 0, none⟩), .int .u64 a] w fun r w' => r = .returned (.map (some (bs (plc now.toNat a.toNat)))) ∧ w.grownBy w' none := by
  have hun := unlike_any a now w ha h.nw hne
  have hlv := lv_lt (a := a.toNat) (b := now.toNat) (by have := ha; omega) (by have := h.nw; omega) (by have := h.nw; omega)
  have hfg := fg_lt a.toNat (lv a.toNat now.toNat)
  by_cases hl : lv a.toNat now.toNat < 4
  · have hpl := plc_near hl
    rw [hpl]
    have cn := h.cs hl hfg
    have c0 := h.c0
    haveI := lat_nonempty w
    have kf := fun p : Lat w => lat_figure a (lv a.toNat now.toNat) p ha hlv
    generalize fg a.toNat (lv a.toNat now.toNat) = q at *
    generalize lv a.toNat now.toNat = k at *
    have hd : decide ((k : Int) ≥ 4) = false := by simp; omega
    have kcn := lat_cell cn
    clear hpl
    go_enter Tryz.func64, Tryz.ntmps64
    go_wp2_with (go_at_call 86; refine hun.mono ?_; rintro e w' ⟨rfl, rfl⟩)
    refine wp_region_lat (by kernel_rfl) (by kernel_rfl) ?_
    repeat (go_big_quiet_step (fail))
    go_big_quiet_step ((go_at_call 87; exact kf _))
    repeat (go_big_quiet_step (fail))
    refine wpQuiet_nil ?_
    intro _ hw'
    obtain ⟨p, hw''⟩ := hw'
    subst hw''
    go_wp2
    go_ret
    exact ⟨rfl, p.h⟩
  · have hpl := plc_far hl
    rw [hpl]
    have cn := h.cn (i := 64) (by omega)
    have c0 := h.c0
    generalize lv a.toNat now.toNat = k at *
    have hd : decide ((k : Int) ≥ 4) = true := by simp; omega
    simp only [Nat.reduceAdd] at cn
    clear hpl
    go_enter Tryz.func64, Tryz.ntmps64
    go_wp2_with (go_at_call 86; refine hun.mono ?_; rintro e w' ⟨rfl, rfl⟩)
    go_ret
    exact ⟨rfl, grown_refl _⟩
/-- Where a timer stands. -/
def pE (now : Int) (e : E) : Nat := plc now.toNat e.at_.toNat
/-- Those that stand at a place. -/
def atP (now : Int) (L : List E) (i : Nat) : List E := L.filter fun e => pE now e == i
theorem mem_atP {now : Int} {L : List E} {i : Nat} {x : E} : x ∈ atP now L i ↔ x ∈ L ∧ pE now x = i := by simp [atP]
/-- A wheel: its clock, its timers in order; its blocks are such that S is true of them. -/
structure Wh (S : Nat → Prop) (w : World) (wb : Nat) (now : Int) (L : List E) : Prop where
  ex : ∃ bd bs, Wf w wb bd bs now L (atP now L) ∧ ∀ k, fpw wb bd bs k → S k
  srt : Srt L
  abv : ∀ e ∈ L, now < e.at_
  ok : ∀ e ∈ L, e.ok
  len : L.length ≤ 100000
theorem Srt.atP {L : List E} (h : Srt L) (now : Int) (i : Nat) : Srt (atP now L i) := h.sub List.filter_sublist
section
variable {S S' : Nat → Prop} {w w' : World} {wb : Nat} {now : Int} {L : List E}
theorem Wh.mono (h : Wh S w wb now L) (hs : ∀ k, S k → S' k) : Wh S' w wb now L := by
  obtain ⟨bd, bs, h1, h2⟩ := h.ex
  exact ⟨⟨bd, bs, h1, fun k hk => hs k (h2 k hk)⟩, h.srt, h.abv, h.ok, h.len⟩
theorem Wh.kept (h : Wh S w wb now L) (hb : ∀ k, S k → k < w.heap.size → w'.heap[k]? = w.heap[k]?) : Wh S w' wb now L := by
  obtain ⟨bd, bs, h1, h2⟩ := h.ex
  exact ⟨⟨bd, bs, h1.kept fun k hk => hb k (h2 k hk) (h1.fpl k hk), h2⟩, h.srt, h.abv, h.ok, h.len⟩
theorem Wh.nw (h : Wh S w wb now L) : 0 ≤ now ∧ now < 18446744073709551616 := by
  obtain ⟨bd, bs, h1, h2⟩ := h.ex
  exact h1.nw
end
set_option maxRecDepth 100000 in
set_option maxHeartbeats 1000000 in
/-- Wheel.Clock. -/
theorem clock_any (w : World) {S : Nat → Prop} {wb : Nat} {now : Int} {L : List E} (h : Wh S w wb now L) : Calls Tryz.prog 54 #[.pointer (some ⟨wb, 0, none⟩)] w fun r w' => r = .returned (.int .u64 now) ∧ w' = w := by
  obtain ⟨bd, bs, h1, h2⟩ := h.ex
  have c0 := h1.c0
  go_enter Tryz.func54, Tryz.ntmps54
  go_wp2
  go_ret
  exact ⟨rfl, rfl⟩
set_option maxRecDepth 100000 in
set_option maxHeartbeats 1000000 in
theorem clock_nil (w : World) : Calls Tryz.prog 54 #[.pointer none] w fun r w' => r = .returned (.int .u64 0) ∧ w' = w := by
  go_enter Tryz.func54, Tryz.ntmps54
  go_wp2
  go_ret
  exact ⟨rfl, rfl⟩
set_option maxRecDepth 100000 in
set_option maxHeartbeats 1000000 in
/-- Wheel.Len. -/
theorem len_any (w : World) {S : Nat → Prop} {wb : Nat} {now : Int} {L : List E} (h : Wh S w wb now L) : Calls Tryz.prog 79 #[.pointer (some ⟨wb, 0, none⟩)] w fun r w' => r = .returned (.int .i64 L.length) ∧ w' = w := by
  obtain ⟨bd, bs, h1, h2⟩ := h.ex
  have c1 := h1.c1
  have hl := h1.dl.len 3
  go_enter Tryz.func79, Tryz.ntmps79
  go_wp2
  go_ret
  exact ⟨rfl, rfl⟩
set_option maxRecDepth 100000 in
set_option maxHeartbeats 1000000 in
theorem len_nil (w : World) : Calls Tryz.prog 79 #[.pointer none] w fun r w' => r = .returned (.int .i64 0) ∧ w' = w := by
  go_enter Tryz.func79, Tryz.ntmps79
  go_wp2
  go_ret
  exact ⟨rfl, rfl⟩
theorem atP_len (now : Int) (L : List E) (i : Nat) : (atP now L i).length ≤ L.length := List.length_filter_le _ _
end Go.Proofs.YtblnhcnfeagjhaaGreatDoor.W

/- Drop and Put of a wheel. -/
namespace Go.Proofs.YtblnhcnfeagjhaaGreatDoor.W
open Go.RowKit Go.IntWalk Go.Maps Go.Shelf
set_option linter.unusedVariables false
theorem atP_eq {now : Int} {L M : List E} (hL : Srt L) (hM : Srt M) {j : Nat} (h : ∀ x, pE now x = j → (x ∈ L ↔ x ∈ M)) : atP now L j = atP now M j :=
  (hL.atP now j).eq (hM.atP now j) fun x => by
    rw [mem_atP, mem_atP]
    constructor
    · rintro ⟨h1, h2⟩; exact ⟨(h x h2).1 h1, h2⟩
    · rintro ⟨h1, h2⟩; exact ⟨(h x h2).2 h1, h2⟩
theorem Kp.set {C : Nat → Prop} {w w' : World} {b : Nat} (hg : w.grownBy w' (some b)) (hb : C b) : Kp C w w' := Kp.of hg fun k hk => by cases hk; exact hb
theorem Kp.on {C : Nat → Prop} {a b c : World} (h : Kp C a b) (k : Kp C b c) : Kp C a c := h.trans k fun _ _ h => h
set_option maxRecDepth 100000 in
set_option maxHeartbeats 1000000 in
/-- Wheel.Drop. -/
theorem drop_any (w : World) {S : Nat → Prop} {wb : Nat} {now : Int} {L : List E} (h : Wh S w wb now L) (n : ByteArray) (hn : n.size ≤ maxLen) :
    Calls Tryz.prog 42 #[.pointer (some ⟨wb, 0, none⟩), .string n] w fun r w' => r = .returned (.bool (hasN n L)) ∧ Wh S w' wb now (delN n L) ∧ Kp S w w' := by
  obtain ⟨bd, bs, h1, h2⟩ := h.ex
  have hsr := h.srt
  have c1 := h1.c1
  rcases h1.dl.look hn with ⟨e, he, hen, hlk⟩ | ⟨hno, c, hlk⟩
  · have hok := h.ok e he
    have hab := h.abv e he
    have hat := atP_len now L (pE now e)
    have hpl : pE now e < 65 := plc_lt
    have hS : Sset w (bs (pE now e)) (atP now L (pE now e)) := h1.st _ hpl
    subst hen
    have hhas : Hid (hasN e.n L = true) := ⟨hasN_iff.2 ⟨e, he, rfl⟩⟩
    rw [hhas.out]
    go_enter Tryz.func42, Tryz.ntmps42
    go_wp2_with fail
    refine (home_any w h1 e.at_ hok.2 (by omega)).mono ?_
    rintro r w1 ⟨rfl, hg1⟩
    have hb1 : bs (plc now.toNat e.at_.toNat) = bs (pE now e) := rfl
    rw [hb1]
    have w1f := h1.keep hg1
    have hmem : ∀ x, x ∈ atP now (delN e.n L) (pE now e) ↔ x ∈ atP now L (pE now e) ∧ x ≠ e := fun x => by
      rw [mem_atP, mem_atP, mem_delN]
      constructor
      · rintro ⟨⟨a, b⟩, c⟩; exact ⟨⟨a, c⟩, fun ex => b (by rw [ex])⟩
      · rintro ⟨⟨a, c⟩, b⟩; exact ⟨⟨a, fun en => b (hsr.un x a e he en)⟩, c⟩
    obtain ⟨w2, hrun2, hs2, hg2⟩ := (w1f.st _ hpl).drop hok ((hsr.del e.n).atP now _).nodup hmem 0
    have w2f : Wf w2 wb bd bs now L (atP now (delN e.n L)) := w1f.turnSet hpl hg2 hs2 fun j hj => by
      by_cases ej : j = pE now e
      · subst ej; simp
      · rw [if_neg ej]
        refine atP_eq (hsr.del e.n) hsr fun x hx => ?_
        rw [mem_delN]
        exact ⟨fun h => h.1, fun h => ⟨h, fun en => ej (by rw [← hx, hsr.un x h e he en])⟩⟩
    obtain ⟨w3, hrun3, hd3, hg3⟩ := w2f.dl.drop hsr hok.1 0
    have w3f := w2f.turnDl hg3 hd3
    have c1' := w2f.c1
    have hK : Kp S w w3 := ((Kp.of0 hg1).on (Kp.set hg2 (h2 _ (.inr (.inr ⟨_, hpl, rfl⟩))))).on (Kp.set hg3 (h2 _ (.inr (.inl rfl))))
    generalize bs (pE now e) = b at *
    replace w1f : Hid _ := ⟨w1f⟩
    replace w2f : Hid _ := ⟨w2f⟩
    replace w3f : Hid _ := ⟨w3f⟩
    replace hK : Hid _ := ⟨hK⟩
    replace hg2 : Hid _ := ⟨hg2⟩
    replace hg3 : Hid _ := ⟨hg3⟩
    replace hd3 : Hid _ := ⟨hd3⟩
    replace hs2 : Hid _ := ⟨hs2⟩
    replace hmem : Hid _ := ⟨hmem⟩
    go_wp2
    go_ret
    refine ⟨rfl, ⟨⟨bd, bs, w3f.out, h2⟩, hsr.del _, fun x hx => h.abv x (mem_delN.1 hx).1, fun x hx => h.ok x (mem_delN.1 hx).1, ?_⟩, hK.out⟩
    have := delN_le e.n L
    have := h.len
    omega
  · have hhas : hasN n L = false := hasN_not.2 hno
    rw [delN_not hhas, hhas]
    replace hhas : Hid _ := ⟨hhas⟩
    replace hno : Hid _ := ⟨hno⟩
    go_enter Tryz.func42, Tryz.ntmps42
    go_wp2
    go_ret
    exact ⟨rfl, h, Kp.refl S w⟩
set_option maxRecDepth 100000 in
set_option maxHeartbeats 1000000 in
theorem drop_nil (w : World) (n : ByteArray) : Calls Tryz.prog 42 #[.pointer none, .string n] w fun r w' => r = .returned (.bool false) ∧ w' = w := by
  go_enter Tryz.func42, Tryz.ntmps42
  go_wp2
  go_ret
  exact ⟨rfl, rfl⟩
set_option maxRecDepth 100000 in
set_option maxHeartbeats 1000000 in
/-- Wheel.Put of a deadline above the clock. -/
theorem put_some (w : World) {S : Nat → Prop} {wb : Nat} {now : Int} {L : List E} (h : Wh S w wb now L) (e : E) (he : e.ok) (ha : now < e.at_) (hl : L.length < 100000) :
    Calls Tryz.prog 59 #[.pointer (some ⟨wb, 0, none⟩), .string e.n, .int .u64 e.at_] w fun r w' => r = .returned (.bool true) ∧ Wh S w' wb now (putE e L) ∧ Kp S w w' := by
  have hd : decide (e.at_ ≤ now) = false := by simp; omega
  have hcd := drop_any w h e.n he.1
  have c0 : w.cell? ⟨wb, 0, none⟩ = some (.int .u64 now) := by obtain ⟨bd, bs, h1, h2⟩ := h.ex; exact h1.c0
  have hsr := h.srt
  have hab := h.abv
  have hok := h.ok
  have hlen := h.len
  go_enter Tryz.func59, Tryz.ntmps59
  go_wp2_with fail
  refine hcd.mono ?_
  rintro r w1 ⟨rfl, hw1, hK1⟩
  obtain ⟨bd, bs, h1, h2⟩ := hw1.ex
  have c1 := h1.c1
  have hpl : pE now e < 65 := plc_lt
  have hno : ∀ x ∈ delN e.n L, x.n ≠ e.n := fun x hx => (mem_delN.1 hx).2
  have hdl := delN_le e.n L
  obtain ⟨w2, hrun2, hd2, hg2⟩ := h1.dl.store (L' := putE e L) (by unfold maxLen; omega) he hno (fun x => by rw [mem_putE, mem_delN]) (putE_len hsr e)
  have w2f := h1.turnDl hg2 hd2
  have hm : ∀ x, x ∈ atP now (putE e L) (pE now e) ↔ x = e ∨ x ∈ atP now (delN e.n L) (pE now e) := fun x => by
    rw [mem_atP, mem_atP, mem_putE, mem_delN]
    constructor
    · rintro ⟨rfl | h, b⟩
      · exact .inl rfl
      · exact .inr ⟨h, b⟩
    · rintro (rfl | ⟨h, b⟩)
      · exact ⟨.inl rfl, rfl⟩
      · exact ⟨.inr h, b⟩
  have hcl : (atP now (delN e.n L) (pE now e)).length < maxLen := by
    have := atP_len now (delN e.n L) (pE now e)
    unfold maxLen
    omega
  replace hd2 : Hid _ := ⟨hd2⟩
  replace hg2 : Hid _ := ⟨hg2⟩
  replace hm : Hid _ := ⟨hm⟩
  replace hno : Hid _ := ⟨hno⟩
  go_wp2_with fail
  refine (home_any w2 w2f e.at_ he.2 (by omega)).mono ?_
  rintro r w3 ⟨rfl, hg3⟩
  have hb1 : bs (plc now.toNat e.at_.toNat) = bs (pE now e) := rfl
  rw [hb1]
  have w3f := w2f.keep hg3
  have hsa := w3f.st _ hpl
  have hK3 : Hid (Kp S w w3) := ⟨(hK1.on (Kp.set hg2.out (h2 _ (.inr (.inl rfl))))).on (Kp.of0 hg3)⟩
  have hbS : S (bs (pE now e)) := h2 _ (.inr (.inr ⟨_, hpl, rfl⟩))
  go_wp2_with fail
  refine (add_any w3 hsa hcl he ((hsr.put e).atP now (pE now e)).nodup hm.out).mono ?_
  rintro r w4 ⟨rfl, hs4, hg4⟩
  have w4f : Wf w4 wb bd bs now (putE e L) (atP now (putE e L)) := w3f.turnSet hpl hg4 hs4 fun j hj => by
    by_cases ej : j = pE now e
    · subst ej; simp
    · rw [if_neg ej]
      refine atP_eq (hsr.put e) (hsr.del e.n) fun x hx => ?_
      rw [mem_putE, mem_delN]
      exact ⟨fun h => h.elim (fun h => absurd (by rw [← hx, h]) ej) id, .inr⟩
  replace w4f : Hid _ := ⟨w4f⟩
  replace hs4 : Hid _ := ⟨hs4⟩
  replace hg4 : Hid _ := ⟨hg4⟩
  go_wp2
  go_ret
  refine ⟨rfl, ⟨⟨bd, bs, w4f.out, h2⟩, hsr.put e, fun x hx => ?_, fun x hx => ?_, ?_⟩, hK3.out.on (Kp.set hg4.out hbS)⟩
  · rcases mem_putE.1 hx with rfl | hx
    · exact ha
    · exact hab x hx.1
  · rcases mem_putE.1 hx with rfl | hx
    · exact he
    · exact hok x hx.1
  · have := putE_le hsr e
    omega
set_option maxRecDepth 100000 in
set_option maxHeartbeats 1000000 in
/-- .. of one that is not. -/
theorem put_none (w : World) {S : Nat → Prop} {wb : Nat} {now : Int} {L : List E} (h : Wh S w wb now L) (n : ByteArray) (a : Int) (ha : a ≤ now) :
    Calls Tryz.prog 59 #[.pointer (some ⟨wb, 0, none⟩), .string n, .int .u64 a] w fun r w' => r = .returned (.bool false) ∧ w' = w := by
  have hd : decide (a ≤ now) = true := by simpa using ha
  have c0 : w.cell? ⟨wb, 0, none⟩ = some (.int .u64 now) := by obtain ⟨bd, bs, h1, h2⟩ := h.ex; exact h1.c0
  go_enter Tryz.func59, Tryz.ntmps59
  go_wp2
  go_ret
  exact ⟨rfl, rfl⟩
set_option maxRecDepth 100000 in
set_option maxHeartbeats 1000000 in
theorem put_nil (w : World) (n : ByteArray) (a : Int) : Calls Tryz.prog 59 #[.pointer none, .string n, .int .u64 a] w fun r w' => r = .returned (.bool false) ∧ w' = w := by
  go_enter Tryz.func59, Tryz.ntmps59
  go_wp2
  go_ret
  exact ⟨rfl, rfl⟩
end Go.Proofs.YtblnhcnfeagjhaaGreatDoor.W

/- A new wheel. -/
namespace Go.Proofs.YtblnhcnfeagjhaaGreatDoor.W
open Go.RowKit Go.IntWalk Go.Maps Go.Shelf
set_option linter.unusedVariables false
/-- A wheel of which k sets are made; its blocks lie from n on. -/
structure Mk (w wr : World) (n : Nat) (now : Int) (k : Nat) : Prop where
  gr : w.grownBy wr none
  sz : wr.heap.size = n + 3 + k
  bd : wr.heap[n]? = some (.map #[] 0)
  bf : wr.heap[n + 1]? = some (.map #[] 0)
  wb : ∃ cs : Array Value, wr.heap[n + 2]? = some (.cells cs 106 (0, 0)) ∧ cs.size = 67 ∧ cs[0]? = some (.int .u64 now) ∧ cs[1]? = some (.map (some n)) ∧ cs[66]? = some (.map (some (n + 1))) ∧ ∀ i, i < k → cs[2 + i]? = some (.map (some (n + 3 + i)))
  st : ∀ i, i < k → wr.heap[n + 3 + i]? = some (.map #[] 0)
theorem zc_size : Tryz.zeroCells106.size = 67 := by kernel_rfl
theorem Mk.start (w : World) (now : Int) : Mk w (((w.alloc (Obj.map #[] 0)).alloc (Obj.map #[] 0)).alloc (.cells (((Tryz.zeroCells106.setIfInBounds 0 (Value.int IntKind.u64 now)).setIfInBounds 1 (Value.map (some w.heap.size))).setIfInBounds 66 (Value.map (some (w.heap.size + 1)))) 106)) w.heap.size now 0 := by
  have z := zc_size
  have g1 := World.grownBy_alloc w (Obj.map #[] 0) none
  have g2 := World.grownBy_alloc (w.alloc (Obj.map #[] 0)) (Obj.map #[] 0) none
  generalize hcs : ((Tryz.zeroCells106.setIfInBounds 0 (Value.int IntKind.u64 now)).setIfInBounds 1 (Value.map (some w.heap.size))).setIfInBounds 66 (Value.map (some (w.heap.size + 1))) = cs
  have g3 := World.grownBy_alloc ((w.alloc (Obj.map #[] 0)).alloc (Obj.map #[] 0)) (.cells cs 106) none
  have b1 := heap_alloc_new w (Obj.map #[] 0)
  have b2 := heap_alloc_new (w.alloc (Obj.map #[] 0)) (Obj.map #[] 0)
  have b3 := heap_alloc_new ((w.alloc (Obj.map #[] 0)).alloc (Obj.map #[] 0)) (.cells cs 106)
  refine ⟨grown_none (grown_none g1 g2) g3, by simp, ?_, ?_, ⟨cs, by simpa using b3, ?_, ?_, ?_, ?_, by omega⟩, by omega⟩
  · rw [(grown_none g2 g3).block w.heap.size (by simp) (by simp)]; exact b1
  · rw [g3.block (w.heap.size + 1) (by simp) (by simp)]; simpa using b2
  · subst hcs; simp [z]
  · subst hcs; simp [z]
  · subst hcs; simp [z]
  · subst hcs; simp [z]
/-- One more set. -/
theorem Mk.next {w wr : World} {n : Nat} {now : Int} {k : Nat} (h : Mk w wr n now k) (hk : k < 64) (hn : w.heap.size ≤ n) (a : Nat) (ha : a = 2 + k) : Mk w ((wr.alloc (.map #[] 0)).setCell ⟨n + 2, a, none⟩ (.map (some wr.heap.size))) n now (k + 1) := by
  subst ha
  obtain ⟨cs, h1, h2, h3, h4, h5, h6⟩ := h.wb
  have hs := h.sz
  have hg2 := World.grownBy_alloc wr (Obj.map #[] 0) none
  have hg1 := grown_setCell (wr.alloc (Obj.map #[] 0)) ⟨n + 2, 2 + k, none⟩ (.map (some wr.heap.size))
  have hb := heap_alloc_new wr (Obj.map #[] 0)
  have hz : (wr.alloc (Obj.map #[] 0)).heap.size = wr.heap.size + 1 := by simp
  have old : ∀ j, j < wr.heap.size → j ≠ n + 2 → ((wr.alloc (.map #[] 0)).setCell ⟨n + 2, 2 + k, none⟩ (.map (some wr.heap.size))).heap[j]? = wr.heap[j]? := fun j hj hne => by
    rw [hg1.block j (by rw [hz]; omega) (by simp; exact hne), hg2.block j hj (by simp)]
  refine ⟨grown_new (grown_none h.gr hg2) hg1 (by show w.heap.size ≤ n + 2; omega), ?_, (old n (by omega) (by omega)).trans h.bd, (old (n + 1) (by omega) (by omega)).trans h.bf, ⟨cs.setIfInBounds (2 + k) (.map (some wr.heap.size)), ?_, by simpa using h2, ?_, ?_, ?_, fun i hi => ?_⟩, fun i hi => ?_⟩
  · simp; omega
  · exact heap_set ((hg2.block (n + 2) (by omega) (by simp)).trans h1) _ _
  · rw [Array.getElem?_setIfInBounds_ne (by omega)]; exact h3
  · rw [Array.getElem?_setIfInBounds_ne (by omega)]; exact h4
  · rw [Array.getElem?_setIfInBounds_ne (by omega)]; exact h5
  · by_cases e : i = k
    · subst e
      rw [Array.getElem?_setIfInBounds_self, if_pos (by omega), hs]
    · rw [Array.getElem?_setIfInBounds_ne (by omega)]
      exact h6 i (by omega)
  · by_cases e : i = k
    · subst e
      rw [hg1.block _ (by rw [hz]; omega) (by simp; omega), ← hs]
      exact hb
    · rw [old _ (by omega) (by omega)]
      exact h.st i (by omega)
theorem Mk.done {w wr : World} {n : Nat} {now : Int} (h : Mk w wr n now 64) (hn : w.heap.size ≤ n) (hb : 0 ≤ now ∧ now < 18446744073709551616) : Wh (fun k => w.heap.size ≤ k ∧ k < wr.heap.size) wr (n + 2) now [] := by
  obtain ⟨cs, h1, h2, h3, h4, h5, h6⟩ := h.wb
  have hs := h.sz
  have hW : Wf wr (n + 2) n (fun i => if i < 64 then n + 3 + i else n + 1) now [] (atP now []) := by
    refine ⟨⟨cs, h1, h2, h3, h4, fun i hi => ?_⟩, Dl.made h.bd, fun i hi => ?_, fun i j hi hj e => ?_, fun i hi => ?_, hb⟩
    · by_cases e : i < 64
      · simp only [e, if_true]; exact h6 i e
      · have : i = 64 := by omega
        subst this
        simpa using h5
    · by_cases e : i < 64
      · simp only [e, if_true]; exact Sset.made (h.st i e)
      · simp only [e, if_false]; exact Sset.made h.bf
    · split at e <;> split at e <;> omega
    · split <;> omega
  refine ⟨⟨n, _, hW, ?_⟩, Srt.nil, by simp, by simp, by simp⟩
  rintro k (rfl | rfl | ⟨i, hi, rfl⟩)
  · omega
  · omega
  · simp only
    split <;> omega
set_option maxRecDepth 100000 in
set_option maxHeartbeats 2000000 in
/-- wheel.New. -/
theorem new_any (w : World) (now : Int) (hn : 0 ≤ now ∧ now < 18446744073709551616) : Calls Tryz.prog 35 #[.int .u64 now] w fun r w' => ∃ wb, r = .returned (.pointer (some ⟨wb, 0, none⟩)) ∧ Wh (fun k => w.heap.size ≤ k ∧ k < w'.heap.size) w' wb now [] ∧ w.grownBy w' none := by
  have hmm := @run_makeMap Tryz.prog
  have hM := Mk.start w now
  replace hM : Hid _ := ⟨hM⟩
  go_enter Tryz.func35, Tryz.ntmps35
  go_wp2_with fail
  go_loopw [11] (fun i wr => ∃ k : Nat, k ≤ 4 ∧ i = .int .i64 k ∧ Hid (Mk w wr w.heap.size now (16 * k)))
    (fun i _ => 4 - (intOf i).toNat)
  case atStart => exact ⟨0, by omega, rfl, hM⟩
  case round =>
    clear hM
    obtain ⟨k, hk, rfl, hM⟩ := hrel
    by_cases hlt : k < 4
    · have hd : decide ((k : Int) < 4) = true := by simp; omega
      go_wp2_with fail
      go_loopw [14] (fun i wr => ∃ q : Nat, q ≤ 16 ∧ i = .int .i64 q ∧ Hid (Mk w wr w.heap.size now (16 * k + q)))
        (fun i _ => 16 - (intOf i).toNat)
      case atStart => exact ⟨0, by omega, rfl, hM⟩
      case round =>
        clear hM
        obtain ⟨q, hq, rfl, hM⟩ := hrel
        by_cases hlq : q < 16
        · have hdq : decide ((q : Int) < 16) = true := by simp; omega
          have hfz : wr.frozen? ⟨w.heap.size + 1 + 1, 2 + k * 16 + q, none⟩ = false := by
            obtain ⟨cs, h1, _⟩ := hM.out.wb
            simp [World.frozen?, h1]
          have hce : ∃ v, wr.cell? ⟨w.heap.size + 1 + 1, 2 + k * 16 + q, none⟩ = some v := by
            obtain ⟨cs, h1, h2, _⟩ := hM.out.wb
            refine ⟨cs[2 + k * 16 + q]'(by omega), ?_⟩
            simp [World.cell?, h1]
          obtain ⟨cv, hce⟩ := hce
          have hne := hM.out.next (by omega) (Nat.le_refl _) (2 + k * 16 + q) (by omega)
          replace hne : Hid _ := ⟨hne⟩
          have hal := World.grownBy_alloc wr (Obj.map #[] 0) none
          have hce2 := grown_cell hal hce
          have hwl : w.heap.size + 1 + 1 < wr.heap.size := by have := hM.out.sz; omega
          have hfz2 : (wr.alloc (Obj.map #[] 0)).frozen? ⟨w.heap.size + 1 + 1, 2 + k * 16 + q, none⟩ = false := by rw [grown_frozen hal hwl]; exact hfz
          replace hwl : Hid _ := ⟨hwl⟩
          go_wp2_with fail
          go_roundw
          case rel => exact ⟨q + 1, by omega, by go_num, hne⟩
          case measure => simp [intOf]; omega
        · have hdq : decide ((q : Int) < 16) = false := by simp; omega
          have hqe : q = 16 := by omega
          subst hqe
          go_wp2_with fail
          go_roundw
          case rel => exact ⟨k + 1, by omega, by go_num, hM⟩
          case measure => simp [intOf]; omega
    · have hd : decide ((k : Int) < 4) = false := by simp; omega
      have hke : k = 4 := by omega
      subst hke
      go_wp2_with fail
      go_ret
      exact ⟨_, rfl, hM.out.done (Nat.le_refl _) hn, hM.out.gr⟩
end Go.Proofs.YtblnhcnfeagjhaaGreatDoor.W
