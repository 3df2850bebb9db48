/- Table.lay. -/
import Derived.Test.YtblnhcnfeagjhaaGreatDoorDrp
namespace Go.Proofs.YtblnhcnfeagjhaaGreatDoor
open Go.RowKit Go.IntWalk Go.Maps Go.Shelf
set_option linter.unusedVariables false
theorem Inv.lay1 {now : Int} {M : List Tmr} {L1 : List W.E} {L2 : List Q.E} (h : Inv now M L1 L2) {x : Tmr} (hno : ∀ y ∈ M, y.nm ≠ x.nm) (hok : (0 ≤ x.at_ ∧ 0 ≤ x.ev) ∧ tR x = true) (hl : M.length < 10000) (ha : now < x.at_) : Inv now (x :: M) (W.putE ⟨x.nm, x.at_⟩ L1) L2 where
  ok := fun y hy => by
    rcases List.mem_cons.1 hy with rfl | hy
    · exact hok
    · exact h.ok y hy
  a := fun e => by
    rw [W.mem_putE, h.a]
    constructor
    · rintro (rfl | ⟨⟨y, hy, h1, rfl⟩, h2⟩)
      · exact ⟨x, List.mem_cons_self, ha, rfl⟩
      · exact ⟨y, List.mem_cons_of_mem _ hy, h1, rfl⟩
    · rintro ⟨y, hy, h1, rfl⟩
      rcases List.mem_cons.1 hy with rfl | hy
      · exact .inl rfl
      · exact .inr ⟨⟨y, hy, h1, rfl⟩, hno y hy⟩
  d := fun e => by
    rw [h.d]
    constructor
    · rintro ⟨y, hy, h1, rfl⟩; exact ⟨y, List.mem_cons_of_mem _ hy, h1, rfl⟩
    · rintro ⟨y, hy, h1, rfl⟩
      rcases List.mem_cons.1 hy with rfl | hy
      · omega
      · exact ⟨y, hy, h1, rfl⟩
  len := by simp only [List.length_cons]; omega
theorem Inv.lay2 {now : Int} {M : List Tmr} {L1 : List W.E} {L2 : List Q.E} (h : Inv now M L1 L2) {x : Tmr} (hno : ∀ y ∈ M, y.nm ≠ x.nm) (hok : (0 ≤ x.at_ ∧ 0 ≤ x.ev) ∧ tR x = true) (hl : M.length < 10000) (ha : x.at_ ≤ now) : Inv now (x :: M) L1 (Q.putE ⟨x.nm, x.at_⟩ L2) where
  ok := fun y hy => by
    rcases List.mem_cons.1 hy with rfl | hy
    · exact hok
    · exact h.ok y hy
  a := fun e => by
    rw [h.a]
    constructor
    · rintro ⟨y, hy, h1, rfl⟩; exact ⟨y, List.mem_cons_of_mem _ hy, h1, rfl⟩
    · rintro ⟨y, hy, h1, rfl⟩
      rcases List.mem_cons.1 hy with rfl | hy
      · omega
      · exact ⟨y, hy, h1, rfl⟩
  d := fun e => by
    rw [Q.mem_putE, h.d]
    constructor
    · rintro (rfl | ⟨⟨y, hy, h1, rfl⟩, h2⟩)
      · exact ⟨x, List.mem_cons_self, ha, rfl⟩
      · exact ⟨y, List.mem_cons_of_mem _ hy, h1, rfl⟩
    · rintro ⟨y, hy, h1, rfl⟩
      rcases List.mem_cons.1 hy with rfl | hy
      · exact .inl rfl
      · exact .inr ⟨⟨y, hy, h1, rfl⟩, hno y hy⟩
  len := by simp only [List.length_cons]; omega
set_option maxRecDepth 100000 in
set_option maxHeartbeats 2000000 in
/-- Table.lay of a timer that waits. -/
theorem lay_wait (w : World) {S : Nat → Prop} {tb : Nat} {now : Int} {M : List Tmr} {L1 : List W.E} {L2 : List Q.E} (h : Tab S w tb now M L1 L2) (x : Tmr) (hx : Sps w.heap.size w x.v x.xs) (hxb : ∀ k, x.v.ownBlock = some k → k < w.heap.size ∧ ¬ S k)
    (hno : ∀ y ∈ M, y.nm ≠ x.nm) (hok : (0 ≤ x.at_ ∧ 0 ≤ x.ev) ∧ tR x = true) (hl : M.length < 10000) (ha : now < x.at_) :
    Calls Tryz.prog 37 #[ptr tb, x.val] w fun r w' => r = .returned (.tuple #[]) ∧ Tab (fun k => Gw S w w' k ∨ x.v.ownBlock = some k) w' tb now (x :: M) (W.putE ⟨x.nm, x.at_⟩ L1) L2 ∧ Kp S w w' := by
  obtain ⟨mb, wb, qb, S1, S2, hT, hfp, hI⟩ := h
  have htr := (tR_iff x).1 hok.2
  have hga := World.grownBy_alloc w (bT x.nm x.vr x.at_ x.ev x.v) none
  have hT0 : Tb (w.alloc (bT x.nm x.vr x.at_ x.ev x.v)).drew tb mb wb qb S1 S2 now M L1 L2 := (hT.keep hga).keep (grown_drew _)
  obtain ⟨w1, hrun, hM1, hg1⟩ := hT0.tm.store (by unfold maxLen; omega) x (by unfold maxLen; omega) hno
  have hT1 : Tb w1 tb mb wb qb S1 S2 now (x :: M) L1 L2 := hT0.map hg1 hM1 fun y hy => by
    rcases List.mem_cons.1 hy with rfl | hy
    · refine ⟨((hx.keep hga (Nat.le_refl _)).keep (grown_drew _) hga.size).up hga.size, fun k hk => ?_⟩
      obtain ⟨k1, k2⟩ := hxb k hk
      exact ⟨Nat.lt_of_lt_of_le k1 hga.size, fun e => k2 (e ▸ hfp _ (.inl rfl)), fun e => k2 (e ▸ hfp _ (.inr (.inl rfl))), fun e => k2 (hfp _ (.inr (.inr (.inl e)))), fun e => k2 (hfp _ (.inr (.inr (.inr (.inl e)))))⟩
    · exact hT0.sp y hy
  have hK1 : Kp S w w1 := (Kp.of0 (C := S) (grown_none hga (grown_drew _))).trans (Kp.of (C := S) hg1 fun k e => by cases e; exact hfp _ (.inr (.inl rfl))) (fun _ _ h => h)
  have hmbl := hT.tm.lt
  have hB : w1.heap[w.heap.size]? = some (bT x.nm x.vr x.at_ x.ev x.v) := by
    rw [hg1.block w.heap.size (by show w.heap.size < (w.alloc _).heap.size; simp) (by simp; omega)]
    exact World.alloc_heap_new w _
  have b0 : (w.alloc (bT x.nm x.vr x.at_ x.ev x.v)).cell? ⟨tb, 0, none⟩ = some (.map (some mb)) := by simp [World.cell?, (hT.keep hga).blk]
  have b1 : w1.cell? ⟨tb, 1, none⟩ = some (ptr wb) := by simp [World.cell?, hT1.blk]
  have b2 : w1.cell? ⟨tb, 2, none⟩ = some (ptr qb) := by simp [World.cell?, hT1.blk]
  obtain ⟨c0, c1, c2, c3, c4, _⟩ := own_five hB
  have hbx : ∀ (w' w5 : World), w1.grownBy w' none → w5.heap[w.heap.size]? = w'.heap[w.heap.size]? → w5.heap[w.heap.size]? = some (bT x.nm x.vr x.at_ x.ev x.v) := fun w' w5 hg e => e.trans ((hg.block _ (Array.getElem?_eq_some_iff.1 hB).1 (by simp)).trans hB)
  have hfin : Hid (∀ (w' : World) (S2' : Nat → Prop) (L1' : List W.E) (L2' : List Q.E), Kp S w w' → (∀ k, S2' k → Gw S w w' k) → Tb w' tb mb wb qb S1 S2' now (x :: M) L1' L2' → Inv now (x :: M) L1' L2' → Tab (fun k => Gw S w w' k ∨ x.v.ownBlock = some k) w' tb now (x :: M) L1' L2' ∧ Kp S w w') := ⟨fun w' S2' L1' L2' hK hs hTb hI' => ⟨⟨mb, wb, qb, S1, S2', hTb, fun k hk => by
    rcases hk with rfl | rfl | hk | hk | ⟨y, hy, hk⟩
    · exact .inl (.inl (hfp _ (.inl rfl)))
    · exact .inl (.inl (hfp _ (.inr (.inl rfl))))
    · exact .inl (.inl (hfp _ (.inr (.inr (.inl hk)))))
    · exact .inl (hs k hk)
    · rcases List.mem_cons.1 hy with rfl | hy
      · exact .inr hk
      · exact .inl (.inl (hfp _ (.inr (.inr (.inr (.inr ⟨y, hy, hk⟩)))))), hI'⟩, hK⟩⟩
  have hS1 : Hid (∀ k, S1 k → S k) := ⟨fun k hk => hfp k (.inr (.inr (.inl hk)))⟩
  have hS2 : Hid (∀ k, S2 k → S k) := ⟨fun k hk => hfp k (.inr (.inr (.inr (.inl hk))))⟩
  have hIn : Hid _ := ⟨hI.lay1 hno hok hl ha⟩
  have hL1 := hI.l1 hT.wh.srt
  have hput : Hid (∀ w', w1.grownBy w' none → Calls Tryz.prog 59 #[ptr wb, .string x.nm, .int .u64 x.at_] w' fun r w5 => r = .returned (.bool true) ∧ (Tab (fun k => Gw S w w5 k ∨ x.v.ownBlock = some k) w5 tb now (x :: M) (W.putE ⟨x.nm, x.at_⟩ L1) L2 ∧ Kp S w w5) ∧ (w5.cell? ⟨tb, 1, none⟩ = some (ptr wb) ∧ w5.cell? ⟨w.heap.size, 0, none⟩ = some (.string x.nm) ∧ w5.cell? ⟨w.heap.size, 2, none⟩ = some (.int .u64 x.at_))) := ⟨fun w' hg => by
    have hT2 := hT1.keep hg
    refine (W.put_some w' hT2.wh ⟨x.nm, x.at_⟩ ⟨by show x.nm.size ≤ maxLen; unfold maxLen; omega, hok.1.1, by show x.at_ < _; omega⟩ ha (by omega)).mono ?_
    rintro r w5 ⟨rfl, h5, h6⟩
    have hgs := hg.size
    exact ⟨rfl, hfin.out w5 S2 _ _ ((hK1.trans (Kp.of0 (C := S) hg) (fun _ _ h => h)).trans (kpW h6) (fun k _ hk => hS1.out k hk)) (fun k hk => .inl (hS2.out k hk)) (hT2.wheel h6 h5) hIn.out, by simp [World.cell?, (hT2.wheel h6 h5).blk], (own_five (hbx w' w5 hg (h6.block _ (by have := (Array.getElem?_eq_some_iff.1 hB).1; omega) fun e => by have := (hT.s1 _ e).1; omega))).1, (own_five (hbx w' w5 hg (h6.block _ (by have := (Array.getElem?_eq_some_iff.1 hB).1; omega) fun e => by have := (hT.s1 _ e).1; omega))).2.2.1⟩⟩
  obtain ⟨nm, vr, a, ev, v, xs⟩ := x
  simp only [Tmr.val] at hrun
  simp only at hput c0 c1 c2 c3 c4 b0
  replace hfin : Hid _ := ⟨hfin⟩
  clear hbx hT hT0 hT1 hM1 hg1 hK1 hfp hI hga hB hx hxb hno hok htr hfin hIn hS1 hS2
  simp only [Tmr.val]
  go_enter Tryz.func37, Tryz.ntmps37
  go_wp2_with fail
  go_region
  clear hrun b0
  go_wp2_with fail
  go_region_held3 (fun w' => w'.cell? ⟨tb, 1, none⟩ = some (ptr wb) ∧ w'.cell? ⟨w.heap.size, 0, none⟩ = some (.string nm) ∧ w'.cell? ⟨w.heap.size, 2, none⟩ = some (.int .u64 a))
    (first
      | go_keep
      | exact hkp)
    ((go_at_call 59
      refine (hput.out _ (grown_drew _)).mono ?_
      rintro e w5 ⟨rfl, hres, hkp⟩
      replace hres : Hid _ := ⟨hres⟩))
  clear hkp hput
  go_wp2
  go_end0
  exact ⟨rfl, hres.out⟩
set_option maxRecDepth 100000 in
set_option maxHeartbeats 2000000 in
/-- Table.lay of a timer that is due. -/
theorem lay_due (w : World) {S : Nat → Prop} {tb : Nat} {now : Int} {M : List Tmr} {L1 : List W.E} {L2 : List Q.E} (h : Tab S w tb now M L1 L2) (x : Tmr) (hx : Sps w.heap.size w x.v x.xs) (hxb : ∀ k, x.v.ownBlock = some k → k < w.heap.size ∧ ¬ S k)
    (hno : ∀ y ∈ M, y.nm ≠ x.nm) (hok : (0 ≤ x.at_ ∧ 0 ≤ x.ev) ∧ tR x = true) (hl : M.length < 10000) (ha : x.at_ ≤ now) :
    Calls Tryz.prog 37 #[ptr tb, x.val] w fun r w' => r = .returned (.tuple #[]) ∧ Tab (fun k => Gw S w w' k ∨ x.v.ownBlock = some k) w' tb now (x :: M) L1 (Q.putE ⟨x.nm, x.at_⟩ L2) ∧ Kp S w w' := by
  obtain ⟨mb, wb, qb, S1, S2, hT, hfp, hI⟩ := h
  have htr := (tR_iff x).1 hok.2
  have hga := World.grownBy_alloc w (bT x.nm x.vr x.at_ x.ev x.v) none
  have hT0 : Tb (w.alloc (bT x.nm x.vr x.at_ x.ev x.v)).drew tb mb wb qb S1 S2 now M L1 L2 := (hT.keep hga).keep (grown_drew _)
  obtain ⟨w1, hrun, hM1, hg1⟩ := hT0.tm.store (by unfold maxLen; omega) x (by unfold maxLen; omega) hno
  have hT1 : Tb w1 tb mb wb qb S1 S2 now (x :: M) L1 L2 := hT0.map hg1 hM1 fun y hy => by
    rcases List.mem_cons.1 hy with rfl | hy
    · refine ⟨((hx.keep hga (Nat.le_refl _)).keep (grown_drew _) hga.size).up hga.size, fun k hk => ?_⟩
      obtain ⟨k1, k2⟩ := hxb k hk
      exact ⟨Nat.lt_of_lt_of_le k1 hga.size, fun e => k2 (e ▸ hfp _ (.inl rfl)), fun e => k2 (e ▸ hfp _ (.inr (.inl rfl))), fun e => k2 (hfp _ (.inr (.inr (.inl e)))), fun e => k2 (hfp _ (.inr (.inr (.inr (.inl e)))))⟩
    · exact hT0.sp y hy
  have hK1 : Kp S w w1 := (Kp.of0 (C := S) (grown_none hga (grown_drew _))).trans (Kp.of (C := S) hg1 fun k e => by cases e; exact hfp _ (.inr (.inl rfl))) (fun _ _ h => h)
  have hmbl := hT.tm.lt
  have hB : w1.heap[w.heap.size]? = some (bT x.nm x.vr x.at_ x.ev x.v) := by
    rw [hg1.block w.heap.size (by show w.heap.size < (w.alloc _).heap.size; simp) (by simp; omega)]
    exact World.alloc_heap_new w _
  have b0 : (w.alloc (bT x.nm x.vr x.at_ x.ev x.v)).cell? ⟨tb, 0, none⟩ = some (.map (some mb)) := by simp [World.cell?, (hT.keep hga).blk]
  have b1 : w1.cell? ⟨tb, 1, none⟩ = some (ptr wb) := by simp [World.cell?, hT1.blk]
  have b2 : w1.cell? ⟨tb, 2, none⟩ = some (ptr qb) := by simp [World.cell?, hT1.blk]
  obtain ⟨c0, c1, c2, c3, c4, _⟩ := own_five hB
  have hbx : ∀ (w' w5 : World), w1.grownBy w' none → w5.heap[w.heap.size]? = w'.heap[w.heap.size]? → w5.heap[w.heap.size]? = some (bT x.nm x.vr x.at_ x.ev x.v) := fun w' w5 hg e => e.trans ((hg.block _ (Array.getElem?_eq_some_iff.1 hB).1 (by simp)).trans hB)
  have hfin : Hid (∀ (w' : World) (S2' : Nat → Prop) (L1' : List W.E) (L2' : List Q.E), Kp S w w' → (∀ k, S2' k → Gw S w w' k) → Tb w' tb mb wb qb S1 S2' now (x :: M) L1' L2' → Inv now (x :: M) L1' L2' → Tab (fun k => Gw S w w' k ∨ x.v.ownBlock = some k) w' tb now (x :: M) L1' L2' ∧ Kp S w w') := ⟨fun w' S2' L1' L2' hK hs hTb hI' => ⟨⟨mb, wb, qb, S1, S2', hTb, fun k hk => by
    rcases hk with rfl | rfl | hk | hk | ⟨y, hy, hk⟩
    · exact .inl (.inl (hfp _ (.inl rfl)))
    · exact .inl (.inl (hfp _ (.inr (.inl rfl))))
    · exact .inl (.inl (hfp _ (.inr (.inr (.inl hk)))))
    · exact .inl (hs k hk)
    · rcases List.mem_cons.1 hy with rfl | hy
      · exact .inr hk
      · exact .inl (.inl (hfp _ (.inr (.inr (.inr (.inr ⟨y, hy, hk⟩)))))), hI'⟩, hK⟩⟩
  have hS1 : Hid (∀ k, S1 k → S k) := ⟨fun k hk => hfp k (.inr (.inr (.inl hk)))⟩
  have hS2 : Hid (∀ k, S2 k → S k) := ⟨fun k hk => hfp k (.inr (.inr (.inr (.inl hk))))⟩
  have hIn : Hid _ := ⟨hI.lay2 hno hok hl ha⟩
  have hL2 := hI.l2 hT.qu.srt
  have hput : Hid (∀ w', w1.grownBy w' none → Calls Tryz.prog 59 #[ptr wb, .string x.nm, .int .u64 x.at_] w' fun r w5 => r = .returned (.bool false) ∧ w1.grownBy w5 none ∧ (w5.cell? ⟨tb, 1, none⟩ = some (ptr wb) ∧ w5.cell? ⟨tb, 2, none⟩ = some (ptr qb) ∧ w5.cell? ⟨w.heap.size, 0, none⟩ = some (.string x.nm) ∧ w5.cell? ⟨w.heap.size, 2, none⟩ = some (.int .u64 x.at_))) := ⟨fun w' hg => by
    refine (W.put_none w' (hT1.keep hg).wh x.nm x.at_ ha).mono ?_
    rintro r w5 ⟨rfl, rfl⟩
    exact ⟨rfl, hg, grown_cell hg b1, grown_cell hg b2, grown_cell hg c0, grown_cell hg c2⟩⟩
  have hput2 : Hid (∀ w', w1.grownBy w' none → Calls Tryz.prog 46 #[ptr qb, .string x.nm, .int .u64 x.at_] w' fun r w5 => (∃ b, r = .returned (.bool b)) ∧ (Tab (fun k => Gw S w w5 k ∨ x.v.ownBlock = some k) w5 tb now (x :: M) L1 (Q.putE ⟨x.nm, x.at_⟩ L2) ∧ Kp S w w5) ∧ (w5.cell? ⟨tb, 2, none⟩ = some (ptr qb) ∧ w5.cell? ⟨w.heap.size, 0, none⟩ = some (.string x.nm) ∧ w5.cell? ⟨w.heap.size, 2, none⟩ = some (.int .u64 x.at_))) := ⟨fun w' hg => by
    have hT2 := hT1.keep hg
    refine (Q.put_any w' hT2.qu ⟨x.nm, x.at_⟩ ⟨by show x.nm.size ≤ maxLen; unfold maxLen; omega, hok.1.1, by show x.at_ < _; omega⟩ (by omega)).mono ?_
    rintro r w5 ⟨rfl, h5, h6⟩
    have hgs := hg.size
    have hgs1 := hK1.size
    have hgs2 := h6.size
    exact ⟨⟨_, rfl⟩, hfin.out w5 _ _ _ ((hK1.trans (Kp.of0 (C := S) hg) (fun _ _ h => h)).trans (kpQ h6) (fun k _ hk => hS2.out k hk)) (show ∀ k, Q.Gw S2 w' w5 k → Gw S w w5 k from fun k hk => hk.elim (fun hk => .inl (hS2.out k hk)) fun e => .inr ⟨by omega, e.2⟩) (hT2.queue h6 h5) hIn.out, by simp [World.cell?, (hT2.queue h6 h5).blk], (own_five (hbx w' w5 hg (h6.block _ (by have := (Array.getElem?_eq_some_iff.1 hB).1; omega) fun e => by have := (hT.s2 _ e).1; omega))).1, (own_five (hbx w' w5 hg (h6.block _ (by have := (Array.getElem?_eq_some_iff.1 hB).1; omega) fun e => by have := (hT.s2 _ e).1; omega))).2.2.1⟩⟩
  obtain ⟨nm, vr, a, ev, v, xs⟩ := x
  simp only [Tmr.val] at hrun
  simp only at hput c0 c1 c2 c3 c4 b0 hput2
  replace hfin : Hid _ := ⟨hfin⟩
  clear hbx hT hT0 hT1 hM1 hg1 hK1 hfp hI hga hB hx hxb hno hok htr hfin hIn hS1 hS2
  simp only [Tmr.val]
  go_enter Tryz.func37, Tryz.ntmps37
  go_wp2_with fail
  go_region
  clear hrun b0
  go_wp2_with fail
  go_region_held3 (fun w' => w'.cell? ⟨tb, 1, none⟩ = some (ptr wb) ∧ w'.cell? ⟨tb, 2, none⟩ = some (ptr qb) ∧ w'.cell? ⟨w.heap.size, 0, none⟩ = some (.string nm) ∧ w'.cell? ⟨w.heap.size, 2, none⟩ = some (.int .u64 a))
    (first
      | go_keep
      | exact hkp)
    ((go_at_call 59
      refine (hput.out _ (grown_drew _)).mono ?_
      rintro e w5 ⟨rfl, hg5, hkp⟩
      replace hg5 : Hid _ := ⟨hg5⟩))
  clear hput
  obtain ⟨_, b2, c0, c2⟩ := hkp
  go_wp2_with fail
  go_region_held3 (fun w' => w'.cell? ⟨tb, 2, none⟩ = some (ptr qb) ∧ w'.cell? ⟨w.heap.size, 0, none⟩ = some (.string nm) ∧ w'.cell? ⟨w.heap.size, 2, none⟩ = some (.int .u64 a))
    (first
      | go_keep
      | exact hkp2)
    ((go_at_call 46
      refine (hput2.out _ (grown_none hg5.out (grown_drew _))).mono ?_
      rintro e w6 ⟨⟨b, rfl⟩, hres, hkp2⟩
      replace hres : Hid _ := ⟨hres⟩))
  clear hkp2 hput2
  go_wp2
  go_end0
  exact ⟨rfl, hres.out⟩
end Go.Proofs.YtblnhcnfeagjhaaGreatDoor
