/- Table.Drop. -/
import Derived.Test.YtblnhcnfeagjhaaGreatDoorAMb
import Derived.Deep.RegionHeld3
namespace Go.Proofs.YtblnhcnfeagjhaaGreatDoor
open Go.RowKit Go.IntWalk Go.Maps Go.Shelf
set_option linter.unusedVariables false
theorem TM.un {w : World} {bm : Nat} {M : List Tmr} (h : TM w bm M) {x y : Tmr} (hx : x ∈ M) (hy : y ∈ M) (e : x.nm = y.nm) : x = y := by
  obtain ⟨D, _, hP⟩ := h
  obtain ⟨i, hi⟩ := List.getElem?_of_mem hx
  obtain ⟨j, hj⟩ := List.getElem?_of_mem hy
  have hp := List.pairwise_iff_getElem.1 hP.nd
  obtain ⟨hil, rfl⟩ := List.getElem?_eq_some_iff.1 hi
  obtain ⟨hjl, rfl⟩ := List.getElem?_eq_some_iff.1 hj
  rcases Nat.lt_trichotomy i j with h | h | h
  · exact absurd e (hp i j hil hjl h)
  · subst h; rfl
  · exact absurd e.symm (hp j i hjl hil h)
/-- What stands where, without one name. -/
theorem Inv.drop {now : Int} {M : List Tmr} {L1 : List W.E} {L2 : List Q.E} (h : Inv now M L1 L2) (n : ByteArray) : Inv now (delT n M) (W.delN n L1) (Q.delN n L2) where
  ok := fun x hx => h.ok x (mem_delT.1 hx).1
  a := fun e => by
    rw [W.mem_delN, h.a]
    constructor
    · rintro ⟨⟨x, hx, h1, rfl⟩, h2⟩; exact ⟨x, mem_delT.2 ⟨hx, h2⟩, h1, rfl⟩
    · rintro ⟨x, hx, h1, rfl⟩; exact ⟨⟨x, (mem_delT.1 hx).1, h1, rfl⟩, (mem_delT.1 hx).2⟩
  d := fun e => by
    rw [Q.mem_delN, h.d]
    constructor
    · rintro ⟨⟨x, hx, h1, rfl⟩, h2⟩; exact ⟨x, mem_delT.2 ⟨hx, h2⟩, h1, rfl⟩
    · rintro ⟨x, hx, h1, rfl⟩; exact ⟨⟨x, (mem_delT.1 hx).1, h1, rfl⟩, (mem_delT.1 hx).2⟩
  len := Nat.le_trans (delT_le n M) h.len
/-- A name stands once. -/
theorem Tb.once {w : World} {tb mb wb qb : Nat} {S1 S2 : Nat → Prop} {now : Int} {M : List Tmr} {L1 : List W.E} {L2 : List Q.E} (h : Tb w tb mb wb qb S1 S2 now M L1 L2) (hi : Inv now M L1 L2) {n : ByteArray} (h1 : W.hasN n L1 = true) : Q.hasN n L2 = false := by
  obtain ⟨e, he, rfl⟩ := W.hasN_iff.1 h1
  obtain ⟨x, hx, hx1, rfl⟩ := (hi.a e).1 he
  refine Q.hasN_not.2 fun f hf hfn => ?_
  obtain ⟨y, hy, hy1, rfl⟩ := (hi.d f).1 hf
  have := h.tm.un hx hy hfn.symm
  subst this
  omega
theorem idx0 (wb qb : Nat) (w : World) : (Instr.index 81 (.agg #[.func (.func 42) #[ptr wb] #[], .func (.func 43) #[ptr qb] #[]]) (.int .i64 0)).run Tryz.prog w = .ok (.func (.func 42) #[ptr wb] #[]) w := by kernel_rfl
theorem idx1 (wb qb : Nat) (w : World) : (Instr.index 81 (.agg #[.func (.func 42) #[ptr wb] #[], .func (.func 43) #[ptr qb] #[]]) (.int .i64 1)).run Tryz.prog w = .ok (.func (.func 43) #[ptr qb] #[]) w := by kernel_rfl
/-- The state of Drop's loop. -/
structure DrS (S : Nat → Prop) (w wr : World) (tb mb wb qb : Nat) (S1 : Nat → Prop) (now : Int) (M : List Tmr) (L1 : List W.E) (L2 : List Q.E) (n : ByteArray) (i : Nat) : Prop where
  ex : ∃ S2, Tb wr tb mb wb qb S1 S2 now M L1 L2 ∧ (∀ k, S2 k → Gw S w wr k)
  kp : Kp S w wr
  h1 : 1 ≤ i → W.hasN n L1 = false
  h2 : 2 ≤ i → Q.hasN n L2 = false
set_option maxRecDepth 100000 in
set_option maxHeartbeats 2000000 in
/-- Table.Drop. -/
theorem drop_t (w : World) {S : Nat → Prop} {tb : Nat} {now : Int} {M : List Tmr} {L1 : List W.E} {L2 : List Q.E} (h : Tab S w tb now M L1 L2) (n : ByteArray) (hn : n.size ≤ maxLen) :
    Calls Tryz.prog 16 #[ptr tb, .string n] w fun r w' => r = .returned (.bool (W.hasN n L1 || Q.hasN n L2)) ∧ Tab (Gw S w w') w' tb now (delT n M) (W.delN n L1) (Q.delN n L2) ∧ Kp S w w' := by
  obtain ⟨mb, wb, qb, S1, S2, hT, hfp, hI⟩ := h
  obtain ⟨w1, hrun, hM1, hg1⟩ := hT.tm.drop hn 0
  have hT1 : Tb w1 tb mb wb qb S1 S2 now (delT n M) L1 L2 := hT.map hg1 hM1 fun x hx => hT.sp x (mem_delT.1 hx).1
  have hK1 : Kp S w w1 := Kp.of hg1 fun k e => by cases e; exact hfp _ (.inr (.inl rfl))
  have b0 : w.cell? ⟨tb, 0, none⟩ = some (.map (some mb)) := by simp [World.cell?, hT.blk]
  have b1 : w1.cell? ⟨tb, 1, none⟩ = some (ptr wb) := by simp [World.cell?, hT1.blk]
  have b2 : w1.cell? ⟨tb, 2, none⟩ = some (ptr qb) := by simp [World.cell?, hT1.blk]
  have hob : Hid (W.hasN n L1 = true → Q.hasN n L2 = false) := ⟨hT.once hI⟩
  replace hT : Hid _ := ⟨hT⟩
  replace hT1 : Hid _ := ⟨hT1⟩
  go_enter Tryz.func16, Tryz.ntmps16
  go_wp2_with fail
  haveI := lat_nonempty w1
  have k1 := lat_cell b1
  have k2 := lat_cell b2
  refine wp_region_lat (by kernel_rfl) (by kernel_rfl) ?_
  repeat (go_big_quiet_step (fail))
  refine wpQuiet_nil ?_
  intro _ hw'
  obtain ⟨q, hw''⟩ := hw'
  subst hw''
  have hfpH : Hid _ := ⟨hfp⟩
  have hst : Hid (DrS S w q.W tb mb wb qb S1 now (delT n M) L1 L2 n 0) := ⟨⟨S2, hT1.out.keep q.h, fun k hk => .inl (hfp k (.inr (.inr (.inr (.inl hk)))))⟩, hK1.trans (Kp.of0 q.h) (fun _ _ h => h), fun e => by omega, fun e => by omega⟩
  replace hI : Hid _ := ⟨hI⟩
  have hfin : Hid (∀ (w' : World) (S2' : Nat → Prop), Kp S w w' → (∀ k, S2' k → Gw S w w' k) → Tb w' tb mb wb qb S1 S2' now (delT n M) (W.delN n L1) (Q.delN n L2) → Tab (Gw S w w') w' tb now (delT n M) (W.delN n L1) (Q.delN n L2) ∧ Kp S w w') := ⟨fun w' S2' hK hs hTb => ⟨⟨mb, wb, qb, S1, S2', hTb, fun k hk => by
    rcases hk with rfl | rfl | hk | hk | ⟨x, hx, hk⟩
    · exact .inl (hfpH.out _ (.inl rfl))
    · exact .inl (hfpH.out _ (.inr (.inl rfl)))
    · exact .inl (hfpH.out _ (.inr (.inr (.inl hk))))
    · exact hs k hk
    · exact .inl (hfpH.out _ (.inr (.inr (.inr (.inr ⟨x, (mem_delT.1 hx).1, hk⟩))))), hI.out.drop n⟩, hK⟩⟩
  have hS1 : Hid (∀ k, S1 k → S k) := ⟨fun k hk => hfp k (.inr (.inr (.inl hk)))⟩
  clear hfp hK1 b0 b1 b2 k1 k2 hT hT1 hrun hg1 hM1 hfpH hI
  go_wp2_with fail
  go_loopw [25] (fun iv wr => ∃ i : Nat, iv = .int .i64 i ∧ i ≤ 2 ∧ Hid (DrS S w wr tb mb wb qb S1 now (delT n M) L1 L2 n i)) (fun iv _ => 2 - (intOf iv).toNat)
  case atStart => exact ⟨0, rfl, by omega, hst⟩
  case round =>
    clear hst
    obtain ⟨i, rfl, hi, hR⟩ := hrel
    have hi3 : i = 0 ∨ i = 1 ∨ i = 2 := by omega
    rcases hi3 with rfl | rfl | rfl
    · obtain ⟨⟨S2', hT, hs2⟩, hK, _, _⟩ := hR.out
      have hd := W.drop_any wr hT.wh n hn
      have hix := idx0 wb qb wr
      replace hd : Hid _ := ⟨hd⟩
      replace hT : Hid _ := ⟨hT⟩
      replace hs2 : Hid _ := ⟨hs2⟩
      replace hK : Hid _ := ⟨hK⟩
      clear hR
      cases hh : W.hasN n L1 with
      | true =>
        rw [hh] at hd
        go_wp2_with fail
        refine hd.out.mono ?_
        rintro r w5 ⟨rfl, h5, h6⟩
        have hTb := hT.out.wheel h6 h5
        have hK5 := hK.out.trans (kpW h6) (fun k _ hk => hS1.out k hk)
        have hgs := h6.size
        have hres : Hid _ := ⟨hfin.out w5 S2' hK5 (fun k hk => (hs2.out k hk).imp id fun e => ⟨e.1, by omega⟩) (by rw [Q.delN_not (hob.out hh)]; exact hTb)⟩
        clear hTb hK5 hd hT hs2 hK h5 h6 hfin
        go_wp2
        go_ret
        exact ⟨by rw [hh]; rfl, hres.out⟩
      | false =>
        rw [hh] at hd
        go_wp2_with fail
        refine hd.out.mono ?_
        rintro r w5 ⟨rfl, h5, h6⟩
        rw [W.delN_not hh] at h5
        have hgs := h6.size
        have hst2 : Hid (DrS S w w5 tb mb wb qb S1 now (delT n M) L1 L2 n (0 + 1)) := ⟨⟨S2', hT.out.wheel h6 h5, fun k hk => (hs2.out k hk).imp id fun e => ⟨e.1, by omega⟩⟩, hK.out.trans (kpW h6) (fun k _ hk => hS1.out k hk), fun _ => hh, fun e => by omega⟩
        clear hd hT hs2 hK h5 h6
        go_wp2_with fail
        exact ⟨⟨0 + 1, by go_num, by omega, hst2⟩, by simp [intOf] <;> omega⟩
    · obtain ⟨⟨S2', hT, hs2⟩, hK, hn1, _⟩ := hR.out
      have hn1 := hn1 (by omega)
      have hd := Q.drop_any wr hT.qu n hn
      have hix := idx1 wb qb wr
      replace hd : Hid _ := ⟨hd⟩
      replace hT : Hid _ := ⟨hT⟩
      replace hs2 : Hid _ := ⟨hs2⟩
      replace hK : Hid _ := ⟨hK⟩
      clear hR
      cases hh : Q.hasN n L2 with
      | true =>
        rw [hh] at hd
        go_wp2_with fail
        refine hd.out.mono ?_
        rintro r w5 ⟨rfl, h5, h6⟩
        have hTb := hT.out.queue h6 h5
        have hgs := h6.size
        have hgs2 := hK.out.size
        have hK5 := hK.out.trans (kpQ h6) (fun k hl hk => (hs2.out k hk).elim id fun e => by omega)
        have hres : Hid _ := ⟨hfin.out w5 _ hK5 (show ∀ k, Q.Gw S2' wr w5 k → Gw S w w5 k from fun k hk => hk.elim (fun hk => (hs2.out k hk).imp id fun e => ⟨e.1, by omega⟩) fun e => .inr ⟨by omega, e.2⟩) (by rw [W.delN_not hn1]; exact hTb)⟩
        clear hTb hK5 hd hT hs2 hK h5 h6 hfin
        go_wp2
        go_ret
        exact ⟨by rw [hn1, hh]; rfl, hres.out⟩
      | false =>
        rw [hh] at hd
        go_wp2_with fail
        refine hd.out.mono ?_
        rintro r w5 ⟨rfl, h5, h6⟩
        rw [Q.delN_not hh] at h5
        have hgs := h6.size
        have hgs2 := hK.out.size
        have hst2 : Hid (DrS S w w5 tb mb wb qb S1 now (delT n M) L1 L2 n (1 + 1)) := ⟨⟨_, hT.out.queue h6 h5, fun k hk => hk.elim (fun hk => (hs2.out k hk).imp id fun e => ⟨e.1, by omega⟩) fun e => .inr ⟨by omega, e.2⟩⟩, hK.out.trans (kpQ h6) (fun k hl hk => (hs2.out k hk).elim id fun e => by omega), fun _ => hn1, fun _ => hh⟩
        clear hd hT hs2 hK h5 h6
        go_wp2_with fail
        exact ⟨⟨1 + 1, by go_num, by omega, hst2⟩, by simp [intOf] <;> omega⟩
    · obtain ⟨⟨S2', hT, hs2⟩, hK, hn1, hn2⟩ := hR.out
      have hn1 := hn1 (by omega)
      have hn2 := hn2 (by omega)
      have hres : Hid _ := ⟨hfin.out wr S2' hK hs2 (by rw [W.delN_not hn1, Q.delN_not hn2]; exact hT)⟩
      clear hT hs2 hK hR hfin
      go_wp2
      go_ret
      exact ⟨by rw [hn1, hn2]; rfl, hres.out⟩
end Go.Proofs.YtblnhcnfeagjhaaGreatDoor
