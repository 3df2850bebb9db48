/- The walk of TimersCopies. -/
import Derived.Test.YtblnhcnfeagjhaaGreatDoorCWa
import Derived.Test.YtblnhcnfeagjhaaGreatDoorOPa
namespace Go.Proofs.YtblnhcnfeagjhaaGreatDoor
open Go.RowKit Go.IntWalk Go.Maps Go.Shelf
set_option linter.unusedVariables false
theorem tms_at2 {W : World} {v : Value} {l : List Tmr} (h : Tms W v l) : ∃ a c, v = .slice a l.length c ∧ ∀ i x, l[i]? = some x → ∃ b off, a = some ⟨b, off, none⟩ ∧ b < W.heap.size ∧ tok W x ∧ ∀ j u, x.cells[j]? = some u → W.cell? ⟨b, off + i * 5 + j, none⟩ = some u := by
  rcases h with ⟨rfl | ⟨ad, cap, rfl⟩, rfl⟩ | ⟨b, off, cap, rfl, hb, hl, hm, hc⟩
  · exact ⟨none, 0, rfl, fun i x hx => by simp at hx⟩
  · exact ⟨some ad, cap, rfl, fun i x hx => by simp at hx⟩
  · exact ⟨_, cap, rfl, fun i x hx => ⟨b, off, rfl, hb, (hc i x hx).1, (hc i x hx).2⟩⟩

theorem Cw.lenc {U0 wr : World} {tb tc : Nat} {now nc : Int} {M Mc : List Tmr} {L1 L1c : List W.E} {L2 L2c : List Q.E} {va vd : Value} {ts ds : List Tmr} (h : Cw U0 wr tb tc now nc M L1 L2 Mc L1c L2c va ts vd ds) (hS : SameM M Mc) : Mc.length ≤ M.length := by
  obtain ⟨S, Sc, _, ⟨mb, wb, qb, S1, S2, hTb, _, hI⟩, _⟩ := h.ex
  obtain ⟨D, _, hP⟩ := hTb.tm
  have hnd : (Mc.map Tmr.core).Nodup := List.pairwise_map.2 (hP.nd.imp fun {a b} hne e => hne (by simp only [Tmr.core, Prod.mk.injEq] at e; exact e.1))
  have := hnd.length_le_of_subset (l₂ := M.map Tmr.core) fun c hc => (hS c).2 hc
  simpa using this
theorem AllT.le {w w' : World} {M : List Tmr} {v : Value} {ts : List Tmr} (h : AllT w w' M v ts) (hM : M.length ≤ 10000) : ts.length ≤ 10000 := by
  have hnd : (ts.map fun y : Tmr => y.nm.data.toList).Nodup := h.ord.imp fun {a b} h e => by subst e; exact List.lt_irrefl _ h
  have := hnd.length_le_of_subset (l₂ := M.map fun x : Tmr => x.nm.data.toList) fun n hn => by
    obtain ⟨y, hy, rfl⟩ := List.mem_map.1 hn
    obtain ⟨x, hx, hxe⟩ := (h.fro y hy).1
    exact List.mem_map.2 ⟨x, hx, by rw [hxe]⟩
  simp at this
  omega
theorem le_of_map {d : List Tmr} {L : List Q.E} (h : d.map (fun x => (⟨x.nm, x.at_⟩ : Q.E)) = L) {n : Nat} (hl : L.length ≤ n) : d.length ≤ n := by
  rw [← h] at hl
  simpa using hl
theorem sameM_refl (M : List Tmr) : SameM M M := fun _ => Iff.rfl
set_option maxRecDepth 1000000 in
set_option maxHeartbeats 8000000 in
theorem copies_walk (U0 : World) (hD : Dr U0) (now : Int) (hnow : V.U now) {v u : Value} {l l2 : List Tmr} (hl : Tms U0 v l) (hl2 : Tms U0 u l2) :
    Calls Tryz.prog 8 #[.int .u64 now, v, u] U0 fun e W' => e = .returned (.bool true) ∧ Below U0.heap.size U0 W' := by
  obtain ⟨a, c, rfl, hat⟩ := tms_at2 hl
  obtain ⟨a2, c2, rfl, hat2⟩ := tms_at2 hl2
  replace hat : Hid _ := ⟨hat⟩
  replace hat2 : Hid _ := ⟨hat2⟩
  clear hl hl2
  have hnew := new_t U0 now hnow
  replace hnew : Hid _ := ⟨hnew⟩
  replace hD : Hid _ := ⟨hD⟩
  go_enter Tryz.func8, Tryz.ntmps8
  go_wp2_with fail
  refine hnew.out.mono ?_
  rintro r w1 ⟨tb, rfl, hT, hg1⟩
  have hst : Hid (∃ M L1 L2, Ow U0 w1 tb now M L1 L2 ∧ M.length ≤ 0) := ⟨[], [], [], ⟨_, hT, fun k hk => hk, ⟨hg1.os, hg1.tape, hg1.output, hg1.size, fun k hk => hg1.block k hk (by simp)⟩⟩, Nat.le_refl _⟩
  clear hT hg1 hnew
  by_cases h40 : l.length > 40
  · have hd : decide ((l.length : Int) > 40) = true := by simp; omega
    have hd2 : decide ((40 : Int) < l.length) = true := by simp; omega
    obtain ⟨M, L1, L2, ⟨S, _, _, hbl⟩, _⟩ := hst.out
    have hbel : Hid _ := ⟨hbl⟩
    clear hbl hst
    go_wp2
    go_ret
    exact ⟨rfl, hbel.out⟩
  have hd : decide ((l.length : Int) > 40) = false := by simp; omega
  have hd2 : decide ((40 : Int) < l.length) = false := by simp; omega
  have hl40 : l.length ≤ 40 := by omega
  by_cases h41 : l2.length > 40
  · have hd3 : decide ((l2.length : Int) > 40) = true := by simp; omega
    have hd4 : decide ((40 : Int) < l2.length) = true := by simp; omega
    obtain ⟨M, L1, L2, ⟨S, _, _, hbl⟩, _⟩ := hst.out
    have hbel : Hid _ := ⟨hbl⟩
    clear hbl hst
    go_wp2
    go_ret
    exact ⟨rfl, hbel.out⟩
  have hd3 : decide ((l2.length : Int) > 40) = false := by simp; omega
  have hd4 : decide ((40 : Int) < l2.length) = false := by simp; omega
  have hl41 : l2.length ≤ 40 := by omega
  go_wp2_with fail
  go_loopw [8] (fun iv wr => ∃ i : Nat, iv = .int .i64 i ∧ i ≤ l.length ∧ Hid (∃ M L1 L2, Ow U0 wr tb now M L1 L2 ∧ M.length ≤ i)) (fun iv _ => l.length - (intOf iv).toNat)
  case atStart => exact ⟨0, rfl, by omega, hst⟩
  case round =>
    clear hst
    obtain ⟨i, rfl, hi, hR⟩ := hrel
    by_cases hlt : i < l.length
    · have hdi : decide ((i : Int) < l.length) = true := by simp; omega
      obtain ⟨x, hx⟩ : ∃ x, l[i]? = some x := ⟨_, List.getElem?_eq_getElem hlt⟩
      obtain ⟨b, off, rfl, hb, hok, hc⟩ := hat.out i x hx
      obtain ⟨M, L1, L2, hDw, hM⟩ := hR.out
      have hbel : Below U0.heap.size U0 wr := by obtain ⟨_, _, _, h⟩ := hDw; exact h
      have k0 : wr.cell? ⟨b, off + i * 5, none⟩ = some (.string x.nm) := (World.cell?_of_block (hbel.block b hb)).trans (hc 0 _ rfl)
      have k1 : wr.cell? ⟨b, off + i * 5 + 1, none⟩ = some (.int .i64 x.vr) := (World.cell?_of_block (hbel.block b hb)).trans (hc 1 _ rfl)
      have k2 : wr.cell? ⟨b, off + i * 5 + 2, none⟩ = some (.int .u64 x.at_) := (World.cell?_of_block (hbel.block b hb)).trans (hc 2 _ rfl)
      have k3 : wr.cell? ⟨b, off + i * 5 + 3, none⟩ = some (.int .u64 x.ev) := (World.cell?_of_block (hbel.block b hb)).trans (hc 3 _ rfl)
      have k4 : wr.cell? ⟨b, off + i * 5 + 4, none⟩ = some x.v := (World.cell?_of_block (hbel.block b hb)).trans (hc 4 _ rfl)
      have hxs : Sps wr.heap.size wr x.v x.xs := (hok.2.2.2.2.kept fun k _ hl => hbel.block k hl).up hbel.size
      have hfi := fits_any wr x hxs
      have hkeep : Hid (∀ w', wr.grownBy w' none → ∀ o u, wr.cell? ⟨b, o, none⟩ = some u → w'.cell? ⟨b, o, none⟩ = some u) := ⟨fun w' hg o u hu => grown_cell hg hu⟩
      have hset : Hid (∀ w', wr.grownBy w' none → Calls Tryz.prog 12 #[ptr tb, x.val] w' fun r w5 => (∃ n, r = .returned (.int .i64 n)) ∧ Hid (∃ M L1 L2, Ow U0 w5 tb now M L1 L2 ∧ M.length ≤ i + 1)) := ⟨fun w' hg => by
        refine (set_o hD.out (hDw.keep hg) x hok.2.2.2.2 ⟨hok.2.2.1.1, hok.2.2.2.1.1⟩ (by omega)).mono ?_
        rintro r w5 ⟨hr, M', L1', L2', h5, hM'⟩
        exact ⟨hr, M', L1', L2', h5, by omega⟩⟩
      have hno : Hid (∀ w', wr.grownBy w' none → ∃ M L1 L2, Ow U0 w' tb now M L1 L2 ∧ M.length ≤ i + 1) := ⟨fun w' hg => ⟨M, L1, L2, hDw.keep hg, by omega⟩⟩
      have hxv : ∃ va vc, x.v = .slice va x.xs.length vc := by obtain ⟨va, vc, e, _⟩ := hxs.shape; exact ⟨va, vc, e⟩
      obtain ⟨nm, vr, at_, ev, sv, xs⟩ := x
      simp only [Tmr.val] at k0 k1 k2 k3 k4 hfi hset hxv
      obtain ⟨va, vc, rfl⟩ := hxv
      replace hfi : Hid _ := ⟨hfi⟩
      have hn1 : i < l.length := hlt
      have hn2 : (i : Int) < (l.length : Int) := by omega
      have hn3 : (0 : Int) ≤ (i : Int) := by omega
      clear hR hDw hM hbel hc hok hxs hx hat hb hat2
      go_wp2_with fail
      refine hfi.out.mono ?_
      rintro r w2 ⟨rfl, hg2⟩
      replace k0 := hkeep.out _ hg2 _ _ k0
      replace k1 := hkeep.out _ hg2 _ _ k1
      replace k2 := hkeep.out _ hg2 _ _ k2
      replace k3 := hkeep.out _ hg2 _ _ k3
      replace k4 := hkeep.out _ hg2 _ _ k4
      clear hfi hkeep
      cases hf : (fewB xs && decide (nm.size ≤ 100)) with
      | false =>
        have hn := hno.out _ hg2
        replace hn : Hid _ := ⟨hn⟩
        clear hset hno hg2 k0 k1 k2 k3 k4
        go_wp2_with fail
        go_roundw
        case rel => exact ⟨i + 1, by go_num, by omega, hn⟩
        case measure => simp [intOf]; omega
      | true =>
        have hs := hset.out _ hg2
        replace hs : Hid _ := ⟨hs⟩
        clear hset hno hg2
        go_wp2_with fail
        refine hs.out.mono ?_
        rintro r w3 ⟨⟨n, rfl⟩, hn⟩
        clear hs k0 k1 k2 k3 k4
        go_wp2_with fail
        go_roundw
        case rel => exact ⟨i + 1, by go_num, by omega, hn⟩
        case measure => simp [intOf]; omega
    · have hdi : decide ((i : Int) < l.length) = false := by simp; omega
      obtain ⟨M, L1, L2, hO, hM⟩ := hR.out
      have hM40 : M.length ≤ 40 := by omega
      have hcp := copy_o hO hnow
      replace hcp : Hid _ := ⟨hcp⟩
      clear hR hat hO hM
      go_wp2_with fail
      refine hcp.out.mono ?_
      rintro r w2 ⟨tc, Mc, L1c, L2c, rfl, hC2, hSM, hMc⟩
      have hMcl := hC2.lenc hSM
      have hLe := hC2.same hSM
      have hall := allx hC2
      replace hall : Hid _ := ⟨hall⟩
      replace hC2 : Hid _ := ⟨hC2⟩
      replace hSM : Hid _ := ⟨hSM⟩
      replace hLe : Hid _ := ⟨hLe⟩
      clear hcp
      go_wp2_with fail
      refine hall.out.mono ?_
      rintro r w3 ⟨aa, ac, ts, rfl, hA, hg3⟩
      have hC3 := hC2.out.addA hA hg3
      have htl := hA.le hC3.len.1
      have hdu := duex0 hC3
      replace hdu : Hid _ := ⟨hdu⟩
      replace hA : Hid _ := ⟨hA⟩
      clear hC3 hC2 hall hg3
      go_wp2_with fail
      refine hdu.out.mono ?_
      rintro r w4 ⟨da, dc, ds, rfl, hC4, hdm, hdcr⟩
      have hll := hC4.len
      have hdl : ds.length ≤ 10000 := le_of_map hdm (by omega)
      have hall := allc hC4
      replace hall : Hid _ := ⟨hall⟩
      replace hC4 : Hid _ := ⟨hC4⟩
      replace hdm : Hid _ := ⟨hdm⟩
      replace hdcr : Hid _ := ⟨hdcr⟩
      clear hdu
      go_wp2_with fail
      refine hall.out.mono ?_
      rintro r w5 ⟨ca, cc, tsc, rfl, hAc, hg5⟩
      have hC5 := hC4.out.keep hg5
      have htcl := hAc.le hll.2.1
      have hsa := sameAll_any w5 hAc.trs hC5.ra (all_core hSM.out hA.out hAc).symm (by omega)
      replace hsa : Hid _ := ⟨hsa⟩
      replace hC5 : Hid _ := ⟨hC5⟩
      clear hall hAc hg5 hC4
      go_wp2_with fail
      refine hsa.out.mono ?_
      rintro r w6 ⟨rfl, hg6⟩
      have hdu := duec (hC5.out.keep hg6)
      replace hdu : Hid _ := ⟨hdu⟩
      clear hsa hC5 hg6
      go_wp2_with fail
      refine hdu.out.mono ?_
      rintro r w7 ⟨ea, ec, dsc, rfl, hC7, hT7, hdm7, hdcr7⟩
      have hdl7 : dsc.length ≤ 10000 := le_of_map hdm7 (by omega)
      have hsa := sameAll_any w7 hT7 hC7.rd (due_core _ _ _ hC7.un (fun y hy => (hSM.out _).2 (hdcr7 y hy)) hdcr.out (by rw [map_nm hdm7, map_nm hdm.out, hLe.out])) (by omega)
      replace hsa : Hid _ := ⟨hsa⟩
      replace hC7 : Hid _ := ⟨hC7⟩
      clear hdu hT7 hdm7 hdcr7
      go_wp2_with fail
      refine hsa.out.mono ?_
      rintro r w8 ⟨rfl, hg8⟩
      have hst2 : Hid (∃ Mc L1c L2c, Cw U0 w8 tb tc now now M L1 L2 Mc L1c L2c (.slice aa ts.length ac) ts (.slice da ds.length dc) ds ∧ Mc.length ≤ 40 + 0) := ⟨Mc, L1c, L2c, hC7.out.keep hg8, by omega⟩
      clear hsa hC7 hg8
      go_wp2_with fail
      go_loopw [15] (fun iv wr => ∃ i : Nat, iv = .int .i64 i ∧ i ≤ l2.length ∧ Hid (∃ Mc L1c L2c, Cw U0 wr tb tc now now M L1 L2 Mc L1c L2c (.slice aa ts.length ac) ts (.slice da ds.length dc) ds ∧ Mc.length ≤ 40 + i)) (fun iv _ => l2.length - (intOf iv).toNat)
      case atStart => exact ⟨0, rfl, by omega, hst2⟩
      case round =>
        clear hst2
        obtain ⟨j, rfl, hj, hR⟩ := hrel
        by_cases hlt2 : j < l2.length
        · have hdj : decide ((j : Int) < l2.length) = true := by simp; omega
          obtain ⟨x, hx⟩ : ∃ x, l2[j]? = some x := ⟨_, List.getElem?_eq_getElem hlt2⟩
          obtain ⟨b, off, rfl, hb, hok, hc⟩ := hat2.out j x hx
          obtain ⟨Mc', L1c', L2c', hC, hMc'⟩ := hR.out
          have hbel := hC.bl
          have k0 : wr.cell? ⟨b, off + j * 5, none⟩ = some (.string x.nm) := (World.cell?_of_block (hbel.block b hb)).trans (hc 0 _ rfl)
          have k1 : wr.cell? ⟨b, off + j * 5 + 1, none⟩ = some (.int .i64 x.vr) := (World.cell?_of_block (hbel.block b hb)).trans (hc 1 _ rfl)
          have k2 : wr.cell? ⟨b, off + j * 5 + 2, none⟩ = some (.int .u64 x.at_) := (World.cell?_of_block (hbel.block b hb)).trans (hc 2 _ rfl)
          have k3 : wr.cell? ⟨b, off + j * 5 + 3, none⟩ = some (.int .u64 x.ev) := (World.cell?_of_block (hbel.block b hb)).trans (hc 3 _ rfl)
          have k4 : wr.cell? ⟨b, off + j * 5 + 4, none⟩ = some x.v := (World.cell?_of_block (hbel.block b hb)).trans (hc 4 _ rfl)
          have hxs : Sps wr.heap.size wr x.v x.xs := (hok.2.2.2.2.kept fun k _ hl => hbel.block k hl).up hbel.size
          have hfi := fits_any wr x hxs
          have hkeep : Hid (∀ w', wr.grownBy w' none → ∀ o u, wr.cell? ⟨b, o, none⟩ = some u → w'.cell? ⟨b, o, none⟩ = some u) := ⟨fun w' hg o u hu => grown_cell hg hu⟩
          have hset : Hid (∀ w', wr.grownBy w' none → Calls Tryz.prog 12 #[ptr tc, x.val] w' fun r w5 => (∃ n, r = .returned (.int .i64 n)) ∧ Hid (∃ Mc L1c L2c, Cw U0 w5 tb tc now now M L1 L2 Mc L1c L2c (.slice aa ts.length ac) ts (.slice da ds.length dc) ds ∧ Mc.length ≤ 40 + (j + 1))) := ⟨fun w' hg => by
            refine (setc hD.out (hC.keep hg) x hok.2.2.2.2 ⟨hok.2.2.1.1, hok.2.2.2.1.1⟩ (by omega)).mono ?_
            rintro r w5 ⟨hr, M', L1', L2', h5, hM'⟩
            exact ⟨hr, M', L1', L2', h5, by omega⟩⟩
          have hdrp : Hid (∀ w', wr.grownBy w' none → Calls Tryz.prog 16 #[ptr tc, .string x.nm] w' fun r w5 => (∃ b, r = .returned (.bool b)) ∧ Hid (∃ Mc L1c L2c, Cw U0 w5 tb tc now now M L1 L2 Mc L1c L2c (.slice aa ts.length ac) ts (.slice da ds.length dc) ds ∧ Mc.length ≤ 40 + (j + 1))) := ⟨fun w' hg => by
            refine (dropc (hC.keep hg) x.nm hok.1).mono ?_
            rintro r w5 ⟨hr, M', L1', L2', h5, hM'⟩
            exact ⟨hr, M', L1', L2', h5, by omega⟩⟩
          have hno : Hid (∀ w', wr.grownBy w' none → ∃ Mc L1c L2c, Cw U0 w' tb tc now now M L1 L2 Mc L1c L2c (.slice aa ts.length ac) ts (.slice da ds.length dc) ds ∧ Mc.length ≤ 40 + (j + 1)) := ⟨fun w' hg => ⟨Mc', L1c', L2c', hC.keep hg, by omega⟩⟩
          have hxv : ∃ va vc, x.v = .slice va x.xs.length vc := by obtain ⟨va, vc, e, _⟩ := hxs.shape; exact ⟨va, vc, e⟩
          obtain ⟨nm, vr, at_, ev, sv, xs⟩ := x
          simp only [Tmr.val] at k0 k1 k2 k3 k4 hfi hset hdrp hxv
          obtain ⟨va, vc, rfl⟩ := hxv
          replace hfi : Hid _ := ⟨hfi⟩
          have hn1 : j < l2.length := hlt2
          have hn2 : (j : Int) < (l2.length : Int) := by omega
          have hn3 : (0 : Int) ≤ (j : Int) := by omega
          clear hR hC hMc' hbel hc hok hxs hx hat2 hb
          go_wp2_with fail
          refine hfi.out.mono ?_
          rintro r w9 ⟨rfl, hg2⟩
          replace k0 := hkeep.out _ hg2 _ _ k0
          replace k1 := hkeep.out _ hg2 _ _ k1
          replace k2 := hkeep.out _ hg2 _ _ k2
          replace k3 := hkeep.out _ hg2 _ _ k3
          replace k4 := hkeep.out _ hg2 _ _ k4
          clear hfi hkeep
          cases hf : (fewB xs && decide (nm.size ≤ 100)) with
          | false =>
            have hn := hno.out _ hg2
            replace hn : Hid _ := ⟨hn⟩
            clear hset hdrp hno hg2 k0 k1 k2 k3 k4
            go_wp2_with fail
            go_roundw
            case rel => exact ⟨j + 1, by go_num, by omega, hn⟩
            case measure => simp [intOf]; omega
          | true =>
            by_cases hm2 : j % 2 = 0
            · have hm : (j : Int).tmod 2 = 0 := by rw [Int.tmod_eq_emod_of_nonneg hn3]; omega
              have hs := hset.out _ hg2
              replace hs : Hid _ := ⟨hs⟩
              clear hset hdrp hno hg2 hm2
              go_wp2_with fail
              refine hs.out.mono ?_
              rintro r w10 ⟨⟨n, rfl⟩, hn⟩
              clear hs k0 k1 k2 k3 k4
              go_wp2_with fail
              go_roundw
              case rel => exact ⟨j + 1, by go_num, by omega, hn⟩
              case measure => simp [intOf]; omega
            · have hm : (j : Int).tmod 2 = 1 := by rw [Int.tmod_eq_emod_of_nonneg hn3]; omega
              have hs := hdrp.out _ hg2
              replace hs : Hid _ := ⟨hs⟩
              clear hset hdrp hno hg2 hm2
              go_wp2_with fail
              refine hs.out.mono ?_
              rintro r w10 ⟨⟨n, rfl⟩, hn⟩
              clear hs k0 k1 k2 k3 k4
              go_wp2_with fail
              go_roundw
              case rel => exact ⟨j + 1, by go_num, by omega, hn⟩
              case measure => simp [intOf]; omega
        · have hdj : decide ((j : Int) < l2.length) = false := by simp; omega
          obtain ⟨Mc', L1c', L2c', hC, hMc'⟩ := hR.out
          have had := advc hC (by have := hnow.2; omega)
          replace had : Hid _ := ⟨had⟩
          clear hR hC hat2
          go_wp2_with fail
          refine had.out.mono ?_
          rintro r w9 ⟨⟨v9, rfl⟩, L1d, L2d, hC9⟩
          have hall := allx hC9
          replace hall : Hid _ := ⟨hall⟩
          replace hC9 : Hid _ := ⟨hC9⟩
          clear had
          go_wp2_with fail
          refine hall.out.mono ?_
          rintro r w10 ⟨fa, fc, t2, rfl, hA2, hg10⟩
          have hC10 := hC9.out.keep hg10
          have ht2l := hA2.le hll.1
          have hsa := sameAll_any w10 hA2.trs hC10.ra (all_core (sameM_refl M) hA2 hA.out) (by omega)
          replace hsa : Hid _ := ⟨hsa⟩
          replace hC10 : Hid _ := ⟨hC10⟩
          clear hall hA2 hg10 hC9
          go_wp2_with fail
          refine hsa.out.mono ?_
          rintro r w11 ⟨rfl, hg11⟩
          have hdu := duex (hC10.out.keep hg11)
          replace hdu : Hid _ := ⟨hdu⟩
          clear hsa hC10 hg11
          go_wp2_with fail
          refine hdu.out.mono ?_
          rintro r w12 ⟨ga, gc, d2, rfl, hC12, hT12, hdm12, hdcr12⟩
          have hd2l : d2.length ≤ 10000 := le_of_map hdm12 (by omega)
          have hsa := sameAll_any w12 hT12 hC12.rd (due_core _ _ _ hC12.un hdcr12 hdcr.out (by rw [map_nm hdm12, map_nm hdm.out])) (by omega)
          replace hsa : Hid _ := ⟨hsa⟩
          replace hC12 : Hid _ := ⟨hC12⟩
          clear hdu hT12 hdm12 hdcr12
          go_wp2_with fail
          refine hsa.out.mono ?_
          rintro r w13 ⟨rfl, hg13⟩
          have hC13 := hC12.out.keep hg13
          have hal := alive_any w13 (hD.out.below hC13.bl (Nat.le_refl _))
          replace hal : Hid _ := ⟨hal⟩
          replace hC13 : Hid _ := ⟨hC13⟩
          clear hsa hC12 hg13
          go_wp2_with fail
          refine hal.out.mono ?_
          rintro r w14 ⟨rfl, hg14⟩
          have hC14 := hC13.out.keep hg14
          have hck := clockx hC14
          replace hck : Hid _ := ⟨hck⟩
          replace hC14 : Hid _ := ⟨hC14⟩
          clear hal hC13 hg14
          go_wp2_with fail
          refine hck.out.mono ?_
          rintro r w15 ⟨rfl, rfl⟩
          have hdu := duec hC14.out
          replace hdu : Hid _ := ⟨hdu⟩
          clear hck hC14
          go_wp2_with fail
          refine hdu.out.mono ?_
          rintro r w16 ⟨ha, hc, d3, rfl, hC16, hT16, hdm16, hdcr16⟩
          have hd3l : Hid (d3.length = L2d.length) := ⟨by rw [← hdm16]; simp⟩
          have hall := allc hC16
          replace hall : Hid _ := ⟨hall⟩
          replace hC16 : Hid _ := ⟨hC16⟩
          clear hdu hT16 hdm16 hdcr16
          go_wp2_with fail
          refine hall.out.mono ?_
          rintro r w17 ⟨ia, ic, t3, rfl, hA3, hg17⟩
          have hfl := cnt_full hC16.out hA3
          have heq : d3.length = t3.length := hd3l.out.trans hfl
          have hfin : Hid (Below U0.heap.size U0 w17) := ⟨(hC16.out.keep hg17).bl⟩
          rw [heq]
          clear hall hC16 hA3 hg17
          go_wp2
          go_ret
          exact ⟨rfl, hfin.out⟩
end Go.Proofs.YtblnhcnfeagjhaaGreatDoor
