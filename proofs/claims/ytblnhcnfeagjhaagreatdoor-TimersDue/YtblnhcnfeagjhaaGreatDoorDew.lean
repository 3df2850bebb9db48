/- The walk of TimersDue. -/
import Derived.Test.YtblnhcnfeagjhaaGreatDoorDem
import Derived.Test.YtblnhcnfeagjhaaGreatDoorRGa
import Derived.Test.YtblnhcnfeagjhaaGreatDoorOPa
import Derived.Test.YtblnhcnfeagjhaaGreatDoorLiv
import Derived.Deep.CutRange
namespace Go.Proofs.YtblnhcnfeagjhaaGreatDoor
open Go.RowKit Go.IntWalk Go.Maps Go.Shelf
set_option linter.unusedVariables false
theorem lt_saidQ {a b : Q.E} (h : Q.lt a b) : (a.at_ < b.at_ ∧ decide (b.at_ < a.at_) = false ∧ (b.at_ == a.at_) = false) ∨ (decide (b.at_ < a.at_) = false ∧ (b.at_ == a.at_) = true ∧ (Op.bytesLess b.n.toList a.n.toList || b.n.toList == a.n.toList) = false) := by
  rcases h with h | ⟨h1, h2⟩
  · exact .inl ⟨h, by simp; omega, by simp; omega⟩
  · refine .inr ⟨by simp; omega, by simp [h1], ?_⟩
    rw [Q.bytesLess_eq]
    have h3 : ¬ b.n.toList < a.n.toList := fun h3 => List.lt_irrefl _ (List.lt_trans h2 h3)
    have h4 : ¬ b.n.toList = a.n.toList := fun h4 => List.lt_irrefl _ (h4 ▸ h2)
    simp [h3, h4]
theorem Dw.l2 {U0 wr : World} {X : Nat → Prop} {n0 n1 : Int} {tb : Nat} {now : Int} {M : List Tmr} {L1 : List W.E} {L2 : List Q.E} (h : Dw U0 wr X n0 n1 tb now M L1 L2) : L2.length ≤ 10000 := by
  obtain ⟨S, ⟨mb, wb, qb, S1, S2, hTb, _, hI⟩, _⟩ := h
  exact hI.l2 hTb.qu.srt
theorem AllT.le {w w' : World} {M : List Tmr} {v : Value} {ts : List Tmr} (h : AllT w w' M v ts) (hM : M.length ≤ 10000) : ts.length ≤ 10000 := by
  have hnd : (ts.map fun y : Tmr => y.nm.data.toList).Nodup := h.ord.imp fun {a b} h e => by subst e; exact List.lt_irrefl _ h
  have := hnd.length_le_of_subset (l₂ := M.map fun x : Tmr => x.nm.data.toList) fun n hn => by
    obtain ⟨y, hy, rfl⟩ := List.mem_map.1 hn
    obtain ⟨x, hx, hxe⟩ := (h.fro y hy).1
    exact List.mem_map.2 ⟨x, hx, by rw [hxe]⟩
  simp at this
  omega
theorem cntT_next {t : Int} {ts : List Tmr} {i : Nat} {y : Tmr} (h : ts[i]? = some y) : cntT t (ts.take (i + 1)) = cntT t (ts.take i) + if y.at_ ≤ t then 1 else 0 := by
  unfold cntT
  rw [List.take_add_one, h, List.countP_append]
  by_cases h : y.at_ ≤ t <;> simp [h]
theorem cntT_le {t : Int} {ts : List Tmr} : cntT t ts ≤ ts.length := List.countP_le_length
/-- The clock behind Advance. -/
def nxc (now t : Int) : Int := if now ≤ t then t else now
theorem adv_x {U0 wr : World} {X : Nat → Prop} {n0 n1 : Int} {tb : Nat} {now : Int} {M : List Tmr} {L1 : List W.E} {L2 : List Q.E} (h : Dw U0 wr X n0 n1 tb now M L1 L2) (hX : ∀ k, X k → k < wr.heap.size) (t : Int) (ht : 0 ≤ t ∧ t < 18446744073709551616) :
    Calls Tryz.prog 19 #[ptr tb, .int .u64 t] wr fun r w' => ∃ a c D L1' L2', r = .returned (.slice a D.length c) ∧ w'.ownsRow wr.heap.size 9 1 (.slice a D.length c) D.length (cellsN (D.map W.E.n)) ∧
      Dw U0 w' (fun k => (Value.slice a D.length c).ownBlock = some k) n0 n1 tb (nxc now t) M L1' L2' ∧ L2.length + D.length = L2'.length ∧ (∀ e ∈ D, ∃ x ∈ M, x.nm = e.n ∧ x.at_ ≤ nxc now t) ∧ (t < now → D = []) := by
  by_cases hlt : now ≤ t
  · have e : nxc now t = t := if_pos hlt
    rw [e]
    refine (adv_m h hX t ht hlt).mono ?_
    rintro r w' ⟨a, c, D, L1', L2', rfl, hr, hDw, hA⟩
    exact ⟨a, c, D, L1', L2', rfl, hr, hDw, hA.len, hA.fro, fun h => by omega⟩
  · have e : nxc now t = now := if_neg hlt
    rw [e]
    refine (back_m h t (by omega)).mono ?_
    rintro r w' ⟨rfl, rfl⟩
    exact ⟨none, 0, [], L1, L2, rfl, by simpa [cellsN] using World.ownsRow_nil _ w'.heap.size 9 1, h.mono fun k hk => by simp [Value.ownBlock] at hk, by simp, by simp, fun _ => rfl⟩
theorem cellsT_at {ts : List Tmr} {j : Nat} {x : Tmr} (h : ts[j]? = some x) (i : Nat) (hi : i < 5) : (cellsT ts)[j * 5 + i]? = x.cells[i]? := by
  induction ts generalizing j with
  | nil => simp at h
  | cons a r ih =>
    cases j with
    | zero =>
      simp at h
      subst h
      have : (cellsT (a :: r)) = a.cells ++ cellsT r := rfl
      rw [this, List.getElem?_append_left (by simp [Tmr.cells]; omega)]
      simp
    | succ j =>
      have : (cellsT (a :: r)) = a.cells ++ cellsT r := rfl
      rw [this, List.getElem?_append_right (by simp [Tmr.cells]; omega)]
      have e : (j + 1) * 5 + i - a.cells.length = j * 5 + i := by simp [Tmr.cells]; omega
      rw [e]
      exact ih (by simpa using h)
/-- A row of timers, read. -/
theorem rowT_at {w : World} {base : Nat} {v : Value} {ts : List Tmr} (h : w.ownsRow base 32 5 v ts.length (cellsT ts)) {j : Nat} {x : Tmr} (hj : ts[j]? = some x) :
    ∃ g c, v = .slice (some ⟨g, 0, none⟩) ts.length c ∧ w.cell? ⟨g, j * 5, none⟩ = some (.string x.nm) ∧ w.cell? ⟨g, j * 5 + 2, none⟩ = some (.int .u64 x.at_) := by
  rcases id h.2 with ⟨rfl, h0⟩ | ⟨g, cap, cur, rfl, hb, hg, hn, hm, hs, ht⟩
  · rw [List.eq_nil_of_length_eq_zero h0] at hj
    simp at hj
  · have key : ∀ i (u : Value), x.cells[i]? = some u → i < 5 → w.cell? ⟨g, j * 5 + i, none⟩ = some u := fun i u hu hi => by
      have := h.cells (g := g) rfl (j * 5 + i) u (by rw [cellsT_at hj i hi]; exact hu)
      rw [addr_add, Nat.zero_add] at this
      exact this
    exact ⟨g, cap, rfl, key 0 _ rfl (by omega), key 2 _ rfl (by omega)⟩
theorem rowN_at {w : World} {base : Nat} {v : Value} {D : List W.E} (h : w.ownsRow base 9 1 v D.length (cellsN (D.map W.E.n))) {j : Nat} {x : W.E} (hj : D[j]? = some x) :
    ∃ g c, v = .slice (some ⟨g, 0, none⟩) D.length c ∧ w.cell? ⟨g, j, none⟩ = some (.string x.n) := by
  rcases id h.2 with ⟨rfl, h0⟩ | ⟨g, cap, cur, rfl, hb, hg, hn, hm, hs, ht⟩
  · rw [List.eq_nil_of_length_eq_zero h0] at hj
    simp at hj
  · have := h.cells (g := g) rfl j (.string x.n) (by simp [cellsN, hj])
    rw [addr_add, Nat.zero_add] at this
    exact ⟨g, cap, rfl, this⟩
theorem tms_at {W : World} {v : Value} {l : List Tmr} (h : Tms W v l) : ∃ a c, v = .slice a l.length c ∧ ∀ i x, l[i]? = some x → ∃ b off, a = some ⟨b, off, none⟩ ∧ b < W.heap.size ∧ tok W x ∧ ∀ j u, x.cells[j]? = some u → W.cell? ⟨b, off + i * 5 + j, none⟩ = some u := by
  rcases h with ⟨rfl | ⟨ad, cap, rfl⟩, rfl⟩ | ⟨b, off, cap, rfl, hb, hl, hm, hc⟩
  · exact ⟨none, 0, rfl, fun i x hx => by simp at hx⟩
  · exact ⟨some ad, cap, rfl, fun i x hx => by simp at hx⟩
  · exact ⟨_, cap, rfl, fun i x hx => ⟨b, off, rfl, hb, (hc i x hx).1, (hc i x hx).2⟩⟩
set_option maxRecDepth 1000000 in
set_option maxHeartbeats 8000000 in
theorem dues_walk (U0 : World) (hD : Dr U0) (now n0 n1 : Int) (hnow : V.U now) (h0 : V.U n0) (h1 : V.U n1) {v : Value} {l : List Tmr} (hl : Tms U0 v l) :
    Calls Tryz.prog 4 #[.int .u64 now, v, .agg #[.int .u64 n0, .int .u64 n1]] U0 fun e U0' => e = .returned (.bool true) ∧ Below U0.heap.size U0 U0' := by
  obtain ⟨a, c, rfl, hat⟩ := tms_at hl
  replace hat : Hid _ := ⟨hat⟩
  clear hl
  have hga := World.grownBy_alloc U0 (.cells #[.int .u64 n0, .int .u64 n1] 51) none
  have hnew := new_t (U0.alloc (.cells #[.int .u64 n0, .int .u64 n1] 51)) now hnow
  have hB0 : (U0.alloc (.cells #[.int .u64 n0, .int .u64 n1] 51)).heap[U0.heap.size]? = some (.cells #[.int .u64 n0, .int .u64 n1] 51 (0, 0)) := World.alloc_heap_new U0 _
  replace hga : Hid _ := ⟨hga⟩
  replace hB0 : Hid _ := ⟨hB0⟩
  replace hnew : Hid _ := ⟨hnew⟩
  replace hD : Hid _ := ⟨hD⟩
  go_enter Tryz.func4, Tryz.ntmps4
  go_wp2_with fail
  refine hnew.out.mono ?_
  rintro r w1 ⟨tb, rfl, hT, hg1⟩
  have hst : Hid (∃ M L1 L2, Dw U0 w1 (fun _ => False) n0 n1 tb now M L1 L2 ∧ M.length ≤ 0) := ⟨[], [], [], ⟨_, hT, fun k hk => ⟨⟨by have := hk.1; simp at this; omega, hk.2⟩, id⟩, (hg1.block _ (by simp) (by simp)).trans hB0.out, ⟨(grown_none hga.out hg1).os, (grown_none hga.out hg1).tape, (grown_none hga.out hg1).output, (grown_none hga.out hg1).size, fun k hk => (grown_none hga.out hg1).block k hk (by simp)⟩⟩, Nat.le_refl _⟩
  clear hT hg1 hga hB0 hnew
  by_cases h40 : l.length > 40
  · have hd : decide ((l.length : Int) > 40) = true := by simp; omega
    have hd2 : decide ((40 : Int) < l.length) = true := by simp; omega
    obtain ⟨M, L1, L2, hDw, _⟩ := hst.out
    have hbel : Hid _ := ⟨hDw.below⟩
    clear hDw hst
    go_wp2
    go_ret
    exact ⟨rfl, hbel.out⟩
  have hd : decide ((l.length : Int) > 40) = false := by simp; omega
  have hd2 : decide ((40 : Int) < l.length) = false := by simp; omega
  have hl40 : l.length ≤ 40 := by omega
  go_wp2_with fail
  go_loopw [8] (fun iv wr => ∃ i : Nat, iv = .int .i64 i ∧ i ≤ l.length ∧ Hid (∃ M L1 L2, Dw U0 wr (fun _ => False) n0 n1 tb now M L1 L2 ∧ M.length ≤ i)) (fun iv _ => l.length - (intOf iv).toNat)
  case atStart => exact ⟨0, rfl, by omega, hst⟩
  case round =>
    clear hst
    obtain ⟨i, rfl, hi, hR⟩ := hrel
    by_cases hlt : i < l.length
    · have hdi : decide ((i : Int) < l.length) = true := by simp; omega
      obtain ⟨x, hx⟩ : ∃ x, l[i]? = some x := ⟨_, List.getElem?_eq_getElem hlt⟩
      obtain ⟨b, off, rfl, hb, hok, hc⟩ := hat.out i x hx
      obtain ⟨M, L1, L2, hDw, hM⟩ := hR.out
      have hbel := hDw.below
      have k0 : wr.cell? ⟨b, off + i * 5, none⟩ = some (.string x.nm) := (World.cell?_of_block (hbel.block b hb)).trans (hc 0 _ rfl)
      have k1 : wr.cell? ⟨b, off + i * 5 + 1, none⟩ = some (.int .i64 x.vr) := (World.cell?_of_block (hbel.block b hb)).trans (hc 1 _ rfl)
      have k2 : wr.cell? ⟨b, off + i * 5 + 2, none⟩ = some (.int .u64 x.at_) := (World.cell?_of_block (hbel.block b hb)).trans (hc 2 _ rfl)
      have k3 : wr.cell? ⟨b, off + i * 5 + 3, none⟩ = some (.int .u64 x.ev) := (World.cell?_of_block (hbel.block b hb)).trans (hc 3 _ rfl)
      have k4 : wr.cell? ⟨b, off + i * 5 + 4, none⟩ = some x.v := (World.cell?_of_block (hbel.block b hb)).trans (hc 4 _ rfl)
      have hxs : Sps wr.heap.size wr x.v x.xs := (hok.2.2.2.2.kept fun k _ hl => hbel.block k hl).up hbel.size
      have hfi := fits_any wr x hxs
      have hset : Hid (∀ w', wr.grownBy w' none → Calls Tryz.prog 12 #[ptr tb, x.val] w' fun r w5 => (∃ n, r = .returned (.int .i64 n)) ∧ Hid (∃ M L1 L2, Dw U0 w5 (fun _ => False) n0 n1 tb now M L1 L2 ∧ M.length ≤ i + 1)) := ⟨fun w' hg => by
        refine (set_m hD.out (hDw.keep hg) x hok.2.2.2.2 ⟨hok.2.2.1.1, hok.2.2.2.1.1⟩ (by omega)).mono ?_
        rintro r w5 ⟨hr, M', L1', L2', h5, hM'⟩
        exact ⟨hr, M', L1', L2', h5, by omega⟩⟩
      have hno : Hid (∀ w', wr.grownBy w' none → ∃ M L1 L2, Dw U0 w' (fun _ => False) n0 n1 tb now M L1 L2 ∧ M.length ≤ i + 1) := ⟨fun w' hg => ⟨M, L1, L2, hDw.keep hg, by omega⟩⟩
      have hxv : ∃ va vc, x.v = .slice va x.xs.length vc := by obtain ⟨va, vc, e, _⟩ := hxs.shape; exact ⟨va, vc, e⟩
      have hkeep : Hid (∀ w', wr.grownBy w' none → ∀ o u, wr.cell? ⟨b, o, none⟩ = some u → w'.cell? ⟨b, o, none⟩ = some u) := ⟨fun w' hg o u hu => grown_cell hg hu⟩
      obtain ⟨nm, vr, at_, ev, sv, xs⟩ := x
      simp only [Tmr.val] at k0 k1 k2 k3 k4 hfi hset hxv
      obtain ⟨va, vc, rfl⟩ := hxv
      replace hfi : Hid _ := ⟨hfi⟩
      have hn1 : i < l.length := hlt
      have hn2 : (i : Int) < (l.length : Int) := by omega
      have hn3 : (0 : Int) ≤ (i : Int) := by omega
      clear hR hDw hM hbel hc hok hxs hx hat hb
      go_wp2_with fail
      refine hfi.out.mono ?_
      rintro r w2 ⟨rfl, hg2⟩
      replace k0 := hkeep.out _ hg2 _ _ k0
      replace k1 := hkeep.out _ hg2 _ _ k1
      replace k2 := hkeep.out _ hg2 _ _ k2
      replace k3 := hkeep.out _ hg2 _ _ k3
      replace k4 := hkeep.out _ hg2 _ _ k4
      clear hfi hkeep
      cases hf : (fewB xs && decide (nm.size ≤ 100)) with
      | false =>
        have hn := hno.out _ hg2
        replace hn : Hid _ := ⟨hn⟩
        clear hset hno hg2 k0 k1 k2 k3 k4
        go_wp2_with fail
        go_roundw
        case rel => exact ⟨i + 1, by go_num, by omega, hn⟩
        case measure => simp [intOf]; omega
      | true =>
        have hs := hset.out _ hg2
        replace hs : Hid _ := ⟨hs⟩
        clear hset hno hg2
        go_wp2_with fail
        refine hs.out.mono ?_
        rintro r w3 ⟨⟨n, rfl⟩, hn⟩
        clear hs k0 k1 k2 k3 k4
        go_wp2_with fail
        go_roundw
        case rel => exact ⟨i + 1, by go_num, by omega, hn⟩
        case measure => simp [intOf]; omega
    · have hdi : decide ((i : Int) < l.length) = false := by simp; omega
      have hst2 : Hid (∃ M L1 L2, Dw U0 wr (fun _ => False) n0 n1 tb now M L1 L2 ∧ M.length ≤ 40) := by
        obtain ⟨M, L1, L2, hDw, hM⟩ := hR.out
        exact ⟨M, L1, L2, hDw, by omega⟩
      clear hR hat
      go_wp2_with fail
      go_loopw [10, 11] (fun cv kv wr => ∃ (k : Nat) (cl : Int), cv = .int .u64 cl ∧ kv = .int .i64 k ∧ k ≤ 2 ∧ V.U cl ∧ Hid (∃ M L1 L2, Dw U0 wr (fun _ => False) n0 n1 tb cl M L1 L2 ∧ M.length ≤ 40)) (fun _ kv _ => 2 - (intOf kv).toNat)
      case atStart => exact ⟨0, now, rfl, rfl, by omega, hnow, hst2⟩
      case round =>
        clear hst2 hnow
        obtain ⟨k, cl, rfl, rfl, hk, hcl, hR⟩ := hrel
        obtain ⟨M, L1, L2, hDw, hM⟩ := hR.out
        by_cases hk2 : k < 2
        · have hdk : decide ((k : Int) < 2) = true := by simp; omega
          obtain ⟨t, htU, htc⟩ : ∃ t, V.U t ∧ ∀ (wx : World) (X : Nat → Prop) (cl : Int) M L1 L2, Dw U0 wx X n0 n1 tb cl M L1 L2 → wx.cell? ⟨U0.heap.size, k, none⟩ = some (.int .u64 t) := by
            have : k = 0 ∨ k = 1 := by omega
            rcases this with rfl | rfl
            · exact ⟨n0, h0, fun _ _ _ _ _ _ h => h.to0⟩
            · exact ⟨n1, h1, fun _ _ _ _ _ _ h => h.to1⟩
          have hdu := due_m hDw (fun _ e => e.elim)
          replace hdu : Hid _ := ⟨hdu⟩
          have hk3 : (k : Int) < 2 := by omega
          have hk4 : (0 : Int) ≤ (k : Int) := by omega
          replace htc : Hid _ := ⟨htc⟩
          replace hM : Hid _ := ⟨hM⟩
          clear hR hDw
          go_wp2_with fail
          refine hdu.out.mono ?_
          rintro r w2 ⟨wa, wc, wts, rfl, -, -, hDw2, -⟩
          have hDw2 := hDw2.mono (X' := fun _ => False) fun _ e => e.elim
          clear hdu
          have hc2 := htc.out _ _ _ _ _ _ hDw2
          have had := adv_x hDw2 (fun _ e => e.elim) t htU
          replace had : Hid _ := ⟨had⟩
          clear hDw2
          go_wp2_with fail
          refine had.out.mono ?_
          rintro r w3 ⟨ba, bc, D, L1', L2', rfl, hrow, hDw3, hlen, hfro, hnil⟩
          clear had hc2
          have hc3 := htc.out _ _ _ _ _ _ hDw3
          have hl2 := hDw3.l2
          obtain ⟨cl2, hce⟩ : ∃ z, z = nxc cl t := ⟨_, rfl⟩
          rw [← hce] at hDw3 hfro
          have hcl2 : V.U cl2 := by
            rw [hce]
            unfold nxc
            split
            · exact htU
            · exact hcl
          have hdu := due_m hDw3 (fun k hk => (hrow.lt k hk).2)
          replace hdu : Hid _ := ⟨hdu⟩
          replace hDw3 : Hid _ := ⟨hDw3⟩
          replace hrow : Hid _ := ⟨hrow⟩
          replace hfro : Hid _ := ⟨hfro⟩
          have hDl : D.length ≤ 10000 := by omega
          have hL2l : L2.length ≤ 10000 := by omega
          go_upto_if 67 with fail
          go_cut [10] from 52 to 192 (fun cv wx => cv = .int .u64 cl2 ∧ wx = w3)
          case first =>
            by_cases hle : cl ≤ t
            · have e : cl2 = t := hce.trans (if_pos hle)
              have hd3 : decide (t ≥ cl) = true := by simp; omega
              have hd4 : decide (cl ≤ t) = true := by simp; omega
              subst e
              clear hdu hce
              go_wp2_with fail
              go_meet
              case rel => exact ⟨rfl, rfl⟩
            · have e : cl2 = cl := hce.trans (if_neg hle)
              have hD0 : D = [] := hnil (by omega)
              subst hD0
              have hd3 : decide (t ≥ cl) = false := by simp; omega
              have hd4 : decide (cl ≤ t) = false := by simp; omega
              subst e
              clear hdu hce
              go_wp2_with fail
              go_meet
              case rel => exact ⟨rfl, rfl⟩
          case rest =>
            obtain ⟨rfl, rfl⟩ := hcut
            clear hce hnil hc3 htc htU hcl
            go_wp2_with fail
            refine hdu.out.mono ?_
            rintro r w4 ⟨da, dc, ds, rfl, hds, hdrow, hDw4, hkeep4⟩
            clear hdu
            have hal := all_m hDw4
            replace hal : Hid _ := ⟨hal⟩
            have hrow4 : Hid (w4.ownsRow w2.heap.size 9 1 (.slice ba D.length bc) D.length (cellsN (D.map W.E.n))) := ⟨own_keep hrow.out fun g hg => hkeep4 g hg⟩
            replace hds : Hid _ := ⟨hds⟩
            replace hdrow : Hid _ := ⟨hdrow⟩
            replace hDw4 : Hid _ := ⟨hDw4⟩
            clear hkeep4 hrow hDw3
            go_wp2_with fail
            refine hal.out.mono ?_
            rintro r w5 ⟨av, ts, rfl, hA, hg5⟩
            clear hal
            have hDw5 := hDw4.out.keep hg5
            have hcn := cnt_all hDw4.out hA
            have htsl := hA.le hDw5.two.2.2
            have hrow5 : Hid (w5.ownsRow w2.heap.size 9 1 (.slice ba D.length bc) D.length (cellsN (D.map W.E.n))) := ⟨hrow4.out.kept hg5 (Classical.em _)⟩
            have hdrow5 : Hid (w5.ownsRow wc.heap.size 32 5 (.slice da L2'.length dc) L2'.length (cellsT ds)) := ⟨hdrow.out.kept hg5 (Classical.em _)⟩
            have harow : Hid _ := ⟨hA.row⟩
            obtain ⟨aa, ac, rfl⟩ := own_shape hA.row
            have hclk := clock_m hDw5
            replace hclk : Hid _ := ⟨hclk⟩
            replace hDw5 : Hid _ := ⟨hDw5⟩
            replace hcn : Hid _ := ⟨hcn⟩
            clear hA hg5 hDw4 hrow4 hdrow
            go_wp2_with fail
            go_loopw [16, 17] (fun nv iv wr5 => ∃ i : Nat, nv = .int .i64 (cntT cl2 (ts.take i) : Nat) ∧ iv = .int .i64 i ∧ i ≤ ts.length ∧ wr5 = w5) (fun _ iv _ => ts.length - (intOf iv).toNat)
            case atStart => exact ⟨0, by simp [cntT], rfl, by omega, rfl⟩
            case round =>
              obtain ⟨i, rfl, rfl, hi5, rfl⟩ := hrel
              have hcle : cntT cl2 (ts.take i) ≤ 10000 := by
                have := cntT_le (t := cl2) (ts := ts.take i)
                rw [List.length_take] at this
                omega
              by_cases hlt5 : i < ts.length
              · obtain ⟨y, hy⟩ : ∃ y, ts[i]? = some y := ⟨_, List.getElem?_eq_getElem hlt5⟩
                obtain ⟨g, c5, e5, -, q2⟩ := rowT_at harow.out hy
                simp only [Value.slice.injEq] at e5
                obtain ⟨rfl, -, rfl⟩ := e5
                have hnx := cntT_next (t := cl2) hy
                have hn1 : i < ts.length := hlt5
                have hn2 : (i : Int) < (ts.length : Int) := by omega
                have hn3 : (0 : Int) ≤ (i : Int) := by omega
                obtain ⟨ya, hya⟩ : ∃ ya, y.at_ = ya := ⟨_, rfl⟩
                rw [hya] at q2 hnx
                obtain ⟨nn, hnn⟩ : ∃ nn, cntT cl2 (ts.take i) = nn := ⟨_, rfl⟩
                rw [hnn] at hnx hcle ⊢
                clear hclk hy hya
                by_cases hyl : ya ≤ cl2
                · have hd6 : decide (ya ≤ cl2) = true := by simpa using hyl
                  rw [if_pos hyl] at hnx
                  replace hnx : Hid _ := ⟨hnx⟩
                  go_wp2_with fail
                  go_roundw
                  case rel => exact ⟨i + 1, by rw [hnx.out]; go_num, by go_num, by omega, by first | rfl | trivial⟩
                  case measure => simp [intOf]; omega
                · have hd6 : decide (ya ≤ cl2) = false := by simpa using hyl
                  rw [if_neg hyl] at hnx
                  replace hnx : Hid _ := ⟨hnx⟩
                  go_wp2_with fail
                  go_roundw
                  case rel => exact ⟨i + 1, by rw [hnx.out]; go_num, by go_num, by omega, by first | rfl | trivial⟩
                  case measure => simp [intOf]; omega
              · have hie : i = ts.length := by omega
                subst hie
                rw [List.take_of_length_le (Nat.le_refl _), hcn.out]
                rw [List.take_of_length_le (Nat.le_refl _), hcn.out] at hcle
                have hlz : (L2.length : Int) + (D.length : Int) = (L2'.length : Int) := by omega
                clear harow
                go_wp2_with fail
                refine hclk.out.mono ?_
                rintro r w6 ⟨rfl, rfl⟩
                clear hclk
                have htwo := hDw5.out.two
                have hdl : ds.length = L2'.length := by rw [← hds.out]; simp
                rw [← hdl] at hdrow5
                replace htwo : Hid _ := ⟨htwo⟩
                replace hdl : Hid _ := ⟨hdl⟩
                go_wp2_with fail
                go_loopw [18] (fun iv wx => ∃ i : Nat, iv = .int .i64 i ∧ i ≤ L2'.length ∧ Hid (w6.grownBy wx none)) (fun iv _ => L2'.length - (intOf iv).toNat)
                case atStart => exact ⟨0, rfl, by omega, ⟨grown_refl _⟩⟩
                case round =>
                  obtain ⟨i, rfl, hi6, hg6⟩ := hrel
                  by_cases hlt6 : i < L2'.length
                  · have hrowx := hdrow5.out.kept hg6.out (Classical.em _)
                    obtain ⟨y, hy⟩ : ∃ y, ds[i]? = some y := ⟨_, List.getElem?_eq_getElem (by rw [hdl.out]; exact hlt6)⟩
                    have hye : L2'[i]? = some ⟨y.nm, y.at_⟩ := by rw [← hds.out, List.getElem?_map, hy]; rfl
                    obtain ⟨g, c6, e6, q0, q2⟩ := rowT_at hrowx hy
                    rw [hdl.out] at e6
                    simp only [Value.slice.injEq] at e6
                    obtain ⟨rfl, -, rfl⟩ := e6
                    have hyt := htwo.out.2.1 _ (List.mem_of_getElem? hye)
                    have hn1 : i < L2'.length := hlt6
                    have hn2 : (i : Int) < (L2'.length : Int) := by omega
                    have hn3 : (0 : Int) ≤ (i : Int) := by omega
                    have hreg : Hid (∀ (u0 u1 u2 u3 u4 u5 u6 u7 u8 u9 u11 u12 u13 u15 u16 u17 u19 u20 u21 u22 u23 u24 u25 u26 u27 u28 u29 u30 u31 u32 u33 u34 u35 u36 u37 u38 u39 u40 u41 u42 u43 u44 u45 u46 u47 u48 u49 u50 u51 u52 u53 u54 u55 u56 u57 u58 u59 u60 u61 u62 u63 u64 u65 u66 u67 u68 u69 u70 u71 u72 u73 u74 u75 u76 u77 u78 u79 u80 u81 u82 u83 u84 u85 u86 u87 u88 u89 u90 u91 u92 u93 u94 u95 u96 u97 u98 u99 u100 u101 u102 u103 u104 u105 u106 u107 u108 u109 u110 u111 u112 u113 u114 u115 u116 u117 u118 u119 u120 u121 u122 u123 u124 u125 u126 u127 u128 u129 u130 u131 u132 u133 u134 u135 u136 u137 u138 u139 u140 u141 u142 u143 u144 u145 u146 u147 u148 u149 u150 u151 u152 u153 u154 u155 u156 u157 u158 u159 u160 u161 u162 u163 u164 u165 u166 u167 u168 u169 u170 u171 u172 u173 u174 u175 u176 u177 u178 u179 u180 u181 u182 u183 u184 u185 u186 u187 u188 u189 u190 u191 u192 u193 : Value) (Q : Exit → Act → World → Prop), (∀ (pw : Lat _) (v117 v118 v119 v120 v121 v122 v123 v124 v125 v126 v127 v128 v129 v130 v131 v132 v133 v134 v135 v136 v137 v138 v139 v140 v141 v142 v143 v144 v145 v146 v147 v148 v149 v150 v151 v152 v153 v154 v155 v156 v157 v158 v159 v160 v161 v162 v163 v164 v165 v166 v167 v168 : Value), Q .normal ⟨#[u0, u1, u2, u3, u4, u5, u6, u7, u8, u9, .int .u64 cl2, u11, u12, u13, .slice (some ⟨g, 0, none⟩) L2'.length dc, u15, u16, u17, .int .i64 (i : Int), u19, u20, u21, u22, u23, u24, u25, u26, u27, u28, u29, u30, u31, u32, u33, u34, u35, u36, u37, u38, u39, u40, u41, u42, u43, u44, u45, u46, u47, u48, u49, u50, u51, u52, u53, u54, u55, u56, u57, u58, u59, u60, u61, u62, u63, u64, u65, u66, u67, u68, u69, u70, u71, u72, u73, u74, u75, u76, u77, u78, u79, u80, u81, u82, u83, u84, u85, u86, u87, u88, u89, u90, u91, u92, u93, u94, u95, u96, u97, u98, u99, u100, u101, u102, u103, u104, u105, u106, u107, u108, u109, u110, u111, u112, u113, u114, u115, u116, v117, v118, v119, v120, v121, v122, v123, v124, v125, v126, v127, v128, v129, v130, v131, v132, v133, v134, v135, v136, v137, v138, v139, v140, v141, v142, v143, v144, v145, v146, v147, v148, v149, v150, v151, v152, v153, v154, v155, v156, v157, v158, v159, v160, v161, v162, v163, v164, v165, v166, v167, v168, .bool false, u170, u171, u172, u173, u174, u175, u176, u177, u178, u179, u180, u181, u182, u183, u184, u185, u186, u187, u188, u189, u190, u191, u192, u193], []⟩ pw.W) → Code.wp Tryz.prog ((Tryz.f4.body.bind (findR 33)).getD .skip) Q ⟨#[u0, u1, u2, u3, u4, u5, u6, u7, u8, u9, .int .u64 cl2, u11, u12, u13, .slice (some ⟨g, 0, none⟩) L2'.length dc, u15, u16, u17, .int .i64 (i : Int), u19, u20, u21, u22, u23, u24, u25, u26, u27, u28, u29, u30, u31, u32, u33, u34, u35, u36, u37, u38, u39, u40, u41, u42, u43, u44, u45, u46, u47, u48, u49, u50, u51, u52, u53, u54, u55, u56, u57, u58, u59, u60, u61, u62, u63, u64, u65, u66, u67, u68, u69, u70, u71, u72, u73, u74, u75, u76, u77, u78, u79, u80, u81, u82, u83, u84, u85, u86, u87, u88, u89, u90, u91, u92, u93, u94, u95, u96, u97, u98, u99, u100, u101, u102, u103, u104, u105, u106, u107, u108, u109, u110, u111, u112, u113, u114, u115, u116, u117, u118, u119, u120, u121, u122, u123, u124, u125, u126, u127, u128, u129, u130, u131, u132, u133, u134, u135, u136, u137, u138, u139, u140, u141, u142, u143, u144, u145, u146, u147, u148, u149, u150, u151, u152, u153, u154, u155, u156, u157, u158, u159, u160, u161, u162, u163, u164, u165, u166, u167, u168, u169, u170, u171, u172, u173, u174, u175, u176, u177, u178, u179, u180, u181, u182, u183, u184, u185, u186, u187, u188, u189, u190, u191, u192, u193], []⟩ _) := ⟨by
                      intro u0 u1 u2 u3 u4 u5 u6 u7 u8 u9 u11 u12 u13 u15 u16 u17 u19 u20 u21 u22 u23 u24 u25 u26 u27 u28 u29 u30 u31 u32 u33 u34 u35 u36 u37 u38 u39 u40 u41 u42 u43 u44 u45 u46 u47 u48 u49 u50 u51 u52 u53 u54 u55 u56 u57 u58 u59 u60 u61 u62 u63 u64 u65 u66 u67 u68 u69 u70 u71 u72 u73 u74 u75 u76 u77 u78 u79 u80 u81 u82 u83 u84 u85 u86 u87 u88 u89 u90 u91 u92 u93 u94 u95 u96 u97 u98 u99 u100 u101 u102 u103 u104 u105 u106 u107 u108 u109 u110 u111 u112 u113 u114 u115 u116 u117 u118 u119 u120 u121 u122 u123 u124 u125 u126 u127 u128 u129 u130 u131 u132 u133 u134 u135 u136 u137 u138 u139 u140 u141 u142 u143 u144 u145 u146 u147 u148 u149 u150 u151 u152 u153 u154 u155 u156 u157 u158 u159 u160 u161 u162 u163 u164 u165 u166 u167 u168 u169 u170 u171 u172 u173 u174 u175 u176 u177 u178 u179 u180 u181 u182 u183 u184 u185 u186 u187 u188 u189 u190 u191 u192 u193 Q hQ
                      simp only at hyt
                      have f1 : decide (y.at_ > cl2) = false := by simp; omega
                      have f2 : decide (cl2 < y.at_) = false := by simp; omega
                      by_cases hp0 : i = 0
                      · exact reg33a (nm := y.nm) ⟨hn3, hn2⟩ hcle (by simpa using q0) (by simpa using q2) f1 f2 (by simp; omega) (by simp; omega) u0 u1 u2 u3 u4 u5 u6 u7 u8 u9 u11 u12 u13 u15 u16 u17 u19 u20 u21 u22 u23 u24 u25 u26 u27 u28 u29 u30 u31 u32 u33 u34 u35 u36 u37 u38 u39 u40 u41 u42 u43 u44 u45 u46 u47 u48 u49 u50 u51 u52 u53 u54 u55 u56 u57 u58 u59 u60 u61 u62 u63 u64 u65 u66 u67 u68 u69 u70 u71 u72 u73 u74 u75 u76 u77 u78 u79 u80 u81 u82 u83 u84 u85 u86 u87 u88 u89 u90 u91 u92 u93 u94 u95 u96 u97 u98 u99 u100 u101 u102 u103 u104 u105 u106 u107 u108 u109 u110 u111 u112 u113 u114 u115 u116 u117 u118 u119 u120 u121 u122 u123 u124 u125 u126 u127 u128 u129 u130 u131 u132 u133 u134 u135 u136 u137 u138 u139 u140 u141 u142 u143 u144 u145 u146 u147 u148 u149 u150 u151 u152 u153 u154 u155 u156 u157 u158 u159 u160 u161 u162 u163 u164 u165 u166 u167 u168 u169 u170 u171 u172 u173 u174 u175 u176 u177 u178 u179 u180 u181 u182 u183 u184 u185 u186 u187 u188 u189 u190 u191 u192 u193 Q hQ
                      · obtain ⟨z, hz⟩ : ∃ z, ds[i - 1]? = some z := ⟨_, List.getElem?_eq_getElem (by rw [hdl.out]; omega)⟩
                        have hze : L2'[i - 1]? = some ⟨z.nm, z.at_⟩ := by rw [← hds.out, List.getElem?_map, hz]; rfl
                        obtain ⟨g', c', e', k4, k5⟩ := rowT_at hrowx hz
                        simp only [Value.slice.injEq, Option.some.injEq, Addr.mk.injEq] at e'
                        obtain ⟨⟨rfl, -⟩, -⟩ := e'
                        have hlt := List.pairwise_iff_getElem.1 htwo.out.1.up (i - 1) i (by omega) hlt6 (by omega)
                        obtain ⟨_, e1⟩ := List.getElem?_eq_some_iff.1 hze
                        obtain ⟨_, e2⟩ := List.getElem?_eq_some_iff.1 hye
                        rw [e1, e2] at hlt
                        have hpm : (i : Int).toNat = i := by omega
                        rcases lt_saidQ hlt with ⟨_, g1, g2⟩ | ⟨g1, g2, g3⟩
                        · exact reg33b (nm := y.nm) ⟨hn3, hn2⟩ hcle (by simpa using q0) (by simpa using q2) f1 f2 (nm0 := z.nm) (xb := z.at_) (by rw [hpm]; exact k4) (by rw [hpm]; exact k5) (by simp; omega) (by simp; omega) (by omega) g1 g2 u0 u1 u2 u3 u4 u5 u6 u7 u8 u9 u11 u12 u13 u15 u16 u17 u19 u20 u21 u22 u23 u24 u25 u26 u27 u28 u29 u30 u31 u32 u33 u34 u35 u36 u37 u38 u39 u40 u41 u42 u43 u44 u45 u46 u47 u48 u49 u50 u51 u52 u53 u54 u55 u56 u57 u58 u59 u60 u61 u62 u63 u64 u65 u66 u67 u68 u69 u70 u71 u72 u73 u74 u75 u76 u77 u78 u79 u80 u81 u82 u83 u84 u85 u86 u87 u88 u89 u90 u91 u92 u93 u94 u95 u96 u97 u98 u99 u100 u101 u102 u103 u104 u105 u106 u107 u108 u109 u110 u111 u112 u113 u114 u115 u116 u117 u118 u119 u120 u121 u122 u123 u124 u125 u126 u127 u128 u129 u130 u131 u132 u133 u134 u135 u136 u137 u138 u139 u140 u141 u142 u143 u144 u145 u146 u147 u148 u149 u150 u151 u152 u153 u154 u155 u156 u157 u158 u159 u160 u161 u162 u163 u164 u165 u166 u167 u168 u169 u170 u171 u172 u173 u174 u175 u176 u177 u178 u179 u180 u181 u182 u183 u184 u185 u186 u187 u188 u189 u190 u191 u192 u193 Q hQ
                        · exact reg33c (nm := y.nm) ⟨hn3, hn2⟩ hcle (by simpa using q0) (by simpa using q2) f1 f2 (nm0 := z.nm) (xb := z.at_) (by rw [hpm]; exact k4) (by rw [hpm]; exact k5) (by simp; omega) (by simp; omega) (by omega) g1 g2 g3 u0 u1 u2 u3 u4 u5 u6 u7 u8 u9 u11 u12 u13 u15 u16 u17 u19 u20 u21 u22 u23 u24 u25 u26 u27 u28 u29 u30 u31 u32 u33 u34 u35 u36 u37 u38 u39 u40 u41 u42 u43 u44 u45 u46 u47 u48 u49 u50 u51 u52 u53 u54 u55 u56 u57 u58 u59 u60 u61 u62 u63 u64 u65 u66 u67 u68 u69 u70 u71 u72 u73 u74 u75 u76 u77 u78 u79 u80 u81 u82 u83 u84 u85 u86 u87 u88 u89 u90 u91 u92 u93 u94 u95 u96 u97 u98 u99 u100 u101 u102 u103 u104 u105 u106 u107 u108 u109 u110 u111 u112 u113 u114 u115 u116 u117 u118 u119 u120 u121 u122 u123 u124 u125 u126 u127 u128 u129 u130 u131 u132 u133 u134 u135 u136 u137 u138 u139 u140 u141 u142 u143 u144 u145 u146 u147 u148 u149 u150 u151 u152 u153 u154 u155 u156 u157 u158 u159 u160 u161 u162 u163 u164 u165 u166 u167 u168 u169 u170 u171 u172 u173 u174 u175 u176 u177 u178 u179 u180 u181 u182 u183 u184 u185 u186 u187 u188 u189 u190 u191 u192 u193 Q hQ⟩
                    clear hrowx hy hye q0 q2 hyt
                    go_wp2_with fail
                    refine hreg.out _ _ _ _ _ _ _ _ _ _ _ _ _ _ _ _ _ _ _ _ _ _ _ _ _ _ _ _ _ _ _ _ _ _ _ _ _ _ _ _ _ _ _ _ _ _ _ _ _ _ _ _ _ _ _ _ _ _ _ _ _ _ _ _ _ _ _ _ _ _ _ _ _ _ _ _ _ _ _ _ _ _ _ _ _ _ _ _ _ _ _ _ _ _ _ _ _ _ _ _ _ _ _ _ _ _ _ _ _ _ _ _ _ _ _ _ _ _ _ _ _ _ _ _ _ _ _ _ _ _ _ _ _ _ _ _ _ _ _ _ _ _ _ _ _ _ _ _ _ _ _ _ _ _ _ _ _ _ _ _ _ _ _ _ _ _ _ _ _ _ _ _ _ _ _ _ _ _ _ _ _ _ _ _ _ _ _ _ _ _ _ _ ?_
                    clear hreg
                    intro pw v117 v118 v119 v120 v121 v122 v123 v124 v125 v126 v127 v128 v129 v130 v131 v132 v133 v134 v135 v136 v137 v138 v139 v140 v141 v142 v143 v144 v145 v146 v147 v148 v149 v150 v151 v152 v153 v154 v155 v156 v157 v158 v159 v160 v161 v162 v163 v164 v165 v166 v167 v168
                    have hg7 : Hid (w6.grownBy pw.W none) := ⟨grown_none hg6.out pw.h⟩
                    clear hg6
                    go_wp2_with fail
                    go_roundw
                    case rel => exact ⟨i + 1, by go_num, by omega, hg7⟩
                    case measure => simp [intOf]; omega
                  · have hie : i = L2'.length := by omega
                    have hnl : ¬ (L2'.length < L2'.length) := by omega
                    have hdn : decide ((L2'.length : Int) < L2'.length) = false := by simp
                    subst hie
                    clear hdrow5 hds hdl
                    go_wp2_with fail
                    go_loopw [19] (fun iv wx => ∃ i : Nat, iv = .int .i64 i ∧ i ≤ D.length ∧ Hid (w6.grownBy wx none)) (fun iv _ => D.length - (intOf iv).toNat)
                    case atStart => exact ⟨0, rfl, by omega, hg6⟩
                    case round =>
                      clear hg6
                      obtain ⟨i, rfl, hi7, hg6⟩ := hrel
                      by_cases hlt7 : i < D.length
                      · obtain ⟨e, he⟩ : ∃ e, D[i]? = some e := ⟨_, List.getElem?_eq_getElem hlt7⟩
                        obtain ⟨x, hxM, hxn, hxt⟩ := hfro.out e (List.mem_of_getElem? he)
                        obtain ⟨g, c7, e7, q0⟩ := rowN_at (hrow5.out.kept hg6.out (Classical.em _)) he
                        simp only [Value.slice.injEq] at e7
                        obtain ⟨rfl, -, rfl⟩ := e7
                        rw [← hxn] at q0
                        have hge := get_m (hDw5.out.keep hg6.out) hxM
                        obtain ⟨nm, vr, at_, ev, sv, xs⟩ := x
                        simp only at q0 hge hxt
                        replace hge : Hid _ := ⟨hge⟩
                        have hn1 : i < D.length := hlt7
                        have hn2 : (i : Int) < (D.length : Int) := by omega
                        have hn3 : (0 : Int) ≤ (i : Int) := by omega
                        have f1 : decide (at_ > cl2) = false := by simp; omega
                        have f2 : decide (cl2 < at_) = false := by simp; omega
                        clear he hxM hxn
                        go_wp2_with fail
                        refine hge.out.mono ?_
                        rintro r w8 ⟨hg8, sa, sc, rfl⟩
                        have hga8 := World.grownBy_alloc w8 zT none
                        have hb8 : (w8.alloc zT).heap[w8.heap.size]? = some (.cells #[.string ⟨#[]⟩, .int .i64 0, .int .u64 0, .int .u64 0, .slice none 0 0] 32 (0, 0)) := World.alloc_heap_new w8 _
                        replace hg8 : Hid _ := ⟨grown_none hg6.out hg8⟩
                        replace hga8 : Hid _ := ⟨hga8⟩
                        clear hge hg6
                        go_wp2_with (refine wpList_store5 rfl _ _ rfl rfl w8.heap.size #[.string nm, .int .i64 vr, .int .u64 at_, .int .u64 ev, .slice sa xs.length sc] rfl rfl hb8 rfl rfl rfl ?_; intro w9 hb9 hg9; obtain ⟨c0, c1, c2, c3, c4, f0⟩ := own_five hb9; clear hb8)
                        have hg10 : Hid (w6.grownBy w9 none) := ⟨grown_none hg8.out (grown_new hga8.out hg9 (Nat.le_refl _))⟩
                        clear hg8 hga8 hg9 hb9
                        go_roundw
                        case rel => exact ⟨i + 1, by go_num, by omega, hg10⟩
                        case measure => simp [intOf]; omega
                      · have hie : i = D.length := by omega
                        have hend : Hid (∃ M L1 L2, Dw U0 _ (fun _ => False) n0 n1 tb cl2 M L1 L2 ∧ M.length ≤ 40) := ⟨M, _, _, (hDw5.out.keep hg6.out).mono (fun _ e => e.elim), hM.out⟩
                        clear hDw5 hrow5 hfro htwo hM
                        go_wp2_with fail
                        go_roundw
                        case rel => exact ⟨k + 1, cl2, rfl, by go_num, by omega, hcl2, hend⟩
                        case measure => simp [intOf]; omega
        · have hdk : decide ((k : Int) < 2) = false := by simp; omega
          have hal := alive_any wr (hDw.dr hD.out)
          have hbel := hDw.below
          replace hbel : Hid _ := ⟨hbel⟩
          replace hal : Hid _ := ⟨hal⟩
          clear hR hDw
          go_wp2_with fail
          refine hal.out.mono ?_
          rintro r w2 ⟨rfl, hg⟩
          have hfin : Hid _ := ⟨hbel.out.grown hg (by have := hbel.out.size; omega) (by simp)⟩
          clear hal hbel hg
          go_wp2
          go_ret
          exact ⟨rfl, hfin.out⟩
end Go.Proofs.YtblnhcnfeagjhaaGreatDoor
