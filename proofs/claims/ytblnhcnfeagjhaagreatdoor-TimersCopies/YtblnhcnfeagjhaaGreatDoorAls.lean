/- Table.All. -/
import Derived.Test.YtblnhcnfeagjhaaGreatDoorALa
namespace Go.Proofs.YtblnhcnfeagjhaaGreatDoor
open Go.RowKit Go.IntWalk Go.Maps Go.Shelf
open Go.Proofs (encStr)
set_option linter.unusedVariables false
/-- A timer appended to a row of one's own. -/
theorem wpList_app_t {ops : Array Oper} {rest : List Oper} {o : Oper} {a : Act} {w : World} {Q : Exit → Act → World → Prop} (hgd : o.guard = none) (sl x : Operand) (hop : o.op = Op.call { callee := Callee.builtin Builtin.append, args := #[sl, x], argTypes := #[27, 27] })
    {base : Nat} {v : Value} {ts : List Tmr} (y : Tmr) {xa : Option Addr} {xl xc : Nat} (hv : y.v = .slice xa xl xc) (hs : a.eval sl = v) (hx : a.eval x = .slice (some ⟨w.heap.size, 0, none⟩) 1 1) (hown : w.ownsRow base 32 5 v ts.length (cellsT ts)) (hl : ts.length ≤ 100000) (hb : base ≤ w.heap.size)
    (hK : ∀ na nc w', w'.ownsRow base 32 5 (.slice na (ts.length + 1) nc) (ts.length + 1) (cellsT (ts ++ [y])) → w.grownBy w' v.ownBlock → ((Value.slice na (ts.length + 1) nc).ownBlock = v.ownBlock ∨ ∃ k, (Value.slice na (ts.length + 1) nc).ownBlock = some k ∧ w.heap.size ≤ k) → wpList Tryz.prog ops Q rest (a.put o.dst (.slice na (ts.length + 1) nc)) w') :
    wpList Tryz.prog ops Q (o :: rest) a (w.alloc (.cells y.cells.toArray 32)) := by
  refine wpList_plain hgd fun K hK2 => ?_
  obtain ⟨v', w', hrun, h1, h2, h4⟩ := app_t w y hv hown hl hb o.type
  rw [List.length_append] at h1
  obtain ⟨na, nc, rfl⟩ := own_shape h1
  unfold Oper.wp execOp
  simp only [hop, resolve, invoke, builtin, Sem.run_bind, Sem.run_pure, Result.andThen_ok, List.map_toArray, List.map_cons, List.map_nil, hs, hx, hrun]
  exact hK2 _ _ (hK na nc w' h1 h2 h4)
theorem grown_row {w w1 w2 : World} {r : Option Nat} (h : w.grownBy w1 none) (hg : w1.grownBy w2 r) (hr : ∀ k, r = some k → w.heap.size ≤ k) : w.grownBy w2 none :=
  ⟨hg.os.trans h.os, hg.tape.trans h.tape, hg.output.trans h.output, Nat.le_trans h.size hg.size, fun k hk _ => (hg.block k (Nat.lt_of_lt_of_le hk h.size) fun e => by have := hr k e.symm; omega).trans (h.block k hk (by simp))⟩
/-- The loop of All: timers that were copied, the row that grows, the names. -/
def AlS (w2 wr : World) (M : List Tmr) (N : List (List UInt8)) (nvn : Value) (na : Option Addr) (i nc : Nat) : Prop :=
  w2.grownBy wr none ∧ ∃ ts : List Tmr, ts.length = i ∧ ts.map (fun y => y.nm.data.toList) = N.take i ∧
    (∀ y ∈ ts, (∃ x ∈ M, y = { x with v := y.v }) ∧ Sps wr.heap.size wr y.v y.xs ∧ ∀ k, y.v.ownBlock = some k → (w2.heap.size ≤ k ∧ k < wr.heap.size) ∧ (Value.slice na i nc).ownBlock ≠ some k) ∧
    wr.ownsRow w2.heap.size 32 5 (.slice na i nc) i (cellsT ts)
/-- What a list of timers is, told by All. -/
structure AllT (w w' : World) (M : List Tmr) (v : Value) (ts : List Tmr) : Prop where
  row : w'.ownsRow w.heap.size 32 5 v ts.length (cellsT ts)
  ord : (ts.map fun y => y.nm.data.toList).Pairwise (· < ·)
  fro : ∀ y ∈ ts, (∃ x ∈ M, y = { x with v := y.v }) ∧ Sps w'.heap.size w' y.v y.xs ∧ ∀ k, y.v.ownBlock = some k → (w.heap.size ≤ k ∧ k < w'.heap.size) ∧ v.ownBlock ≠ some k
  to : ∀ x ∈ M, ∃ y ∈ ts, y = { x with v := y.v }
set_option maxRecDepth 100000 in
set_option maxHeartbeats 4000000 in
theorem all_t (w : World) {S : Nat → Prop} {tb : Nat} {now : Int} {M : List Tmr} {L1 : List W.E} {L2 : List Q.E} (h : Tab S w tb now M L1 L2) :
    Calls Tryz.prog 26 #[ptr tb] w fun r w' => ∃ v ts, r = .returned v ∧ AllT w w' M v ts ∧ w.grownBy w' none := by
  obtain ⟨mb, wb, qb, S1, S2, hT, hfp, hI⟩ := h
  have b0 : w.cell? ⟨tb, 0, none⟩ = some (.map (some mb)) := by simp [World.cell?, hT.blk]
  obtain ⟨D, hM, hP⟩ := hT.tm
  have hsz := hP.size
  have hlen := hI.len
  have hso := sortedK mb _ D tElem w hM (by unfold maxLen; omega) (by omega)
  have hgk := World.grownBy_alloc w (.cells #[.map (some mb)] 68) none
  have hT' : Hid _ := ⟨hT⟩
  have hI' : Hid _ := ⟨hI⟩
  have hMP : Hid (MpT w mb D ∧ PlT D M) := ⟨hM, hP⟩
  replace hgk : Hid _ := ⟨hgk⟩
  replace hso : Hid _ := ⟨hso⟩
  clear hM hP hT hI hfp
  have hky := keysK (some mb) w
  replace hky : Hid _ := ⟨hky⟩
  go_enter Tryz.func26, Tryz.ntmps26
  go_wp2_with fail
  refine hky.out.mono ?_
  rintro e w1 ⟨rfl, rfl⟩
  go_wp2_with fail
  refine hso.out.mono ?_
  rintro e w2 ⟨nv, ss, rfl, hS, hrow, hnil, hbl⟩
  have hN := names_ok hMP.out.1 hMP.out.2 hS
  have hg2 : w.grownBy w2 none := grown_none hgk.out ⟨hbl.os, hbl.tape, hbl.output, hbl.size, fun k hk _ => hbl.block k hk⟩
  obtain ⟨ga, gc, rfl⟩ := own_shape hrow
  obtain ⟨N, hNe⟩ : ∃ N, N = ss.mergeSort (fun x y => decide (x ≤ y)) := ⟨_, rfl⟩
  rw [← hNe] at hN hrow
  have hNl : ss.length = N.length := by rw [hNe, List.length_mergeSort]
  rw [hNl] at hrow ⊢
  have hNM : N.length ≤ 10000 := by
    have := List.Nodup.length_le_of_subset (l₁ := N) (hN.ord.imp fun {a b} h e => by subst e; exact List.lt_irrefl _ h) (l₂ := M.map fun x => x.nm.data.toList) fun n hn => by
      obtain ⟨x, hx, rfl⟩ := hN.fro n hn
      exact List.mem_map.2 ⟨x, hx, rfl⟩
    simp at this
    omega
  have hst2 : Hid (AlS w2 w2 M N (.slice ga N.length gc) none 0 0) := ⟨grown_refl _, [], rfl, rfl, by simp, by simpa [cellsT] using World.ownsRow_nil _ w2.heap.size 32 5⟩
  replace hN : Hid _ := ⟨hN⟩
  replace hrow : Hid _ := ⟨hrow⟩
  replace hg2 : Hid _ := ⟨hg2⟩
  clear hky hso hbl hnil hS hgk hNe hNl
  go_wp2_with fail
  go_loopw [3, 15] (fun nv iv wr => ∃ (i : Nat) (na : Option Addr) (nc : Nat), nv = .slice na i nc ∧ iv = .int .i64 i ∧ i ≤ N.length ∧ Hid (AlS w2 wr M N (.slice ga N.length gc) na i nc)) (fun _ iv _ => N.length - (intOf iv).toNat)
  case atStart => exact ⟨0, none, 0, rfl, rfl, by omega, hst2⟩
  case round =>
    clear hst2
    obtain ⟨i, na, nc, rfl, rfl, hi, hR⟩ := hrel
    by_cases hlt2 : i < N.length
    · have hdi : decide ((i : Int) < N.length) = true := by simp; omega
      obtain ⟨n, hn⟩ : ∃ n, N[i]? = some n := ⟨_, List.getElem?_eq_getElem hlt2⟩
      obtain ⟨x, hxM, hxn⟩ := hN.out.fro n (List.mem_of_getElem? hn)
      obtain ⟨hgr, ts, htl, htm, htM, hts⟩ := hR.out
      have hxr := (tR_iff x).1 (hI'.out.ok x hxM).2
      have hxl : x.xs.length ≤ 100000 := by
        have := hxr.2.2.2.2
        unfold wrE at this
        split at this <;> omega
      have hTr : Tb wr tb mb wb qb S1 S2 now M L1 L2 := hT'.out.keep (grown_none hg2.out hgr)
      obtain ⟨g, hga⟩ : ∃ g, ga = some ⟨g, 0, none⟩ := by
        rcases id hrow.out.2 with ⟨h1, h2⟩ | ⟨g, cap, cur, h1, _⟩
        · simp at h1
          omega
        · simp at h1
          exact ⟨g, h1.1⟩
      subst hga
      have hgl := (hrow.out.lt g rfl).2
      have k0 : wr.cell? ⟨g, i, none⟩ = some (.string x.nm) := by
        have h1 := hrow.out.cells (g := g) rfl i (.string x.nm) (by rw [List.getElem?_map, hn, ← hxn]; simp [encStr])
        rw [addr_add, Nat.zero_add] at h1
        exact (World.cell?_of_block (hgr.block g hgl (by simp))).trans h1
      have hsof : ∀ w', wr.grownBy w' (Value.slice na i nc).ownBlock → (w'.cell? ⟨tb, 0, none⟩ = some (.map (some mb)) ∧ (Instr.lookup 68 (.map (some mb)) (.string x.nm) false).run Tryz.prog w' = .ok x.val w') := fun w' hg => by
        have hne : ∀ k, k < w2.heap.size → (Value.slice na i nc).ownBlock ≠ some k := fun k hk e => by have := (hts.lt k e).1; omega
        have h2s := hg2.out.size
        have htb := hT'.out.lt
        have hmb := hT'.out.tm.lt
        have hM' := hTr.tm.kept (hg.block mb hTr.tm.lt (fun e => hne mb (by omega) e.symm))
        refine ⟨by simp [World.cell?, hg.block tb hTr.lt (fun e => hne tb (by omega) e.symm), hTr.blk], ?_⟩
        rcases hM'.look (n := x.nm) (by have := hxr; unfold maxLen; omega) with ⟨y, hy, hyn, _, h1⟩ | ⟨hno, _⟩
        · have := hTr.tm.un hxM hy hyn.symm
          subst this
          exact h1
        · exact absurd rfl (hno _ hxM)
      obtain ⟨nm, vr, a, ev, v, xs⟩ := x
      simp only [Tmr.val] at k0 hsof hxl hxn
      have hp8 := hsof wr ((grown_refl wr).but _)
      have hap : Hid (∀ w', wr.grownBy w' none → Calls Tryz.prog 38 #[.agg #[.string nm, .int .i64 vr, .int .u64 a, .int .u64 ev, v]] w' fun r w6 => ∃ va vc, r = .returned (.agg #[.string nm, .int .i64 vr, .int .u64 a, .int .u64 ev, .slice va xs.length vc]) ∧ Hid (wr.grownBy w6 none ∧ Sps w6.heap.size w6 (.slice va xs.length vc) xs ∧ ∀ k, (Value.slice va xs.length vc).ownBlock = some k → wr.heap.size ≤ k ∧ k < w6.heap.size) ∧ (w6.cell? ⟨tb, 0, none⟩ = some (.map (some mb)) ∧ (Instr.lookup 68 (.map (some mb)) (.string nm) false).run Tryz.prog w6 = .ok (.agg #[.string nm, .int .i64 vr, .int .u64 a, .int .u64 ev, v]) w6)) := ⟨fun w' hg => by
        refine (apart_any w' ⟨nm, vr, a, ev, v, xs⟩ (((hTr.sp _ hxM).1.keep hg (Nat.le_refl _)).up hg.size) hxl).mono ?_
        rintro r w6 ⟨v', rfl, hs6, hn6, hg6⟩
        obtain ⟨va, vc, rfl, _⟩ := hs6.shape
        have := hg.size
        exact ⟨va, vc, rfl, ⟨grown_none hg hg6, hs6, fun k hk => ⟨by have := (hn6 k hk).1; omega, (hn6 k hk).2⟩⟩, hsof w6 ((grown_none hg hg6).but _)⟩⟩
      have hrw6 : Hid (∀ w6, wr.grownBy w6 none → w6.ownsRow w2.heap.size 32 5 (.slice na i nc) ts.length (cellsT ts) ∧ w2.heap.size ≤ w6.heap.size) := ⟨fun w6 hg => ⟨by rw [htl]; exact hts.kept hg (Classical.em _), by have := hg.size; have := hgr.size; omega⟩⟩
      have hsofH : Hid _ := ⟨hsof⟩
      have hrest : Hid (ts.map (fun y => y.nm.data.toList) = N.take i ∧ (∀ y ∈ ts, (∃ x ∈ M, y = { x with v := y.v }) ∧ Sps wr.heap.size wr y.v y.xs ∧ ∀ k, y.v.ownBlock = some k → (w2.heap.size ≤ k ∧ k < wr.heap.size) ∧ (Value.slice na i nc).ownBlock ≠ some k) ∧ w2.grownBy wr none) := ⟨htm, htM, hgr⟩
      have hlen' : ts.length ≤ 100000 := by omega
      have htsl : Hid (ts.length = i) := ⟨htl⟩
      have hnH : Hid (N[i]? = some n ∧ nm.data.toList = n) := ⟨hn, hxn⟩
      obtain ⟨p0, p1⟩ := hp8
      have hn1 : i < N.length := hlt2
      have hn2 : (i : Int) < (N.length : Int) := by omega
      have hn3 : (0 : Int) ≤ (i : Int) := by omega
      have hxMH : Hid _ := ⟨hxM⟩
      clear hsof hR hgr htm htM hts hTr hgl hxr hn hxn htl hxM
      have hap0 := hap.out _ (grown_refl wr)
      replace hap0 : Hid _ := ⟨hap0⟩
      go_wp2_with fail
      refine hap0.out.mono ?_
      rintro e w6 ⟨va, vc, rfl, hg6, hkp⟩
      clear hap0 hap hkp p0 p1
      go_wp2_with (at_builtin; refine wpList_app_t rfl _ _ rfl ⟨nm, vr, a, ev, .slice va xs.length vc, xs⟩ rfl (by rfl) (by rfl) (hrw6.out _ hg6.out.1).1 hlen' (hrw6.out _ hg6.out.1).2 ?_)
      intro na' nc' w8 hr8 hg8 ho8
      rw [htsl.out] at hr8 ho8
      have hnext : Hid (AlS w2 w8 M N (.slice (some ⟨g, 0, none⟩) N.length gc) na' (i + 1) nc') := ⟨by
        obtain ⟨htm, htM, hgr⟩ := hrest.out
        obtain ⟨hg6, hs6, hn6⟩ := hg6.out
        have hts := (hrw6.out _ (grown_refl _)).1
        have hs1 := hgr.size
        have hs2 := hg6.size
        have hs3 := hg8.size
        have hnvl : ∀ k, (Value.slice na i nc).ownBlock = some k → w2.heap.size ≤ k ∧ k < wr.heap.size := fun k hk => hts.lt k hk
        have hnew : ∀ k, k < w6.heap.size → (Value.slice na i nc).ownBlock ≠ some k → (Value.slice na' (i + 1) nc').ownBlock ≠ some k := fun k hk hne e => by
          rcases ho8 with ho | ⟨k', hk', hl⟩
          · exact hne (ho ▸ e)
          · rw [hk'] at e
            cases e
            omega
        refine ⟨grown_row (grown_none hgr hg6) hg8 fun k hk => (hnvl k hk).1, ts ++ [⟨nm, vr, a, ev, .slice va xs.length vc, xs⟩], by simp [htsl.out], ?_, ?_, hr8⟩
        · rw [List.map_append, htm, List.take_add_one, hnH.out.1, ← hnH.out.2]
          rfl
        · intro y hy
          rcases List.mem_append.1 hy with hy | hy
          · obtain ⟨h1, h2, h3⟩ := htM y hy
            refine ⟨h1, ((h2.kept fun k hk hl => ?_).up (by omega)), fun k hk => ?_⟩
            · exact (hg8.block k (by omega) fun e => (h3 k hk).2 e.symm).trans (hg6.block k hl (by simp))
            · have h4 := h3 k hk
              exact ⟨⟨h4.1.1, by omega⟩, hnew k (by omega) h4.2⟩
          · rw [List.mem_singleton] at hy
            subst hy
            have hne : ∀ k, (Value.slice va xs.length vc).ownBlock = some k → (Value.slice na i nc).ownBlock ≠ some k := fun k hk e => by
              have h1 := (hn6 k hk).1
              have h2 := (hnvl k e).2
              omega
            refine ⟨⟨_, hxMH.out, rfl⟩, ((hs6.kept fun k hk hl => ?_).up (by omega)), fun k hk => ?_⟩
            · exact hg8.block k hl fun e => hne k hk e.symm
            · have h1 := hn6 k hk
              exact ⟨⟨by omega, by omega⟩, hnew k h1.2 (hne k hk)⟩⟩
      have htl := htsl.out
      clear hrw6 hsofH hr8 hg8 ho8
      go_wp2_with fail
      exact ⟨⟨i + 1, na', nc', by go_num, by go_num, by omega, hnext⟩, by simp [intOf] <;> omega⟩
    · have hdi : decide ((i : Int) < N.length) = false := by simp; omega
      have hie : i = N.length := by omega
      subst hie
      go_wp2
      go_ret
      obtain ⟨hgr, ts, htl, htm, htM, hts⟩ := hR.out
      rw [List.take_of_length_le (Nat.le_refl _)] at htm
      have hs1 := hg2.out.size
      refine ⟨_, ts, rfl, ⟨by rw [htl]; exact ownsRow_base_a hts hs1, by rw [htm]; exact hN.out.ord, fun y hy => ?_, fun x hx => ?_⟩, grown_none hg2.out hgr⟩
      · obtain ⟨h1, h2, h3⟩ := htM y hy
        exact ⟨h1, h2, fun k hk => ⟨⟨by have := (h3 k hk).1.1; omega, (h3 k hk).1.2⟩, (h3 k hk).2⟩⟩
      · have h1 := hN.out.to x hx
        rw [← htm] at h1
        obtain ⟨y, hy, hyn⟩ := List.mem_map.1 h1
        obtain ⟨x2, hx2, hxe⟩ := (htM y hy).1
        have h2 : x2.nm = x.nm := by
          have : y.nm = x2.nm := by rw [hxe]
          rw [← this]
          exact ba_list hyn
        have h3 := hT'.out.tm.un hx2 hx h2
        subst h3
        exact ⟨y, hy, hxe⟩
end Go.Proofs.YtblnhcnfeagjhaaGreatDoor
