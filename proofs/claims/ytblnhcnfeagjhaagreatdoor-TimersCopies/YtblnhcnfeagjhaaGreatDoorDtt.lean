/- Table.Due, with the steps of what is due. -/
import Derived.Test.YtblnhcnfeagjhaaGreatDoorLqs
namespace Go.Proofs.YtblnhcnfeagjhaaGreatDoor
open Go.RowKit Go.IntWalk Go.Maps Go.Shelf
set_option linter.unusedVariables false
/-- The loop of Due. -/
def stY (ts : List Tmr) (k : Nat) : Prop := ∃ y ∈ ts, y.v.ownBlock = some k
def DuF (w wr : World) (S : Nat → Prop) (tb mb wb qb : Nat) (S1 : Nat → Prop) (now : Int) (M : List Tmr) (L1 : List W.E) (L2 : List Q.E) (dv : Value) (na : Option Addr) (i nc : Nat) : Prop :=
  ∃ ts : List Tmr, Lq (stY ts) w wr S tb mb wb qb S1 now M L1 (L2.take i) dv (.slice na i nc) ∧ Q.Rw 91 wr dv L2 ∧ ts.length = i ∧ ts.map (fun x => (⟨x.nm, x.at_⟩ : Q.E)) = L2.take i ∧ (∀ y ∈ ts, (∃ x ∈ M, y = { x with v := y.v }) ∧ Sps wr.heap.size wr y.v y.xs) ∧ wr.ownsRow w.heap.size 32 5 (.slice na i nc) i (cellsT ts)
set_option maxRecDepth 100000 in
set_option maxHeartbeats 4000000 in
theorem due_f (w : World) {S : Nat → Prop} {tb : Nat} {now : Int} {M : List Tmr} {L1 : List W.E} {L2 : List Q.E} (h : Tab S w tb now M L1 L2) (hS : ∀ k, S k → k < w.heap.size) :
    Calls Tryz.prog 25 #[ptr tb] w fun r w' => ∃ v ts, r = .returned v ∧ w'.ownsRow w.heap.size 32 5 v ts.length (cellsT ts) ∧ ts.map (fun x => (⟨x.nm, x.at_⟩ : Q.E)) = L2 ∧ (∀ y ∈ ts, (∃ x ∈ M, y = { x with v := y.v }) ∧ Sps w'.heap.size w' y.v y.xs) ∧ Tab (fun k => (Gw S w w' k ∧ v.ownBlock ≠ some k) ∧ ¬ stY ts k) w' tb now M L1 L2 ∧ Kp S w w' ∧ ∀ k, stY ts k → (w.heap.size ≤ k ∧ k < w'.heap.size) ∧ v.ownBlock ≠ some k := by
  have hTab : Hid _ := ⟨h⟩
  obtain ⟨mb, wb, qb, S1, S2, hT, hfp, hI⟩ := h
  have b2 : w.cell? ⟨tb, 2, none⟩ = some (ptr qb) := by simp [World.cell?, hT.blk]
  have hqs := hT.qu.srt
  have hl2 := hI.l2 hqs
  have hle : ∀ e ∈ L2, e.at_ ≤ now := fun e he => by
    obtain ⟨x, _, h1, rfl⟩ := (hI.d e).1 he
    exact h1
  obtain ⟨htk, hdr⟩ := Q.tk_split (now := now) (L := L2) (T := L2) (M := []) (by simp) hle (fun _ _ e => by cases e)
  have hck : Hid (∀ w', w.grownBy w' none → Calls Tryz.prog 27 #[ptr tb] w' fun r w5 => r = .returned (.int .u64 now) ∧ w5 = w') := ⟨fun w' hg => clock_t w' (hTab.out.keep hg)⟩
  have hdu : Hid (∀ w', w.grownBy w' none → Calls Tryz.prog 51 #[ptr qb, .int .u64 now] w' fun r w5 => ∃ da dc, r = .returned (.slice da L2.length dc) ∧ Hid (Lq (fun _ => False) w w5 S tb mb wb qb S1 now M L1 [] (.slice da L2.length dc) (.slice none 0 0) ∧ Q.Rw 91 w5 (.slice da L2.length dc) L2) ∧ w5.cell? ⟨tb, 2, none⟩ = some (ptr qb)) := ⟨fun w' hg => by
    have hT2 := hT.keep hg
    refine (Q.due_any w' hT2.qu (fun k hk => (hT2.s2 k hk).1) now).mono ?_
    rintro r w5 ⟨v, rfl, hrw, hdn, hq, hK⟩
    rw [htk] at hrw
    rw [hdr] at hq
    obtain ⟨da, dc, rfl⟩ := hrw.shape
    have hTq := (hT2.queue hK (hq.mono fun k hk => hk.1)).shrink (fun k hk => hk.1) hq
    have hgs := hg.size
    have hks := hK.size
    refine ⟨da, dc, rfl, ⟨⟨⟨_, hTq, fun k hk => ?_, fun k hk e => e.2 hk, fun k hk => by simp [Value.ownBlock] at hk, fun k hk => hk.elim⟩, ?_, fun k hk => hfp k (hk.imp id fun hk => hk.imp id fun hk => hk.imp id fun hk => .inr (hk.elim (fun e => e.elim) id)), hS, fun k hk => ⟨Nat.le_trans hgs (hdn k hk), (hrw.lt k hk).2⟩, fun k hk => by simp [Value.ownBlock] at hk, fun k _ e => by simp [Value.ownBlock] at e, fun k hk => hk.elim, fun k hk => hk.elim⟩, hrw⟩, by simp [World.cell?, hTq.blk]⟩
    · rcases hk.1 with e | e
      · exact .inl (hfp k (.inr (.inr (.inr (.inl e)))))
      · exact .inr ⟨by omega, e.2⟩
    · exact (Kp.of0 (C := S) hg).trans (kpQ hK) (fun k _ hk => hfp k (.inr (.inr (.inr (.inl hk)))))⟩
  replace hT : Hid _ := ⟨hT⟩
  replace hI : Hid _ := ⟨hI⟩
  replace hqs : Hid _ := ⟨hqs⟩
  clear hfp htk hdr hle
  go_enter Tryz.func25, Tryz.ntmps25
  go_wp2_with fail
  go_region_held3 (fun w' => w'.cell? ⟨tb, 2, none⟩ = some (ptr qb))
    (first
      | go_keep
      | exact hkp)
    (first
      | (go_at_call 27
         refine (hck.out _ (grown_drew _)).mono ?_
         rintro e w5 ⟨rfl, rfl⟩)
      | (go_at_call 51
         refine (hdu.out _ (grown_drew _)).mono ?_
         rintro e w5 ⟨da, dc, rfl, hst, hkp⟩))
  have hst2 : Hid (DuF w w5 S tb mb wb qb S1 now M L1 L2 (.slice da L2.length dc) none 0 0) := ⟨⟨[], hst.out.1.more fun _ _ _ k hk => by (obtain ⟨y, hy, _⟩ := hk; simp at hy), hst.out.2, rfl, rfl, by simp, by simpa [cellsT] using World.ownsRow_nil _ w.heap.size 32 5⟩⟩
  clear hst hkp hck hdu b2
  go_wp2_with fail
  go_loopw [3, 16] (fun nv iv wr => ∃ (i : Nat) (na : Option Addr) (nc : Nat), nv = .slice na i nc ∧ iv = .int .i64 i ∧ i ≤ L2.length ∧ Hid (DuF w wr S tb mb wb qb S1 now M L1 L2 (.slice da L2.length dc) na i nc)) (fun _ iv _ => L2.length - (intOf iv).toNat)
  case atStart => exact ⟨0, none, 0, rfl, rfl, by omega, hst2⟩
  case round =>
    clear hst2
    obtain ⟨i, na, nc, rfl, rfl, hi, hR⟩ := hrel
    by_cases hlt2 : i < L2.length
    · have hdi : decide ((i : Int) < L2.length) = true := by simp; omega
      obtain ⟨e, he⟩ : ∃ e, L2[i]? = some e := ⟨_, List.getElem?_eq_getElem hlt2⟩
      obtain ⟨ts, hLp, hrw, htl, htm, htM, hts⟩ := hR.out
      obtain ⟨g, rfl, hgl, -, k0, k1, -⟩ := hrw.at he
      have htp := take_put hqs.out he
      obtain ⟨x, hxM, hx1, hxe⟩ := (hI.out.d e).1 (List.mem_of_getElem? he)
      subst hxe
      have hxr := (tR_iff x).1 (hI.out.ok x hxM).2
      have hx0 := (hI.out.ok x hxM).1
      have hxl : x.xs.length ≤ 100000 := by
        have := hxr.2.2.2.2
        unfold wrE at this
        split at this <;> omega
      obtain ⟨nm, vr, a, ev, v, xs⟩ := x
      simp only at k0 k1 hx1 hxr hx0 hxl htp
      have hga := World.grownBy_alloc wr (.cells #[.string nm, .int .u64 a] 91) none
      have b02 : (wr.alloc (.cells #[.string nm, .int .u64 a] 91)).cell? ⟨tb, 0, none⟩ = some (.map (some mb)) ∧ (wr.alloc (.cells #[.string nm, .int .u64 a] 91)).cell? ⟨tb, 2, none⟩ = some (ptr qb) := by
        obtain ⟨S2', hTb, _⟩ := hLp.ex
        exact ⟨by simp [World.cell?, (hTb.keep hga).blk], by simp [World.cell?, (hTb.keep hga).blk]⟩
      obtain ⟨b0, b2⟩ := b02
      have q0 : (wr.alloc (.cells #[.string nm, .int .u64 a] 91)).cell? ⟨wr.heap.size, 0, none⟩ = some (.string nm) := cell_new wr _ 91 (i := 0) rfl
      have q1 : (wr.alloc (.cells #[.string nm, .int .u64 a] 91)).cell? ⟨wr.heap.size, 1, none⟩ = some (.int .u64 a) := cell_new wr _ 91 (i := 1) rfl
      have hput : Hid (∀ w', (wr.alloc (.cells #[.string nm, .int .u64 a] 91)).grownBy w' none → Calls Tryz.prog 46 #[ptr qb, .string nm, .int .u64 a] w' fun r w5 => (∃ b, r = .returned (.bool b)) ∧ Hid (Lq (stY ts) w w5 S tb mb wb qb S1 now M L1 (L2.take (i + 1)) (.slice (some ⟨g, 0, none⟩) L2.length dc) (.slice na i nc) ∧ Q.Rw 91 w5 (.slice (some ⟨g, 0, none⟩) L2.length dc) L2 ∧ w5.ownsRow w.heap.size 32 5 (.slice na i nc) i (cellsT ts) ∧ wr.heap.size < w5.heap.size ∧ (∀ k, (Value.slice na i nc).ownBlock = some k → k ≠ wr.heap.size) ∧ (∀ y ∈ ts, Sps w5.heap.size w5 y.v y.xs)) ∧
          (w5.cell? ⟨tb, 2, none⟩ = some (ptr qb) ∧ w5.cell? ⟨wr.heap.size, 0, none⟩ = some (.string nm) ∧ w5.cell? ⟨wr.heap.size, 1, none⟩ = some (.int .u64 a))) := ⟨fun w' hg => by
        have hgg := grown_none hga hg
        refine (hLp.put hgg nm a (by unfold maxLen; omega) ⟨hx0.1, by omega⟩ (by simp; omega)).mono ?_
        rintro r w5 ⟨hr, h5, h6⟩
        have hsz := hg.size
        simp at hsz
        have hwl5 : wr.heap.size ≤ w5.heap.size := by
          have h7 : w'.heap[wr.heap.size]? = some _ := (hg.block wr.heap.size (by simp) (by simp)).trans (World.alloc_heap_new wr _)
          exact Nat.le_of_lt (Array.getElem?_eq_some_iff.1 ((h6 wr.heap.size (.inr (.inr (.inr ⟨Nat.le_refl _, by omega⟩)))).trans h7)).1
        have e6 := h6 wr.heap.size (.inr (.inr (.inr ⟨Nat.le_refl _, by omega⟩)))
        refine ⟨hr, ⟨⟨by rw [← htp]; exact h5, own_keep hrw fun k hk => (h6 k (.inl hk)).trans (hgg.block k (hLp.dn k hk).2 (by simp)), own_keep hts fun k hk => (h6 k (.inr (.inl hk))).trans (hgg.block k (hLp.nn k hk).2 (by simp)), ?_, fun k hk => by have := (hLp.nn k hk).2; omega, fun y hy => (((htM y hy).2.kept fun k hk hl => (h6 k (.inr (.inr (.inl ⟨y, hy, hk⟩)))).trans (hgg.block k hl (by simp)))).up (by have := h5.kp.size; have := hgg.size; have := hwl5; omega)⟩⟩, ?_, (World.cell?_of_block e6).trans (grown_cell hg q0), (World.cell?_of_block e6).trans (grown_cell hg q1)⟩
        · have h7 : w'.heap[wr.heap.size]? = some _ := (hg.block wr.heap.size (by simp) (by simp)).trans (World.alloc_heap_new wr _)
          exact (Array.getElem?_eq_some_iff.1 (e6.trans h7)).1
        · obtain ⟨S2', hTb, _⟩ := h5.ex
          simp [World.cell?, hTb.blk]⟩
      have hn1 : i < L2.length := hlt2
      have hn2 : (i : Int) < (L2.length : Int) := by omega
      have hn3 : (0 : Int) ≤ (i : Int) := by omega
      have htsH : Hid (ts.length = i ∧ ts.map (fun x => (⟨x.nm, x.at_⟩ : Q.E)) = L2.take i ∧ (∀ y ∈ ts, ∃ x ∈ M, y = { x with v := y.v })) := ⟨htl, htm, fun y hy => (htM y hy).1⟩
      replace hga : Hid _ := ⟨hga⟩
      replace he : Hid _ := ⟨he⟩
      have hnml : Hid (nm.size ≤ maxLen) := ⟨by unfold maxLen; omega⟩
      clear hR hLp hrw hts hgl htl htm htM htp hxr hx0
      go_wp2_with fail
      go_region_held3 (fun w' => w'.cell? ⟨tb, 2, none⟩ = some (ptr qb) ∧ w'.cell? ⟨wr.heap.size, 0, none⟩ = some (.string nm) ∧ w'.cell? ⟨wr.heap.size, 1, none⟩ = some (.int .u64 a))
        (first
          | go_keep
          | exact hkp)
        ((go_at_call 46
          refine (hput.out _ (grown_drew _)).mono ?_
          rintro e w5 ⟨⟨b, rfl⟩, hres, hkp⟩))
      clear hput b0 b2 q0 q1 k0 k1
      obtain ⟨-, c0, -⟩ := hkp
      obtain ⟨hLp, hrw, hts, hwl, hnb, hsp⟩ := hres.out
      obtain ⟨S2', hTb, _⟩ := id hLp.ex
      replace hsp : Hid _ := ⟨hsp⟩
      have hsz5 := hLp.kp.size
      have htb5 := hTb.lt
      have hmb5 := hTb.tm.lt
      have hnt : (Value.slice na i nc).ownBlock ≠ some tb := fun e => by have h1 := (hLp.nn _ e).1; have h2 := hLp.sl _ (hLp.fp _ (.inl rfl)); omega
      have hnm : (Value.slice na i nc).ownBlock ≠ some mb := fun e => by have h1 := (hLp.nn _ e).1; have h2 := hLp.sl _ (hLp.fp _ (.inr (.inl rfl))); omega
      have hsof : ∀ w', w5.grownBy w' (Value.slice na i nc).ownBlock → (w'.cell? ⟨tb, 0, none⟩ = some (.map (some mb)) ∧ w'.cell? ⟨wr.heap.size, 0, none⟩ = some (.string nm) ∧ (Instr.lookup 68 (.map (some mb)) (.string nm) false).run Tryz.prog w' = .ok (.agg #[.string nm, .int .i64 vr, .int .u64 a, .int .u64 ev, v]) w') := fun w' hg => by
        have hM' := hTb.tm.kept (hg.block mb hmb5 (fun e => hnm e.symm))
        refine ⟨by simp [World.cell?, hg.block tb htb5 (fun e => hnt e.symm), hTb.blk], ?_, ?_⟩
        · exact (World.cell?_of_block (hg.block wr.heap.size hwl fun e => hnb _ e.symm rfl)).trans c0
        · rcases hM'.look (n := nm) hnml.out with ⟨y, hy, hyn, _, h1⟩ | ⟨hno, _⟩
          · have := hTb.tm.un hxM hy hyn.symm
            subst this
            exact h1
          · exact absurd rfl (hno _ hxM)
      have hp8 := hsof w5 ((grown_refl w5).but _)
      have hap : Hid (∀ w', w5.grownBy w' none → Calls Tryz.prog 38 #[.agg #[.string nm, .int .i64 vr, .int .u64 a, .int .u64 ev, v]] w' fun r w6 => ∃ va vc, r = .returned (.agg #[.string nm, .int .i64 vr, .int .u64 a, .int .u64 ev, .slice va xs.length vc]) ∧ Hid (w5.grownBy w6 none ∧ Sps w6.heap.size w6 (.slice va xs.length vc) xs ∧ ∀ k, (Value.slice va xs.length vc).ownBlock = some k → w5.heap.size ≤ k ∧ k < w6.heap.size) ∧ (w6.cell? ⟨tb, 0, none⟩ = some (.map (some mb)) ∧ w6.cell? ⟨wr.heap.size, 0, none⟩ = some (.string nm) ∧ (Instr.lookup 68 (.map (some mb)) (.string nm) false).run Tryz.prog w6 = .ok (.agg #[.string nm, .int .i64 vr, .int .u64 a, .int .u64 ev, v]) w6)) := ⟨fun w' hg => by
        refine (apart_any w' ⟨nm, vr, a, ev, v, xs⟩ (((hTb.sp _ hxM).1.keep hg (Nat.le_refl _)).up hg.size) hxl).mono ?_
        rintro r w6 ⟨v', rfl, hs6, hn6, hg6⟩
        obtain ⟨va, vc, rfl, _⟩ := hs6.shape
        have hgs := hg.size
        exact ⟨va, vc, rfl, ⟨grown_none hg hg6, hs6, fun k hk => ⟨by have := (hn6 k hk).1; omega, (hn6 k hk).2⟩⟩, hsof w6 ((grown_none hg hg6).but _)⟩⟩
      have hrow : Hid (∀ w6, w5.grownBy w6 none → w6.ownsRow w.heap.size 32 5 (.slice na i nc) ts.length (cellsT ts) ∧ w.heap.size ≤ w6.heap.size) := ⟨fun w6 hg => ⟨by rw [htsH.out.1]; exact hts.kept hg (Classical.em _), by have := hg.size; omega⟩⟩
      have htl : ts.length = i := htsH.out.1
      have hsofH : Hid _ := ⟨hsof⟩
      obtain ⟨p0, p1, p2⟩ := hp8
      replace hwl : Hid _ := ⟨hwl⟩
      replace hnb : Hid _ := ⟨hnb⟩
      replace hts : Hid _ := ⟨hts⟩
      replace hrw : Hid _ := ⟨hrw⟩
      replace hLp : Hid _ := ⟨hLp⟩
      clear hsof hTb hnt hnm hres
      go_wp2_with fail
      go_region_held3 (fun w' => w'.cell? ⟨tb, 0, none⟩ = some (.map (some mb)) ∧ w'.cell? ⟨wr.heap.size, 0, none⟩ = some (.string nm) ∧ (Instr.lookup 68 (.map (some mb)) (.string nm) false).run Tryz.prog w' = .ok (.agg #[.string nm, .int .i64 vr, .int .u64 a, .int .u64 ev, v]) w')
        (first
          | exact hsofH.out _ ((grown_drew w5).but _)
          | exact hkp
          | exact hsofH.out _ (grown_same (grown_none hg6.out.1 (World.grownBy_alloc _ _ _)) ((grown_refl _).but _))
          | exact hsofH.out _ (grown_same hg6.out.1 hg8))
        (first
          | (go_at_call 38
             refine (hap.out _ (grown_drew _)).mono ?_
             rintro e w6 ⟨va, vc, rfl, hg6, hkp⟩)
          | (refine step_app_t (by rfl) _ _ (by rfl) ⟨nm, vr, a, ev, .slice va xs.length vc, xs⟩ rfl (by rfl) (by rfl) (hrow.out _ hg6.out.1).1 (by omega) (hrow.out _ hg6.out.1).2 ?_
             intro na' nc' w8 hr8 hg8 ho8))
      rw [htl] at hr8 ho8
      have hs6 := hg6.out.1.size
      have hs8 := hg8.size
      have hnew : ∀ k, k < w6.heap.size → (Value.slice na i nc).ownBlock ≠ some k → (Value.slice na' (i + 1) nc').ownBlock ≠ some k := fun k hk hne e => by
        rcases ho8 with ho | ⟨k', hk', hl⟩
        · exact hne (ho ▸ e)
        · rw [hk'] at e
          cases e
          omega
      have hap2 := hLp.out.app (Y' := stY (ts ++ [⟨nm, vr, a, ev, .slice va xs.length vc, xs⟩])) (grown_same hg6.out.1 hg8) (ho8.imp id fun ⟨k, hk, hl⟩ => ⟨k, hk, by omega⟩) (fun k hk => (hr8.lt k hk).2) fun k hk => by
        obtain ⟨y, hy, hyk⟩ := hk
        rcases List.mem_append.1 hy with hy | hy
        · exact .inl ⟨y, hy, hyk⟩
        · rw [List.mem_singleton] at hy
          subst hy
          have h1 := hg6.out.2.2 k hyk
          exact .inr ⟨h1.1, by omega, hnew k h1.2 fun e => by have := (hLp.out.nn k e).2; omega⟩
      have hnext : Hid (DuF w w8 S tb mb wb qb S1 now M L1 L2 (.slice (some ⟨g, 0, none⟩) L2.length dc) na' (i + 1) nc') := ⟨⟨ts ++ [⟨nm, vr, a, ev, .slice va xs.length vc, xs⟩], hap2.1, own_keep hrw.out fun k hk => hap2.2 k (.inl hk), by simp [htl], by
        rw [List.map_append, htsH.out.2.1, List.take_add_one, he.out]
        rfl, fun y hy => by
          rcases List.mem_append.1 hy with hy | hy
          · exact ⟨htsH.out.2.2 y hy, ((hsp.out y hy).kept fun k hk hl => hap2.2 k (.inr ⟨y, hy, hk⟩)).up (by omega)⟩
          · rw [List.mem_singleton] at hy
            subst hy
            exact ⟨⟨_, hxM, rfl⟩, (hg6.out.2.1.kept fun k hk hl => hg8.block k hl fun e => by have h1 := (hg6.out.2.2 k hk).1; have := (hLp.out.nn k e.symm).2; omega).up hs8⟩, hr8⟩⟩
      clear hap hrow hsofH hap2 hr8 hg8 ho8 hLp hrw hts hwl hnb hsp hnew
      go_wp2_with fail
      exact ⟨⟨i + 1, na', nc', by go_num, by go_num, by omega, hnext⟩, by simp [intOf] <;> omega⟩
    · have hdi : decide ((i : Int) < L2.length) = false := by simp; omega
      have hie : i = L2.length := by omega
      subst hie
      go_wp2
      go_ret
      obtain ⟨ts, hLp, hrw, htl, htm, htM, hts⟩ := hR.out
      rw [List.take_of_length_le (Nat.le_refl _)] at hLp htm
      obtain ⟨S2', hTb, h2, _, h4, h9⟩ := hLp.ex
      have hxx : ∀ k, S k → (Gw S w wr k ∧ (Value.slice na L2.length nc).ownBlock ≠ some k) ∧ ¬ stY ts k := fun k hk => ⟨⟨.inl hk, fun e => by have h1 := (hLp.nn k e).1; have h2 := hLp.sl k hk; omega⟩, fun e => by have h1 := (hLp.yn k e).1; have h2 := hLp.sl k hk; omega⟩
      refine ⟨_, ts, rfl, by rw [htl]; exact hts, htm, htM, ⟨mb, wb, qb, S1, S2', hTb, fun k hk => ?_, hI.out⟩, hLp.kp, fun k hk => ⟨hLp.yn k hk, hLp.yp k hk⟩⟩
      rcases hk with rfl | rfl | hk | hk | hk
      · exact hxx _ (hLp.fp _ (.inl rfl))
      · exact hxx _ (hLp.fp _ (.inr (.inl rfl)))
      · exact hxx _ (hLp.fp _ (.inr (.inr (.inl hk))))
      · exact ⟨⟨h2 k hk, fun e => h4 k e hk⟩, fun e => h9 k e hk⟩
      · exact hxx _ (hLp.fp _ (.inr (.inr (.inr (.inr hk)))))
end Go.Proofs.YtblnhcnfeagjhaaGreatDoor
