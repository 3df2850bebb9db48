/- Table.Advance. -/
import Derived.Test.YtblnhcnfeagjhaaGreatDoorAMc
namespace Go.Proofs.YtblnhcnfeagjhaaGreatDoor
open Go.RowKit Go.IntWalk Go.Maps Go.Shelf
set_option linter.unusedVariables false
theorem own_keep {t : TypeId} {k base : Nat} {w w' : World} {v : Value} {n : Nat} {l : List Value} (h : w.ownsRow base t k v n l) (hb : ∀ g, v.ownBlock = some g → w'.heap[g]? = w.heap[g]?) : w'.ownsRow base t k v n l :=
  ⟨h.1, h.2.imp id fun ⟨g, c, cur, e, hge, hg, rest⟩ => ⟨g, c, cur, e, hge, (hb g (by rw [e]; rfl)).trans hg, rest⟩⟩
theorem own_shape {t : TypeId} {k base : Nat} {w : World} {v : Value} {n : Nat} {l : List Value} (h : w.ownsRow base t k v n l) : ∃ a c, v = .slice a n c := by
  rcases h.2 with ⟨e1, h0⟩ | ⟨g, c, cur, e1, _⟩
  · exact ⟨none, 0, by rw [e1, h0]⟩
  · exact ⟨_, _, e1⟩
/-- What stands where when the clock has moved. -/
theorem Inv.adv {w : World} {bm : Nat} {now t : Int} {M : List Tmr} {L1 : List W.E} {L2 : List Q.E} (h : Inv now M L1 L2) (hM : TM w bm M) (hs : W.Srt L1) (ht : now < t) : Inv t M (W.rst t L1) (puts L2 (W.due t L1)) where
  ok := h.ok
  a := fun e => by
    simp only [W.rst, List.mem_filter, decide_eq_true_eq]
    rw [h.a]
    constructor
    · rintro ⟨⟨x, hx, h1, rfl⟩, h2⟩; exact ⟨x, hx, h2, rfl⟩
    · rintro ⟨x, hx, h1, rfl⟩; exact ⟨⟨x, hx, by omega, rfl⟩, h1⟩
  d := fun e => by
    have hm : ∀ e, e ∈ W.due t L1 ↔ e ∈ L1 ∧ e.at_ ≤ t := fun e => by simp [W.due]
    rw [mem_puts, h.d]
    · constructor
      · rintro (⟨x, hx, h1, rfl⟩ | ⟨e, he, rfl⟩)
        · exact ⟨x, hx, by omega, rfl⟩
        · obtain ⟨h1, h2⟩ := (hm e).1 he
          obtain ⟨x, hx, h3, rfl⟩ := (h.a e).1 h1
          exact ⟨x, hx, h2, rfl⟩
      · rintro ⟨x, hx, h1, rfl⟩
        by_cases h2 : x.at_ ≤ now
        · exact .inl ⟨x, hx, h2, rfl⟩
        · exact .inr ⟨⟨x.nm, x.at_⟩, (hm _).2 ⟨(h.a _).2 ⟨x, hx, by omega, rfl⟩, h1⟩, rfl⟩
    · intro e he f hf hn
      obtain ⟨x, hx, h1, rfl⟩ := (h.a e).1 ((hm e).1 he).1
      obtain ⟨y, hy, h2, rfl⟩ := (h.d f).1 hf
      have := hM.un hy hx hn
      subst this
      omega
    · refine List.Pairwise.filter _ ?_
      refine (List.nodup_iff_pairwise_ne.1 hs.nodup).imp_of_mem fun {a b} ha hb hab hn => hab (hs.un a ha b hb hn)
  len := h.len
set_option maxRecDepth 100000 in
set_option maxHeartbeats 1000000 in
/-- Table.Advance to a tick that is not above the clock. -/
theorem adv_back (w : World) {S : Nat → Prop} {tb : Nat} {now : Int} {M : List Tmr} {L1 : List W.E} {L2 : List Q.E} (h : Tab S w tb now M L1 L2) (t : Int) (ht : t ≤ now) : Calls Tryz.prog 19 #[ptr tb, .int .u64 t] w fun r w' => r = .returned (.slice none 0 0) ∧ w' = w := by
  obtain ⟨mb, wb, qb, S1, S2, hT, hfp, hI⟩ := h
  have b1 : w.cell? ⟨tb, 1, none⟩ = some (ptr wb) := by simp [World.cell?, hT.blk]
  have hc := W.adv_none w hT.wh t ht
  go_enter Tryz.func19, Tryz.ntmps19
  go_wp2_with fail
  refine hc.mono ?_
  rintro r w1 ⟨rfl, rfl⟩
  go_wp2_with fail
  go_loopw [5, 17] (fun nv iv wr => nv = .slice none 0 0 ∧ iv = .int .i64 0 ∧ Hid (wr = w1)) (fun _ _ _ => 0)
  case atStart => exact ⟨rfl, rfl, ⟨rfl⟩⟩
  case round =>
    obtain ⟨rfl, rfl, ⟨rfl⟩⟩ := hrel
    go_wp2
    go_ret
    exact ⟨rfl, rfl⟩
set_option maxRecDepth 100000 in
set_option maxHeartbeats 4000000 in
/-- .. above the clock. -/
theorem adv_t (w : World) {S : Nat → Prop} {tb : Nat} {now : Int} {M : List Tmr} {L1 : List W.E} {L2 : List Q.E} (h : Tab S w tb now M L1 L2) (hS : ∀ k, S k → k < w.heap.size) (t : Int) (ht : 0 ≤ t ∧ t < 18446744073709551616) (hlt : now < t) :
    Calls Tryz.prog 19 #[ptr tb, .int .u64 t] w fun r w' => ∃ v, r = .returned v ∧ w'.ownsRow w.heap.size 9 1 v (W.due t L1).length (cellsN ((W.due t L1).map W.E.n)) ∧ Tab (fun k => Gw S w w' k ∧ v.ownBlock ≠ some k) w' tb t M (W.rst t L1) (puts L2 (W.due t L1)) ∧ Kp S w w' := by
  obtain ⟨mb, wb, qb, S1, S2, hT, hfp, hI⟩ := h
  have b1 : w.cell? ⟨tb, 1, none⟩ = some (ptr wb) := by simp [World.cell?, hT.blk]
  have hc := W.adv_some w hT.wh (fun j hj => (hT.s1 j hj).1) t ht hlt
  have hIn := hI.adv hT.tm hT.wh.srt hlt
  have hl1 := hI.l1 hT.wh.srt
  have hl2 := hI.l2 hT.qu.srt
  have hqs := hT.qu.srt
  have hok : Hid (∀ e ∈ W.due t L1, e.n.size ≤ maxLen ∧ 0 ≤ e.at_ ∧ e.at_ < 18446744073709551616) := ⟨fun e he => by
    have := hT.wh.ok e (List.mem_filter.1 he).1
    exact this⟩
  obtain ⟨D, hD⟩ : ∃ D, W.due t L1 = D := ⟨_, rfl⟩
  have hDl : D.length ≤ 10000 := by rw [← hD]; exact Nat.le_trans (List.length_filter_le _ _) hl1
  rw [hD] at hc hIn hok ⊢
  replace hc : Hid _ := ⟨hc⟩
  replace hT : Hid _ := ⟨hT⟩
  replace hIn : Hid _ := ⟨hIn⟩
  replace hqs : Hid _ := ⟨hqs⟩
  replace hfp : Hid _ := ⟨hfp⟩
  replace hS : Hid _ := ⟨hS⟩
  clear hI hD hl1
  go_enter Tryz.func19, Tryz.ntmps19
  go_wp2_with fail
  refine hc.out.mono ?_
  rintro r w1 ⟨da, dc, rfl, hrw, hdn, hW, hK⟩
  have hst : Lp w w1 S tb mb wb qb S1 t M (W.rst t L1) L2 (.slice da D.length dc) (.slice none 0 0) := ⟨⟨S2, hT.out.wheel hK hW, fun k hk => .inl (hfp.out k (.inr (.inr (.inr (.inl hk))))), fun k hk e => by
      have := hdn k hk; have := (hT.out.s2 k e).1; omega, fun k hk => by simp [Value.ownBlock] at hk⟩, (kpW hK).mono fun k hk => hfp.out k (.inr (.inr (.inl hk))), fun k hk => hfp.out k (hk.imp id fun hk => hk.imp id fun hk => hk.imp id fun hk => .inr (hk.elim (fun e => e.elim) id)), hS.out, fun k hk => ⟨hdn k hk, (hrw.lt k hk).2⟩, fun k hk => by simp [Value.ownBlock] at hk, fun k _ e => by simp [Value.ownBlock] at e⟩
  have hst2 : Hid (Lp w w1 S tb mb wb qb S1 t M (W.rst t L1) (puts L2 (D.take 0)) (.slice da D.length dc) (.slice none 0 0) ∧ W.Rw 86 w1 (.slice da D.length dc) D ∧ w1.ownsRow w.heap.size 9 1 (.slice none 0 0) 0 (cellsN ((D.take 0).map W.E.n))) := ⟨hst, hrw, by simpa [cellsN] using World.ownsRow_nil _ w.heap.size 9 1⟩
  clear hst hrw hdn hW hK hc b1
  go_wp2_with fail
  go_loopw [5, 17] (fun nv iv wr => ∃ (i : Nat) (na : Option Addr) (nc : Nat), nv = .slice na i nc ∧ iv = .int .i64 i ∧ i ≤ D.length ∧ Hid (Lp w wr S tb mb wb qb S1 t M (W.rst t L1) (puts L2 (D.take i)) (.slice da D.length dc) (.slice na i nc) ∧ W.Rw 86 wr (.slice da D.length dc) D ∧ wr.ownsRow w.heap.size 9 1 (.slice na i nc) i (cellsN ((D.take i).map W.E.n))))
    (fun _ iv _ => D.length - (intOf iv).toNat)
  case atStart => exact ⟨0, none, 0, rfl, rfl, by omega, hst2⟩
  case round =>
    clear hst2
    obtain ⟨i, na, nc, rfl, rfl, hi, hR⟩ := hrel
    by_cases hlt2 : i < D.length
    · have hdi : decide ((i : Int) < D.length) = true := by simp; omega
      obtain ⟨e, he⟩ : ∃ e, D[i]? = some e := ⟨_, List.getElem?_eq_getElem hlt2⟩
      obtain ⟨hLp, hrw, hnm⟩ := hR.out
      obtain ⟨g, rfl, hgl, -, k0, k1, -⟩ := hrw.at he
      have hek := hok.out e (List.mem_of_getElem? he)
      have hga := World.grownBy_alloc wr (.cells #[.string e.n, .int .u64 e.at_] 86) none
      have b2 : (wr.alloc (.cells #[.string e.n, .int .u64 e.at_] 86)).cell? ⟨tb, 2, none⟩ = some (ptr qb) := by
        obtain ⟨S2', hTb, _⟩ := hLp.ex
        simp [World.cell?, (hTb.keep hga).blk]
      have q0 : (wr.alloc (.cells #[.string e.n, .int .u64 e.at_] 86)).cell? ⟨wr.heap.size, 0, none⟩ = some (.string e.n) := cell_new wr _ 86 (i := 0) rfl
      have q1 : (wr.alloc (.cells #[.string e.n, .int .u64 e.at_] 86)).cell? ⟨wr.heap.size, 1, none⟩ = some (.int .u64 e.at_) := cell_new wr _ 86 (i := 1) rfl
      have hlen : (puts L2 (D.take i)).length < 100000 := by
        have := puts_le (D.take i) hqs.out
        simp at this
        omega
      have hts : D.take (i + 1) = D.take i ++ [e] := by rw [List.take_add_one, he]; rfl
      have hput : Hid (∀ w', (wr.alloc (.cells #[.string e.n, .int .u64 e.at_] 86)).grownBy w' none → Calls Tryz.prog 46 #[ptr qb, .string e.n, .int .u64 e.at_] w' fun r w5 => (∃ b, r = .returned (.bool b)) ∧ Hid (Lp w w5 S tb mb wb qb S1 t M (W.rst t L1) (puts L2 (D.take (i + 1))) (.slice (some ⟨g, 0, none⟩) D.length dc) (.slice na i nc) ∧ W.Rw 86 w5 (.slice (some ⟨g, 0, none⟩) D.length dc) D ∧ w5.ownsRow w.heap.size 9 1 (.slice na i nc) i (cellsN ((D.take i).map W.E.n))) ∧
          (w5.cell? ⟨tb, 2, none⟩ = some (ptr qb) ∧ w5.cell? ⟨wr.heap.size, 0, none⟩ = some (.string e.n) ∧ w5.cell? ⟨wr.heap.size, 1, none⟩ = some (.int .u64 e.at_))) := ⟨fun w' hg => by
        have hgg := grown_none hga hg
        refine (hLp.put hgg e.n e.at_ hek.1 hek.2 hlen).mono ?_
        rintro r w5 ⟨hr, h5, h6⟩
        have hsz := hg.size
        simp at hsz
        have e6 := h6 wr.heap.size (.inr (.inr ⟨Nat.le_refl _, by omega⟩))
        refine ⟨hr, ⟨⟨by rw [hts, puts_snoc]; exact h5, own_keep hrw fun k hk => (h6 k (.inl hk)).trans (hgg.block k (hLp.dn k hk).2 (by simp)), own_keep hnm fun k hk => (h6 k (.inr (.inl hk))).trans (hgg.block k (hLp.nn k hk).2 (by simp))⟩⟩, ?_, (World.cell?_of_block e6).trans (grown_cell hg q0), (World.cell?_of_block e6).trans (grown_cell hg q1)⟩
        obtain ⟨S2', hTb, _⟩ := h5.ex
        simp [World.cell?, hTb.blk]⟩
      have hn1 : i < D.length := hlt2
      have hn2 : (i : Int) < (D.length : Int) := by omega
      have hn3 : (0 : Int) ≤ (i : Int) := by omega
      replace hga : Hid _ := ⟨hga⟩
      replace he : Hid _ := ⟨he⟩
      replace hts : Hid _ := ⟨hts⟩
      clear hR hLp hrw hnm hgl hek hlen
      go_wp2_with fail
      go_region_held3 (fun w' => w'.cell? ⟨tb, 2, none⟩ = some (ptr qb) ∧ w'.cell? ⟨wr.heap.size, 0, none⟩ = some (.string e.n) ∧ w'.cell? ⟨wr.heap.size, 1, none⟩ = some (.int .u64 e.at_))
        (first
          | go_keep
          | exact hkp)
        ((go_at_call 46
          refine (hput.out _ (grown_drew _)).mono ?_
          rintro e w5 ⟨⟨b, rfl⟩, hres, hkp⟩))
      clear hput
      obtain ⟨-, c0, -⟩ := hkp
      obtain ⟨hLp, hrw, hnm⟩ := hres.out
      have hci : ((D.take i).map W.E.n).length = i := by simp; omega
      obtain ⟨nv', w7, hrun, hrow7, hg7, ho7⟩ := app_n w5 (cs := (D.take i).map W.E.n) e.n (by rw [hci]; exact hnm) (by omega) (by have := hLp.kp.size; omega) 41
      obtain ⟨na', nc', rfl⟩ := own_shape hrow7
      rw [List.length_append, hci] at hrun hrow7 ho7
      have hap := hLp.app hg7 ho7 (fun k hk => (hrow7.lt k hk).2)
      have hnext : Hid (Lp w w7 S tb mb wb qb S1 t M (W.rst t L1) (puts L2 (D.take (i + 1))) (.slice (some ⟨g, 0, none⟩) D.length dc) (.slice na' (i + 1) nc') ∧ W.Rw 86 w7 (.slice (some ⟨g, 0, none⟩) D.length dc) D ∧ w7.ownsRow w.heap.size 9 1 (.slice na' (i + 1) nc') (i + 1) (cellsN ((D.take (i + 1)).map W.E.n))) := ⟨hap.1, own_keep hrw hap.2, by
        have := hrow7
        rw [hts.out, List.map_append]
        exact this⟩
      clear hap hrow7 hg7 ho7 hLp hrw hnm hres
      go_wp2_with (at_builtin; refine W.wpList_append_run rfl _ _ 41 rfl _ _ rfl rfl hrun ?_)
      exact ⟨⟨i + 1, na', nc', by go_num, by go_num, by omega, hnext⟩, by simp [intOf] <;> omega⟩
    · have hdi : decide ((i : Int) < D.length) = false := by simp; omega
      have hie : i = D.length := by omega
      subst hie
      obtain ⟨hLp, hrw, hnm⟩ := hR.out
      rw [List.take_of_length_le (Nat.le_refl _)] at hLp hnm
      have hfin : Hid _ := ⟨And.intro hLp hnm⟩
      clear hR hLp hrw hnm
      go_wp2
      go_ret
      obtain ⟨hLp, hnm⟩ := hfin.out
      obtain ⟨S2', hTb, h2, _, h4⟩ := hLp.ex
      have hxx : ∀ k, S k → Gw S w wr k ∧ (Value.slice na D.length nc).ownBlock ≠ some k := fun k hk => ⟨.inl hk, fun e => by have h1 := (hLp.nn k e).1; have h2 := hLp.sl k hk; omega⟩
      refine ⟨_, rfl, hnm, ⟨mb, wb, qb, S1, S2', hTb, fun k hk => ?_, hIn.out⟩, hLp.kp⟩
      rcases hk with rfl | rfl | hk | hk | hk
      · exact hxx _ (hLp.fp _ (.inl rfl))
      · exact hxx _ (hLp.fp _ (.inr (.inl rfl)))
      · exact hxx _ (hLp.fp _ (.inr (.inr (.inl hk))))
      · exact ⟨h2 k hk, fun e => h4 k e hk⟩
      · exact hxx _ (hLp.fp _ (.inr (.inr (.inr (.inr hk)))))
end Go.Proofs.YtblnhcnfeagjhaaGreatDoor
