/- The walk of Advance. -/
import Derived.Test.YtblnhcnfeagjhaaGreatDoorWMd
namespace Go.Proofs.YtblnhcnfeagjhaaGreatDoor.W
open Go.RowKit Go.IntWalk Go.Maps Go.Shelf
set_option linter.unusedVariables false
/-- All gone through: the wheel stands as it should. -/
theorem Ad.done {S : Nat → Prop} {w wr : World} {wb bd : Nat} {bs : Nat → Nat} {now t : Int} {L M D : List E} {v d : Value} {K : Nat} (hS : ∀ j, fpw wb bd bs j → S j) (hs : Srt L) (hab : ∀ e ∈ L, now < e.at_) (hok : ∀ e ∈ L, e.ok) (hlen : L.length ≤ 100000)
    (hn : 0 ≤ now ∧ now < 18446744073709551616) (ht : 0 ≤ t ∧ t < 18446744073709551616) (hlt : now < t) (hK : ∀ i, i < 65 → (i < K ↔ i ≤ pl now.toNat t.toNat)) (hM : ∀ x, x ∈ M ↔ ∃ i, i < K ∧ x ∈ atP now L i) (hK65 : K ≤ 65)
    (h : Ad S w wr wb bd bs t L (fun i => if i < K then [] else atP now L i) v M M.length d D) : Wh S wr wb t (rst t L) ∧ (∀ x, x ∈ D ↔ x ∈ due t L) := by
  obtain ⟨Lk, ck, hW, hLs, hLm, hck⟩ := h.wf
  rw [List.take_length] at hLm hck
  have hde := h.de
  rw [List.take_length] at hde
  have hML : ∀ x, x ∈ M → x ∈ L := fun x hx => by
    obtain ⟨i, _, hx⟩ := (hM x).1 hx
    exact (mem_atP.1 hx).1
  have hstay : ∀ x ∈ L, x ∉ M → t < x.at_ ∧ pE t x = pE now x := fun x hx hxM => by
    have h1 : ¬ pE now x < K := fun e => hxM ((hM x).2 ⟨_, e, mem_atP.2 ⟨hx, rfl⟩⟩)
    have h2 : pE now x < 65 := plc_lt
    have h3 : pl now.toNat t.toNat < plc now.toNat x.at_.toNat := by
      have := (hK (pE now x) h2)
      show pl now.toNat t.toNat < pE now x
      omega
    have o1 := hok x hx
    have o2 := hab x hx
    unfold E.ok at o1
    have := plc_stays (n := now.toNat) (m := t.toNat) (a := x.at_.toNat) (by omega) (by omega) (by omega) (by omega) (by omega) h3
    exact ⟨by omega, this.2⟩
  have hLk : Lk = rst t L := hLs.eq (hs.rst t) fun x => by
    rw [hLm, mem_rst]
    constructor
    · rintro ⟨a, b⟩
      refine ⟨a, ?_⟩
      by_cases hx : x ∈ M
      · have : ¬ x.at_ ≤ t := fun e => b ⟨hx, e⟩
        omega
      · exact (hstay x a hx).1
    · rintro ⟨a, b⟩
      exact ⟨a, fun e => by have := e.2; omega⟩
  subst hLk
  refine ⟨⟨⟨bd, bs, ?_, hS⟩, hs.rst t, fun e he => (mem_rst.1 he).2, fun e he => hok e (mem_rst.1 he).1, ?_⟩, fun x => ?_⟩
  · obtain ⟨cs, h1⟩ := hW.blk
    refine ⟨⟨cs, h1⟩, hW.dl, fun i hi => (hW.st i hi).same ((hs.rst t).atP t i).nodup fun x => ?_, hW.inj, hW.nd, hW.nw⟩
    rw [hck i hi, mem_atP, mem_rst]
    constructor
    · rintro ⟨⟨a, b⟩, e⟩
      by_cases hx : x ∈ M
      · exact .inr ⟨hx, b, e⟩
      · have h2 := (hstay x a hx).2
        rw [e] at h2
        refine .inl ?_
        have h3 : ¬ i < K := fun e3 => hx ((hM x).2 ⟨i, e3, mem_atP.2 ⟨a, h2.symm⟩⟩)
        simp only [h3, if_false]
        exact mem_atP.2 ⟨a, h2.symm⟩
    · rintro (e | ⟨e, f, g⟩)
      · by_cases h3 : i < K
        · simp [h3] at e
        · simp only [h3, if_false] at e
          obtain ⟨a, b⟩ := mem_atP.1 e
          have hx : x ∉ M := fun hxM => by
            obtain ⟨j, hj, hxj⟩ := (hM x).1 hxM
            have := (mem_atP.1 hxj).2
            omega
          have := hstay x a hx
          exact ⟨⟨a, this.1⟩, by rw [this.2, b]⟩
      · exact ⟨⟨hML x e, f⟩, g⟩
  · have := List.length_filter_le (fun x : E => decide (t < x.at_)) L
    unfold rst
    omega
  · rw [hde, mem_due, mem_due]
    constructor
    · rintro ⟨a, b⟩; exact ⟨hML x a, b⟩
    · rintro ⟨a, b⟩
      refine ⟨?_, b⟩
      by_cases hx : x ∈ M
      · exact hx
      · have := (hstay x a hx).1
        omega
theorem cn_atP {now : Int} {L : List E} (hs : Srt L) (hl : L.length ≤ 100000) : Cn L (atP now L) :=
  ⟨fun i x _ hx => (mem_atP.1 hx).1, fun i j x _ _ h1 h2 => by rw [← (mem_atP.1 h1).2, (mem_atP.1 h2).2], hs.nodup, hl⟩
theorem with_one (l : List E) (x : E) (hn : l.Nodup) : ∃ l' : List E, l'.Nodup ∧ ∀ y, y ∈ l' ↔ y = x ∨ y ∈ l := by
  by_cases h : x ∈ l
  · exact ⟨l, hn, fun y => ⟨.inr, fun e => e.elim (fun e => e ▸ h) id⟩⟩
  · exact ⟨x :: l, List.nodup_cons.2 ⟨h, hn⟩, fun y => List.mem_cons⟩
theorem cell_other {w w' : World} {b : Nat} (hg : w.grownBy w' (some b)) {k o : Nat} {v : Value} (h : w.cell? ⟨k, o, none⟩ = some v) (hne : k ≠ b) : w'.cell? ⟨k, o, none⟩ = some v := hg.cell h (by simp; exact hne)
set_option maxRecDepth 100000 in
set_option maxHeartbeats 4000000 in
/-- Wheel.Advance to a tick above the clock. -/
theorem adv_some (w : World) {S : Nat → Prop} {wb : Nat} {now : Int} {L : List E} (h : Wh S w wb now L) (hSl : ∀ j, S j → j < w.heap.size) (t : Int) (ht : 0 ≤ t ∧ t < 18446744073709551616) (hlt : now < t) :
    Calls Tryz.prog 45 #[.pointer (some ⟨wb, 0, none⟩), .int .u64 t] w fun r w' => ∃ a cap, r = .returned (.slice a (due t L).length cap) ∧ Rw 86 w' (.slice a (due t L).length cap) (due t L) ∧ (∀ j, (Value.slice a (due t L).length cap).ownBlock = some j → w.heap.size ≤ j) ∧ Wh S w' wb t (rst t L) ∧ Kp S w w' := by
  obtain ⟨bd, bs, h1, hS⟩ := h.ex
  have hd : decide (t ≤ now) = false := by simp; omega
  have c0 := h1.c0
  have hcl := loosen_any w h1 (cn_atP h.srt h.len) hS hSl t ht hlt
  have hsr := h.srt
  have hab := h.abv
  have hok := h.ok
  have hlen := h.len
  have hnw := h1.nw
  replace hS : Hid _ := ⟨hS⟩
  replace hSl : Hid _ := ⟨hSl⟩
  replace hab : Hid _ := ⟨hab⟩
  replace hok : Hid _ := ⟨hok⟩
  go_enter Tryz.func45, Tryz.ntmps45
  go_wp2_with fail
  refine hcl.mono ?_
  rintro r w1 ⟨a, cap, M, K, rfl, hK, hK65, hL⟩
  have hfz := hL.wf.fz 0
  have c0' := hL.wf.c0
  have hA : Hid (Ad S w (w1.setCell ⟨wb, 0, none⟩ (.int .u64 t)) wb bd bs t L (fun i => if i < K then [] else atP now L i) (.slice a M.length cap) M 0 (.slice none 0 0) []) := by
    have hg := grown_setCell w1 ⟨wb, 0, none⟩ (.int .u64 t)
    refine ⟨⟨⟨L, _, hL.wf.turnNow ht, hsr, fun x => by simp, fun i hi x => by simp⟩, World.ownsRow.kept hL.row hg (.inr fun e => ?_), World.ownsRow_nil _ _ _ _, by simp [due], hL.new, by simp [Value.ownBlock], hL.kp.on (Kp.set hg (hS.out _ (.inl rfl)))⟩⟩
    have h2 := hL.new _ e
    have h3 := hSl.out _ (hS.out wb (.inl rfl))
    simp at h2
    omega
  have hMl : M.length ≤ 100000 := Nat.le_trans (sub_len hL.nd fun x hx => by
    obtain ⟨i, _, hx⟩ := (hL.mem x).1 hx
    exact (mem_atP.1 hx).1) hlen
  replace hL : Hid _ := ⟨hL⟩
  replace hK : Hid _ := ⟨hK⟩
  go_wp2_with fail
  go_loopw [6, 28] (fun dv i wr => ∃ (k : Nat) (da : Option Addr) (dc : Nat) (D : List E), k ≤ M.length ∧ dv = .slice da D.length dc ∧ i = .int .i64 k ∧ Hid (Ad S w wr wb bd bs t L (fun i => if i < K then [] else atP now L i) (.slice a M.length cap) M k (.slice da D.length dc) D))
    (fun _ i _ => M.length - (intOf i).toNat)
  case atStart => exact ⟨0, none, 0, [], by omega, rfl, rfl, hA⟩
  case round =>
    clear hA c0 c0' hfz
    obtain ⟨k, da, dc, D, hk, rfl, rfl, hA⟩ := hrel
    by_cases hkl : k < M.length
    · have hd1 : decide ((k : Int) < M.length) = true := by simp; omega
      obtain ⟨x, hx⟩ := some_at hkl
      obtain ⟨g, rfl, hgl, _, e1, e2, _⟩ := hA.out.row.at hx
      have hxL : Hid (x ∈ L) := ⟨by
        obtain ⟨i, _, hx⟩ := (hL.out.mem x).1 (List.mem_of_getElem? hx)
        exact (mem_atP.1 hx).1⟩
      have hxo := hok.out x hxL.out
      replace hx : Hid _ := ⟨hx⟩
      obtain ⟨Lk, ck, hW, hLs, hLm, hck⟩ := hA.out.wf
      have hg1 := World.grownBy_alloc wr (.cells #[.string x.n, .int .u64 x.at_] 86) none
      replace hLm : Hid _ := ⟨hLm⟩
      replace hck : Hid _ := ⟨hck⟩
      by_cases hxt : t < x.at_
      · have hd2 : decide (x.at_ > t) = true := by simpa using hxt
        have hd3 : decide (t < x.at_) = true := by simpa using hxt
        go_wp2_with fail
        have hp : pE t x < 65 := plc_lt
        have hX := hW.keep (grown_none hg1 (grown_drew _))
        have hSk := hW.st _ hp
        have hkl2 : Hid ((ck (pE t x)).length < maxLen) := ⟨by
          have := sub_len hSk.nd fun y hy => by
            rcases (hck.out _ hp y).1 hy with e | e
            · by_cases e3 : pE t x < K
              · simp [e3] at e
              · simp only [e3, if_false] at e
                exact (mem_atP.1 e).1
            · obtain ⟨i, _, hy⟩ := (hL.out.mem y).1 (List.mem_of_mem_take e.1)
              exact (mem_atP.1 hy).1
          unfold maxLen
          omega⟩
        obtain ⟨l', hn', hm'⟩ := with_one (ck (pE t x)) x hSk.nd
        have hwb : bs (pE t x) < wr.heap.size := hSk.lt
        have hch := home_any _ hX x.at_ hxo.2 (by omega)
        have q1 : (wr.alloc (.cells #[.string x.n, .int .u64 x.at_] 86)).cell? ⟨wr.heap.size, 0, none⟩ = some (.string x.n) := by simp
        have q2 : (wr.alloc (.cells #[.string x.n, .int .u64 x.at_] 86)).cell? ⟨wr.heap.size, 1, none⟩ = some (.int .u64 x.at_) := by simp
        have hpe : plc t.toNat x.at_.toNat = pE t x := rfl
        rw [hpe] at hch
        have hst2 : Hid (∀ w2, (wr.alloc (.cells #[.string x.n, .int .u64 x.at_] 86)).drew.grownBy w2 none → Sset w2 (bs (pE t x)) (ck (pE t x))) := ⟨fun w2 hg => (hX.keep hg).st _ hp⟩
        generalize hB : bs (pE t x) = b at *
        replace hm' : Hid _ := ⟨hm'⟩
        replace hB : Hid _ := ⟨hB⟩
        replace hSk : Hid _ := ⟨hSk⟩
        clear e1 e2 hpe
        go_region_held3 (fun w' => w'.cell? ⟨wr.heap.size, 0, none⟩ = some (.string x.n) ∧ w'.cell? ⟨wr.heap.size, 1, none⟩ = some (.int .u64 x.at_))
          (first
            | go_keep
            | exact ⟨grown_cell hgA q1, grown_cell hgA q2⟩
            | exact ⟨cell_other hgB (grown_cell hgA q1) (by omega), cell_other hgB (grown_cell hgA q2) (by omega)⟩)
          (first
            | (go_at_call 64
               refine hch.mono ?_
               rintro r w2 ⟨rfl, hgA⟩)
            | (go_at_call 68
               refine (add_any _ (hst2.out _ hgA) hkl2.out hxo hn' hm'.out).mono ?_
               rintro r w3 ⟨rfl, hsB, hgB⟩))
        replace hsB : Hid _ := ⟨hsB⟩
        replace hgB : Hid _ := ⟨hgB⟩
        go_wp2_with fail
        go_roundw
        case rel =>
          refine ⟨k + 1, da, dc, D, by omega, rfl, by go_num, ⟨?_⟩⟩
          exact hA.out.stand hS.out hSl.out hx.out hxt (grown_none (grown_none hg1 (grown_drew _)) hgA) hW hLs hLm.out hck.out (by rw [hB.out]; exact hsB.out) hm'.out (by rw [hB.out]; exact hgB.out)
        case measure => simp [intOf]; omega
      · have hd2 : decide (x.at_ > t) = false := by simp; omega
        have hd3 : decide (t < x.at_) = false := by simp; omega
        go_wp2_with fail
        have hX := hW.keep (grown_none hg1 (grown_drew _))
        have c1 := (hW.keep hg1).c1
        have q1 : (wr.alloc (.cells #[.string x.n, .int .u64 x.at_] 86)).cell? ⟨wr.heap.size, 0, none⟩ = some (.string x.n) := by simp
        have q2 : (wr.alloc (.cells #[.string x.n, .int .u64 x.at_] 86)).cell? ⟨wr.heap.size, 1, none⟩ = some (.int .u64 x.at_) := by simp
        have hbl : bd < wr.heap.size := hW.dl.lt
        obtain ⟨w3, hrun, hd4, hg4⟩ := hX.dl.drop hLs hxo.1 0
        have q3 := cell_other hg4 q1 (by omega)
        have q4 := cell_other hg4 q2 (by omega)
        have hg5 := World.grownBy_alloc w3 (.cells #[.string x.n, .int .u64 x.at_] 86) none
        have hrodl : ∀ j, (Value.slice da D.length dc).ownBlock = some j → w.heap.size ≤ j := fun j hj => (hA.out.ned j hj).1
        have hwl := hSl.out _ (hS.out bd (.inr (.inl rfl)))
        have hrd : Rw 86 (w3.alloc (.cells #[.string x.n, .int .u64 x.at_] 86)) (.slice da D.length dc) D := World.ownsRow.kept (World.ownsRow.kept (World.ownsRow.kept hA.out.rod (grown_none hg1 (grown_drew _)) (Classical.em _)) hg4 (.inr fun e => by have := hrodl _ e; omega)) hg5 (Classical.em _)
        have hDl : D.length ≤ 100000 := by
          rw [hA.out.de]
          refine Nat.le_trans (List.length_filter_le _ _) ?_
          rw [List.length_take]
          omega
        obtain ⟨a2, c2, w4, hrun2, hr2, hg6, ho⟩ := run_append_t (w3.alloc (.cells #[.string x.n, .int .u64 x.at_] 86)) (.slice da D.length dc) D x w3.heap.size ⟨by simp, by simp⟩ hrd (by omega) 83
        replace hd4 : Hid _ := ⟨hd4⟩
        replace hg4 : Hid _ := ⟨hg4⟩
        replace hr2 : Hid _ := ⟨hr2⟩
        replace hg6 : Hid _ := ⟨hg6⟩
        replace ho : Hid _ := ⟨ho⟩
        replace hrodl : Hid _ := ⟨hrodl⟩
        replace hrd : Hid _ := ⟨hrd⟩
        clear e1 e2
        go_region
        go_wp2_with (at_builtin; refine wpList_append_run rfl _ _ 83 rfl _ _ rfl rfl hrun2 ?_)
        go_roundw
        case rel =>
          refine ⟨k + 1, a2, c2, D ++ [x], by omega, by simp, by go_num, ⟨?_⟩⟩
          have hlen2 : (D ++ [x]).length = D.length + 1 := by simp
          rw [hlen2]
          exact hA.out.take hS.out hSl.out hxL.out (fun y hy en => hsr.un y hy x hxL.out en) hx.out (by omega) (grown_none hg1 (grown_drew _)) hW hLs hLm.out hck.out hd4.out hg4.out hg5 hr2.out hg6.out ho.out
        case measure => simp [intOf]; omega
    · have hd1 : decide ((k : Int) < M.length) = false := by simp; omega
      have hke : k = M.length := by omega
      subst hke
      obtain ⟨hwh, hDm⟩ := hA.out.done hS.out hsr hab.out hok.out hlen hnw ht hlt hK.out hL.out.mem hK65
      have hDn : D.Nodup := by rw [hA.out.de, List.take_length]; exact hL.out.nd.sublist List.filter_sublist
      have hDl : Hid (D.length = (due t L).length) := ⟨len_mem hDn (hsr.due t).nodup hDm⟩
      have hdl : Hid ((due t L).length ≤ 100000) := ⟨Nat.le_trans (List.length_filter_le _ _) hlen⟩
      replace hwh : Hid _ := ⟨hwh⟩
      replace hDm : Hid _ := ⟨hDm⟩
      have hkp := hA.out.kp
      have hned := hA.out.ned
      have hrod := hA.out.rod
      replace hkp : Hid _ := ⟨hkp⟩
      replace hned : Hid _ := ⟨hned⟩
      by_cases hD0 : D.length = 0
      · have hDe : D = [] := List.eq_nil_of_length_eq_zero hD0
        have hdu : due t L = [] := List.eq_nil_of_length_eq_zero (by rw [← hDl.out]; exact hD0)
        subst hDe
        replace hdu : Hid _ := ⟨hdu⟩
        replace hrod : Hid _ := ⟨hrod⟩
        clear hD0
        go_wp2_with fail
        refine (sort_none wr da dc _).mono ?_
        rintro r w2 ⟨rfl, rfl⟩
        go_wp2
        go_ret
        exact ⟨da, dc, by rw [hdu.out]; rfl, by rw [hdu.out]; exact hrod.out, fun j hj => (hned.out j (by rw [hdu.out] at hj; exact hj)).1, hwh.out, hkp.out⟩
      · have hsh : ∃ g, da = some ⟨g, 0, none⟩ := by
          rcases hrod.2 with ⟨e, h0⟩ | ⟨g, c, cur, e, _⟩
          · exact absurd h0 hD0
          · simp only [Value.slice.injEq] at e
            exact ⟨g, e.1⟩
        obtain ⟨g, rfl⟩ := hsh
        have hgw : w.heap.size ≤ g := (hned.out g rfl).1
        replace hD0 : Hid _ := ⟨hD0⟩
        go_wp2_with fail
        refine (sort_any wr hrod (by rw [hDl.out]; exact hdl.out)).mono ?_
        rintro r w2 ⟨rfl, ts, hr2, hpm, hup, hg2⟩
        have hts : ts = due t L := (hsr.due t).of_up (hpm.nodup_iff.2 hDn) hup fun x => hpm.mem_iff.trans (hDm.out x)
        replace hr2 : Hid _ := ⟨hr2⟩
        replace hts : Hid _ := ⟨hts⟩
        replace hg2 : Hid _ := ⟨hg2⟩
        go_wp2
        go_ret
        have hKp2 : Kp S w w2 := hkp.out.trans (Kp.of (C := fun j => w.heap.size ≤ j) hg2.out fun j hj => by cases hj; exact hgw) fun i hi h2 => by omega
        refine ⟨some ⟨g, 0, none⟩, dc, by rw [← hDl.out]; rfl, by rw [← hDl.out, ← hts.out]; exact hr2.out, fun j hj => by simp [Value.ownBlock] at hj; subst hj; exact hgw, hwh.out.kept fun j hj hjl => hg2.out.block j hjl fun e => ?_, hKp2⟩
        have h3 := hSl.out j hj
        simp at e
        omega
set_option maxRecDepth 100000 in
set_option maxHeartbeats 1000000 in
/-- .. to one that is not. -/
theorem adv_none (w : World) {S : Nat → Prop} {wb : Nat} {now : Int} {L : List E} (h : Wh S w wb now L) (t : Int) (ht : t ≤ now) :
    Calls Tryz.prog 45 #[.pointer (some ⟨wb, 0, none⟩), .int .u64 t] w fun r w' => r = .returned (.slice none 0 0) ∧ w' = w := by
  have hd : decide (t ≤ now) = true := by simpa using ht
  have c0 : w.cell? ⟨wb, 0, none⟩ = some (.int .u64 now) := by obtain ⟨bd, bs, h1, h2⟩ := h.ex; exact h1.c0
  go_enter Tryz.func45, Tryz.ntmps45
  go_wp2
  go_ret
  exact ⟨rfl, rfl⟩
set_option maxRecDepth 100000 in
set_option maxHeartbeats 1000000 in
theorem adv_nil (w : World) (t : Int) : Calls Tryz.prog 45 #[.pointer none, .int .u64 t] w fun r w' => r = .returned (.slice none 0 0) ∧ w' = w := by
  go_enter Tryz.func45, Tryz.ntmps45
  go_wp2
  go_ret
  exact ⟨rfl, rfl⟩
end Go.Proofs.YtblnhcnfeagjhaaGreatDoor.W
