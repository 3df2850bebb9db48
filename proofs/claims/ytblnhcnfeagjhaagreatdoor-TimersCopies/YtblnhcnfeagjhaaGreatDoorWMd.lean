/- loosen: what a leap of the clock takes out of the sets. -/
import Derived.Test.YtblnhcnfeagjhaaGreatDoorWMc
import Derived.WalkMore
namespace Go.Proofs.YtblnhcnfeagjhaaGreatDoor.W
open Go.RowKit Go.IntWalk Go.Maps Go.Shelf
set_option linter.unusedVariables false
/-- 'append(l, m...)'. -/
theorem run_append_ts (w : World) (rv : Value) (es fs : List E) (B cap' : Nat) (hB : Rw 86 w (.slice (some ⟨B, 0, none⟩) fs.length cap') fs) (hrow : Rw 86 w rv es) (hl : es.length + fs.length ≤ 1000000) (ty : TypeId) :
    ∃ a cap w', (Builtin.append_ #[83, 83] ty #[rv, .slice (some ⟨B, 0, none⟩) fs.length cap']).run Tryz.prog w = .ok (.slice a (es ++ fs).length cap) w' ∧ Rw 86 w' (.slice a (es ++ fs).length cap) (es ++ fs) ∧ w.grownBy w' rv.ownBlock ∧
      ((Value.slice a (es ++ fs).length cap).ownBlock = rv.ownBlock ∨ ∃ k, (Value.slice a (es ++ fs).length cap).ownBlock = some k ∧ w.heap.size ≤ k) := by
  obtain ⟨i0, hi, hz0, hz1, hz2⟩ := info_parts Tryz.info86
  have hone : ∀ u ∈ cellsE fs, u.oneCell' = true := fun u hu => by
    obtain ⟨e, _, he⟩ := List.mem_flatMap.1 hu
    simp only [E.cells, List.mem_cons, List.not_mem_nil, or_false] at he
    rcases he with rfl | rfl <;> rfl
  obtain ⟨v', w', hrun, h1, h2, _, h4⟩ := run_append_own_at (P := Tryz.prog) (w := w) 0 83 ty 86 i0 (.agg #[.string ByteArray.empty, .int .u64 0]) 2 24 Tryz.underlying83 hi hz0 hz1 hz2 rfl (by decide) rv es.length _ hrow ⟨B, 0, none⟩ fs.length cap' (cellsE fs) (cellsE_len fs) (fun j u hj => hB.cells (g := B) rfl j u hj) hone (by unfold maxLen; omega) (by omega) (by omega)
  have hlen : (es ++ fs).length = es.length + fs.length := by simp
  rw [← cellsE_app] at h1
  obtain ⟨a, cap, rfl⟩ : ∃ a cap, v' = .slice a (es ++ fs).length cap := by
    rw [hlen]
    rcases h1.2 with ⟨e1, h0⟩ | ⟨g, c, cur, e1, _⟩
    · exact ⟨none, 0, by rw [e1, h0]⟩
    · exact ⟨_, _, e1⟩
  refine ⟨a, cap, w', hrun, by unfold Rw; rw [hlen] at *; exact h1, h2, ?_⟩
  rcases h4 with h4 | h4
  · exact .inl h4
  · exact .inr ⟨_, h4, by simp⟩
/-- k sets have been emptied into the row v, which holds M. -/
structure Lo (S : Nat → Prop) (w wr : World) (wb bd : Nat) (bs : Nat → Nat) (now : Int) (L : List E) (c : Nat → List E) (k : Nat) (v : Value) (M : List E) : Prop where
  wf : Wf wr wb bd bs now L (fun i => if i < k then [] else c i)
  row : Rw 86 wr v M
  new : ∀ j, v.ownBlock = some j → w.heap.size ≤ j
  nd : M.Nodup
  mem : ∀ x, x ∈ M ↔ ∃ i, i < k ∧ x ∈ c i
  kp : Kp S w wr
/-- What a wheel's sets are, one beside the other. -/
structure Cn (L : List E) (c : Nat → List E) : Prop where
  sub : ∀ i x, i < 65 → x ∈ c i → x ∈ L
  dis : ∀ i j x, i < 65 → j < 65 → x ∈ c i → x ∈ c j → i = j
  ndl : L.Nodup
  len : L.length ≤ 100000
theorem sub_len {M L : List E} (hn : M.Nodup) (hs : ∀ x ∈ M, x ∈ L) : M.length ≤ L.length := hn.length_le_of_subset hs
section
variable {S : Nat → Prop} {w wr : World} {wb bd : Nat} {bs : Nat → Nat} {now : Int} {L : List E} {c : Nat → List E} {k : Nat} {v : Value} {M : List E}
theorem Lo.start (h : Wf w wb bd bs now L c) : Lo S w w wb bd bs now L c 0 (.slice none 0 0) [] := by
  refine ⟨?_, World.ownsRow_nil _ _ _ _, by simp [Value.ownBlock], by simp, fun x => by simp, Kp.refl S w⟩
  have : (fun i => if i < 0 then [] else c i) = c := by funext i; simp
  rw [this]
  exact h
/-- One more is emptied: ahead of the append. -/
theorem Lo.next (hC : Cn L c) (h : Lo S w wr wb bd bs now L c k v M) (hS : ∀ j, fpw wb bd bs j → S j) (hSl : ∀ j, S j → j < w.heap.size) (hk : k < 65) {w1 : World} {g cap : Nat} {ss : List E}
    (hr : Rw 86 w1 (.slice (some ⟨g, 0, none⟩) ss.length cap) ss) (hg : wr.heap.size ≤ g) (hn : ss.Nodup) (hm : ∀ x, x ∈ ss ↔ x ∈ c k) (hs : Sset w1 (bs k) []) (hg1 : wr.grownBy w1 (some (bs k))) :
    ∃ a ca w2, (Builtin.append_ #[83, 83] 83 #[v, .slice (some ⟨g, 0, none⟩) ss.length cap]).run Tryz.prog w1 = .ok (.slice a (M ++ ss).length ca) w2 ∧ Lo S w w2 wb bd bs now L c (k + 1) (.slice a (M ++ ss).length ca) (M ++ ss) := by
  have hbk : S (bs k) := hS _ (.inr (.inr ⟨k, hk, rfl⟩))
  have hbl := hSl _ hbk
  have hrow1 : Rw 86 w1 v M := World.ownsRow.kept h.row hg1 (Or.inr fun e => by have := h.new _ e; omega)
  have hdis : ∀ x, x ∈ M → x ∈ ss → False := fun x h1 h2 => by
    obtain ⟨i, hi, hx⟩ := (h.mem x).1 h1
    have := hC.dis i k x (by omega) hk hx ((hm x).1 h2)
    omega
  have hnd : (M ++ ss).Nodup := List.nodup_append.2 ⟨h.nd, hn, fun a ha b hb e => hdis a ha (e ▸ hb)⟩
  have hmem : ∀ x, x ∈ M ++ ss ↔ ∃ i, i < k + 1 ∧ x ∈ c i := fun x => by
    rw [List.mem_append, h.mem, hm]
    constructor
    · rintro (⟨i, hi, hx⟩ | hx)
      · exact ⟨i, by omega, hx⟩
      · exact ⟨k, by omega, hx⟩
    · rintro ⟨i, hi, hx⟩
      by_cases e : i = k
      · subst e; exact .inr hx
      · exact .inl ⟨i, by omega, hx⟩
  have hlen : (M ++ ss).length ≤ L.length := sub_len hnd fun x hx => by
    obtain ⟨i, hi, hx⟩ := (hmem x).1 hx
    exact hC.sub i x (by omega) hx
  have hLl := hC.len
  rw [List.length_append] at hlen
  obtain ⟨a, ca, w2, hrun, hr2, hg2, ho⟩ := run_append_ts w1 v M ss g cap hr hrow1 (by omega) 83
  refine ⟨a, ca, w2, hrun, ⟨?_, hr2, ?_, hnd, hmem, ?_⟩⟩
  · have w1f : Wf w1 wb bd bs now L (fun i => if i < k + 1 then [] else c i) := h.wf.turnSet hk hg1 hs fun j hj => by
      by_cases e : j = k
      · subst e; simp
      · by_cases e2 : j < k
        · simp [e, e2, show j < k + 1 by omega]
        · simp [e, e2, show ¬ j < k + 1 by omega]
    refine w1f.kept fun j hj => hg2.block j (w1f.fpl j hj) fun e => ?_
    have h1 := h.new j e.symm
    have h2 := hSl j (hS j hj)
    omega
  · intro j hj
    have hwr := h.kp.size
    rcases ho with ho | ⟨i, hi, hil⟩
    · exact h.new j (by rw [← ho]; exact hj)
    · rw [hi] at hj
      cases hj
      have := hg1.size
      omega
  · refine (h.kp.on (Kp.set hg1 hbk)).trans (Kp.of (C := fun j => w.heap.size ≤ j) hg2 fun j hj => h.new j hj) fun i hi h2 => ?_
    omega
end
set_option maxRecDepth 100000 in
set_option maxHeartbeats 2000000 in
/-- Wheel.loosen. -/
theorem loosen_any (w : World) {S : Nat → Prop} {wb bd : Nat} {bs : Nat → Nat} {now : Int} {L : List E} {c : Nat → List E} (h : Wf w wb bd bs now L c) (hC : Cn L c) (hS : ∀ j, fpw wb bd bs j → S j) (hSl : ∀ j, S j → j < w.heap.size) (t : Int) (ht : 0 ≤ t ∧ t < 18446744073709551616) (hlt : now < t) :
    Calls Tryz.prog 67 #[.pointer (some ⟨wb, 0, none⟩), .int .u64 t] w fun r w' => ∃ a cap M K, r = .returned (.slice a M.length cap) ∧ (∀ i, i < 65 → (i < K ↔ i ≤ pl now.toNat t.toNat)) ∧ K ≤ 65 ∧ Lo S w w' wb bd bs now L c K (.slice a M.length cap) M := by
  have hun := unlike_any t now w ht h.nw (by omega)
  have hnw := h.nw
  have hlv := lv_lt (a := t.toNat) (b := now.toNat) (by omega) (by omega) (by omega)
  have hfg := fg_lt t.toNat (lv t.toNat now.toNat)
  have hcf := fun w => figure_any t (lv t.toNat now.toNat) w ht hlv
  have hpl : pl now.toNat t.toNat = 16 * lv t.toNat now.toNat + fg t.toNat (lv t.toNat now.toNat) := rfl
  rw [hpl]
  have c0 := h.c0
  have hL0 := Lo.start (S := S) h
  clear hpl
  generalize fg t.toNat (lv t.toNat now.toNat) = f at *
  generalize lv t.toNat now.toNat = n at *
  replace hL0 : Hid _ := ⟨hL0⟩
  replace hS : Hid _ := ⟨hS⟩
  replace hSl : Hid _ := ⟨hSl⟩
  go_enter Tryz.func67, Tryz.ntmps67
  go_wp2
  go_step3
  go_wp2_with (go_at_call 86; refine hun.mono ?_; rintro e w' ⟨rfl, rfl⟩)
  go_step3
  go_wp2_with fail
  go_loopw [6, 15] (fun v i wr => ∃ (k : Nat) (a : Option Addr) (ca : Nat) (M : List E), k ≤ 4 ∧ v = .slice a M.length ca ∧ i = .int .i64 k ∧ Hid (16 * k ≤ 16 * n + f + 1) ∧ Hid (Lo S w' wr wb bd bs now L c (16 * k) (.slice a M.length ca) M))
    (fun _ i _ => 4 - (intOf i).toNat)
  case atStart => exact ⟨0, none, 0, [], by omega, rfl, rfl, ⟨by omega⟩, hL0⟩
  case round =>
    clear hL0
    obtain ⟨k, a, ca, M, hk, rfl, rfl, hT, hM⟩ := hrel
    by_cases hlt : k < 4
    · have hd : decide ((k : Int) < 4) = true := by simp; omega
      go_wp2_with fail
      go_loopw [6, 18] (fun v i wr => ∃ (q : Nat) (a : Option Addr) (ca : Nat) (M : List E), q ≤ 16 ∧ v = .slice a M.length ca ∧ i = .int .i64 q ∧ Hid (16 * k + q ≤ 16 * n + f + 1) ∧ Hid (Lo S w' wr wb bd bs now L c (16 * k + q) (.slice a M.length ca) M))
        (fun _ i _ => 16 - (intOf i).toNat)
      case atStart => exact ⟨0, a, ca, M, by omega, rfl, rfl, hT, hM⟩
      case round =>
        clear hM hT
        obtain ⟨q, a, ca, M, hq, rfl, rfl, hT, hM⟩ := hrel
        by_cases hlq : q < 16
        · have hdq : decide ((q : Int) < 16) = true := by simp; omega
          by_cases hbr : 16 * n + f < 16 * k + q
          · -- the clock does not come here
            have hK : Hid (∀ i, i < 65 → (i < 16 * k + q ↔ i ≤ 16 * n + f)) := ⟨fun i hi => by have := hT.out; omega⟩
            have hn4 : n < 4 := by omega
            have hd4 : decide (4 ≤ n) = false := by simp; omega
            have hd5 : decide ((n : Int) ≥ 4) = false := by simp; omega
            by_cases hkn : n < k
            · have hd1 : decide (n < k) = true := by simp; omega
              go_wp2_with fail
              rw [Exit.noGoto_ret]
              go_ret
              exact ⟨a, ca, M, 16 * k + q, rfl, hK.out, by omega, hM.out⟩
            · have hkn2 : k = n := by omega
              have hd1 : decide (n < k) = false := by simp; omega
              have hd2 : ((k : Int) == n) = true := by simp; omega
              have hd3 : decide (f < q) = true := by simp; omega
              replace hkn2 : Hid _ := ⟨hkn2⟩
              go_wp2_with (go_at_call 87; refine (hcf _).mono ?_; rintro e w' ⟨rfl, rfl⟩)
              rw [Exit.noGoto_ret]
              go_ret
              exact ⟨a, ca, M, 16 * k + q, rfl, hK.out, by omega, hM.out⟩
          · have cs := hM.out.wf.cs hlt hlq
            have hs1 := hM.out.wf.st (16 * k + q) (by omega)
            simp only [Nat.lt_irrefl, if_false] at hs1
            have hcl : Hid ((c (16 * k + q)).length ≤ 100000) := ⟨Nat.le_trans (sub_len hs1.nd fun x hx => hC.sub _ x (by omega) hx) hC.len⟩
            have hT2 : Hid (16 * k + (q + 1) ≤ 16 * n + f + 1) := ⟨by omega⟩
            generalize hB : bs (16 * k + q) = b at *
            by_cases hkn : k = n
            · have hd1 : decide (n < k) = false := by simp; omega
              have hd2 : ((k : Int) == n) = true := by simp; omega
              have hd3 : decide (f < q) = false := by simp; omega
              replace hkn : Hid _ := ⟨hkn⟩
              replace hB : Hid _ := ⟨hB⟩
              go_wp2_with (go_at_call 87; refine (hcf _).mono ?_; rintro e w' ⟨rfl, rfl⟩)
              refine (empty_any _ hs1 hcl.out).mono ?_
              rintro r w2 ⟨g, cap, ss, rfl, hr, hg, hn, hm, hs2, hg2⟩
              obtain ⟨a2, ca2, w3, hrun, hL3⟩ := hM.out.next hC hS.out hSl.out (by omega) hr hg hn hm (by rw [hB.out]; exact hs2) (by rw [hB.out]; exact hg2)
              replace hr : Hid _ := ⟨hr⟩
              replace hm : Hid _ := ⟨hm⟩
              replace hs2 : Hid _ := ⟨hs2⟩
              replace hg2 : Hid _ := ⟨hg2⟩
              replace hL3 : Hid _ := ⟨hL3⟩
              clear cs hs1
              go_wp2_with (at_builtin; refine wpList_append_run rfl _ _ 83 rfl _ _ rfl rfl hrun ?_)
              go_roundw
              case rel => exact ⟨q + 1, a2, ca2, M ++ ss, by omega, by simp, by go_num, hT2, hL3⟩
              case measure => simp [intOf]; omega
            · have hd1 : decide (n < k) = false := by simp; omega
              have hd2 : ((k : Int) == n) = false := by simp; omega
              replace hkn : Hid _ := ⟨hkn⟩
              replace hB : Hid _ := ⟨hB⟩
              go_wp2_with fail
              refine (empty_any _ hs1 hcl.out).mono ?_
              rintro r w2 ⟨g, cap, ss, rfl, hr, hg, hn, hm, hs2, hg2⟩
              obtain ⟨a2, ca2, w3, hrun, hL3⟩ := hM.out.next hC hS.out hSl.out (by omega) hr hg hn hm (by rw [hB.out]; exact hs2) (by rw [hB.out]; exact hg2)
              replace hr : Hid _ := ⟨hr⟩
              replace hm : Hid _ := ⟨hm⟩
              replace hs2 : Hid _ := ⟨hs2⟩
              replace hg2 : Hid _ := ⟨hg2⟩
              replace hL3 : Hid _ := ⟨hL3⟩
              clear cs hs1
              go_wp2_with (at_builtin; refine wpList_append_run rfl _ _ 83 rfl _ _ rfl rfl hrun ?_)
              go_roundw
              case rel => exact ⟨q + 1, a2, ca2, M ++ ss, by omega, by simp, by go_num, hT2, hL3⟩
              case measure => simp [intOf]; omega
        · have hdq : decide ((q : Int) < 16) = false := by simp; omega
          have hqe : q = 16 := by omega
          subst hqe
          go_wp2_with fail
          go_roundw
          case rel => exact ⟨k + 1, a, ca, M, by omega, rfl, by go_num, hT, hM⟩
          case measure => simp [intOf]; omega
    · have hd : decide ((k : Int) < 4) = false := by simp; omega
      have hke : k = 4 := by omega
      subst hke
      by_cases hn4 : n < 4
      · have hd4 : decide (4 ≤ n) = false := by simp; omega
        have hd5 : decide ((n : Int) ≥ 4) = false := by simp; omega
        go_wp2_with fail
        rw [Exit.noGoto_ret]
        go_ret
        exact ⟨a, ca, M, 64, rfl, fun i hi => by have := hT.out; omega, by omega, hM.out⟩
      · have hd4 : decide (4 ≤ n) = true := by simp; omega
        have hd5 : decide ((n : Int) ≥ 4) = true := by simp; omega
        have cs := hM.out.wf.cn (i := 64) (by omega)
        simp only [Nat.reduceAdd] at cs
        have hs1 := hM.out.wf.st 64 (by omega)
        simp only [Nat.reduceMul, Nat.lt_irrefl, if_false] at hs1
        have hcl : Hid ((c 64).length ≤ 100000) := ⟨Nat.le_trans (sub_len hs1.nd fun x hx => hC.sub _ x (by omega) hx) hC.len⟩
        generalize hB : bs 64 = b at *
        replace hB : Hid _ := ⟨hB⟩
        go_wp2_with fail
        refine (empty_any _ hs1 hcl.out).mono ?_
        rintro r w2 ⟨g, cap, ss, rfl, hr, hg, hn, hm, hs2, hg2⟩
        obtain ⟨a2, ca2, w3, hrun, hL3⟩ := hM.out.next hC hS.out hSl.out (by omega) hr hg hn hm (by show Sset w2 (bs 64) []; rw [hB.out]; exact hs2) (by show wr.grownBy w2 (some (bs 64)); rw [hB.out]; exact hg2)
        replace hr : Hid _ := ⟨hr⟩
        replace hm : Hid _ := ⟨hm⟩
        replace hs2 : Hid _ := ⟨hs2⟩
        replace hg2 : Hid _ := ⟨hg2⟩
        replace hL3 : Hid _ := ⟨hL3⟩
        clear cs hs1
        go_wp2_with (at_builtin; refine wpList_append_run rfl _ _ 83 rfl _ _ rfl rfl hrun ?_)
        rw [Exit.noGoto_ret]
        go_ret
        exact ⟨a2, ca2, M ++ ss, 65, by rw [List.length_append]; rfl, fun i hi => by omega, by omega, hL3.out⟩
end Go.Proofs.YtblnhcnfeagjhaaGreatDoor.W

/- Advance of a wheel. -/
namespace Go.Proofs.YtblnhcnfeagjhaaGreatDoor.W
open Go.RowKit Go.IntWalk Go.Maps Go.Shelf
set_option linter.unusedVariables false
/-- What is due, and what is not. -/
def due (t : Int) (L : List E) : List E := L.filter fun x => decide (x.at_ ≤ t)
def rst (t : Int) (L : List E) : List E := L.filter fun x => decide (t < x.at_)
theorem mem_due {t : Int} {L : List E} {x : E} : x ∈ due t L ↔ x ∈ L ∧ x.at_ ≤ t := by simp [due]
theorem mem_rst {t : Int} {L : List E} {x : E} : x ∈ rst t L ↔ x ∈ L ∧ t < x.at_ := by simp [rst]
theorem Srt.due {L : List E} (h : Srt L) (t : Int) : Srt (due t L) := h.sub List.filter_sublist
theorem Srt.rst {L : List E} (h : Srt L) (t : Int) : Srt (rst t L) := h.sub List.filter_sublist
/-- k timers of those that were loose have been gone through. -/
structure Ad (S : Nat → Prop) (w wr : World) (wb bd : Nat) (bs : Nat → Nat) (t : Int) (L : List E) (c : Nat → List E) (v : Value) (M : List E) (k : Nat) (d : Value) (D : List E) : Prop where
  wf : ∃ Lk ck, Wf wr wb bd bs t Lk ck ∧ Srt Lk ∧ (∀ x, x ∈ Lk ↔ x ∈ L ∧ ¬ (x ∈ M.take k ∧ x.at_ ≤ t)) ∧ ∀ i, i < 65 → ∀ x, x ∈ ck i ↔ x ∈ c i ∨ (x ∈ M.take k ∧ t < x.at_ ∧ pE t x = i)
  row : Rw 86 wr v M
  rod : Rw 86 wr d D
  de : D = due t (M.take k)
  nev : ∀ j, v.ownBlock = some j → w.heap.size ≤ j
  ned : ∀ j, d.ownBlock = some j → w.heap.size ≤ j ∧ v.ownBlock ≠ some j
  kp : Kp S w wr
theorem take_mem {M : List E} {k : Nat} {x y : E} (hx : M[k]? = some x) : y ∈ M.take (k + 1) ↔ y ∈ M.take k ∨ y = x := by
  rw [List.take_add_one, hx]
  simp
section
variable {S : Nat → Prop} {w wr w1 w2 : World} {wb bd : Nat} {bs : Nat → Nat} {t : Int} {L : List E} {c : Nat → List E} {v d d' : Value} {M D : List E} {k : Nat} {x : E}
/-- One that is not due stands anew. -/
theorem Ad.stand (h : Ad S w wr wb bd bs t L c v M k d D) (hS : ∀ j, fpw wb bd bs j → S j) (hSl : ∀ j, S j → j < w.heap.size) (hx : M[k]? = some x) (hxt : t < x.at_) {l : List E} {Lk : List E} {ck : Nat → List E} (hg1 : wr.grownBy w1 none)
    (hW : Wf wr wb bd bs t Lk ck) (hLs : Srt Lk) (hLm : ∀ y, y ∈ Lk ↔ y ∈ L ∧ ¬ (y ∈ M.take k ∧ y.at_ ≤ t)) (hck : ∀ i, i < 65 → ∀ y, y ∈ ck i ↔ y ∈ c i ∨ (y ∈ M.take k ∧ t < y.at_ ∧ pE t y = i))
    (hs : Sset w2 (bs (pE t x)) l) (hm : ∀ y, y ∈ l ↔ y = x ∨ y ∈ ck (pE t x)) (hg2 : w1.grownBy w2 (some (bs (pE t x)))) : Ad S w w2 wb bd bs t L c v M (k + 1) d D := by
  have hp : pE t x < 65 := plc_lt
  have hbS := hS _ (.inr (.inr ⟨_, hp, rfl⟩))
  have hbl := hSl _ hbS
  refine ⟨⟨Lk, fun i => if i = pE t x then l else ck i, (hW.keep hg1).turnSet hp hg2 hs fun j hj => rfl, hLs, fun y => ?_, fun i hi y => ?_⟩, ?_, ?_, ?_, h.nev, h.ned, (h.kp.on (Kp.of0 hg1)).on (Kp.set hg2 hbS)⟩
  · rw [hLm, take_mem hx]
    constructor
    · rintro ⟨a, b⟩
      refine ⟨a, ?_⟩
      rintro ⟨e | e, f⟩
      · exact b ⟨e, f⟩
      · subst e; omega
    · rintro ⟨a, b⟩
      exact ⟨a, fun e => b ⟨.inl e.1, e.2⟩⟩
  · rw [take_mem hx]
    by_cases e : i = pE t x
    · subst e
      simp only [if_true]
      rw [hm, hck _ hp]
      constructor
      · rintro (e | e | e)
        · subst e; exact .inr ⟨.inr rfl, hxt, rfl⟩
        · exact .inl e
        · exact .inr ⟨.inl e.1, e.2⟩
      · rintro (e | ⟨e | e, f⟩)
        · exact .inr (.inl e)
        · exact .inr (.inr ⟨e, f⟩)
        · exact .inl e
    · simp only [e, if_false]
      rw [hck i hi]
      constructor
      · rintro (e | e)
        · exact .inl e
        · exact .inr ⟨.inl e.1, e.2⟩
      · rintro (e2 | ⟨e2 | e2, f⟩)
        · exact .inl e2
        · exact .inr ⟨e2, f⟩
        · subst e2; exact absurd f.2.symm e
  · exact World.ownsRow.kept (World.ownsRow.kept h.row hg1 (Classical.em _)) hg2 (.inr fun e => by have := h.nev _ e; omega)
  · exact World.ownsRow.kept (World.ownsRow.kept h.rod hg1 (Classical.em _)) hg2 (.inr fun e => by have := (h.ned _ e).1; omega)
  · rw [h.de, List.take_add_one, hx]
    have : ¬ x.at_ ≤ t := by omega
    simp [due, this]
/-- One that is due is taken out. -/
theorem Ad.take (h : Ad S w wr wb bd bs t L c v M k d D) (hS : ∀ j, fpw wb bd bs j → S j) (hSl : ∀ j, S j → j < w.heap.size) (hxL : x ∈ L) (hun : ∀ y ∈ L, y.n = x.n → y = x) (hx : M[k]? = some x) (hxt : x.at_ ≤ t) {Lk : List E} {ck : Nat → List E} {wa wc wd : World} (hg1 : wr.grownBy wa none)
    (hW : Wf wr wb bd bs t Lk ck) (hLs : Srt Lk) (hLm : ∀ y, y ∈ Lk ↔ y ∈ L ∧ ¬ (y ∈ M.take k ∧ y.at_ ≤ t)) (hck : ∀ i, i < 65 → ∀ y, y ∈ ck i ↔ y ∈ c i ∨ (y ∈ M.take k ∧ t < y.at_ ∧ pE t y = i))
    (hd : Dl wc bd (delN x.n Lk)) (hg2 : wa.grownBy wc (some bd)) (hg3 : wc.grownBy wd none) (hr : Rw 86 w2 d' (D ++ [x])) (hg4 : wd.grownBy w2 d.ownBlock) (ho : d'.ownBlock = d.ownBlock ∨ ∃ j, d'.ownBlock = some j ∧ wd.heap.size ≤ j) : Ad S w w2 wb bd bs t L c v M (k + 1) d' (D ++ [x]) := by
  have hbS := hS _ (.inr (.inl rfl))
  have hbl := hSl _ hbS
  have hwr := h.kp.size
  have hwa := hg1.size
  have hwc := hg2.size
  have hwd := hg3.size
  have hrow : Rw 86 wd v M := World.ownsRow.kept (World.ownsRow.kept (World.ownsRow.kept h.row hg1 (Classical.em _)) hg2 (.inr fun e => by have := h.nev _ e; omega)) hg3 (Classical.em _)
  have hvl : ∀ j, v.ownBlock = some j → j < wr.heap.size := fun j hj => (h.row.lt j hj).2
  have w1 : Wf wd wb bd bs t (delN x.n Lk) ck := ((hW.keep hg1).turnDl hg2 hd).keep hg3
  refine ⟨⟨delN x.n Lk, ck, w1.kept fun j hj => hg4.block j (w1.fpl j hj) fun e => ?_, hLs.del _, fun y => ?_, fun i hi y => ?_⟩, ?_, hr, ?_, h.nev, fun j hj => ?_, ?_⟩
  · have h1 := (h.ned j e.symm).1
    have h2 := hSl j (hS j hj)
    omega
  · rw [mem_delN, hLm, take_mem hx]
    constructor
    · rintro ⟨⟨a, b⟩, cn⟩
      refine ⟨a, ?_⟩
      rintro ⟨e | e, f⟩
      · exact b ⟨e, f⟩
      · subst e; exact cn rfl
    · rintro ⟨a, b⟩
      exact ⟨⟨a, fun e => b ⟨.inl e.1, e.2⟩⟩, fun en => b ⟨.inr (hun y a en), by rw [hun y a en]; exact hxt⟩⟩
  · rw [hck i hi, take_mem hx]
    constructor
    · rintro (e | e)
      · exact .inl e
      · exact .inr ⟨.inl e.1, e.2⟩
    · rintro (e2 | ⟨e2 | e2, f⟩)
      · exact .inl e2
      · exact .inr ⟨e2, f⟩
      · subst e2
        have := f.1
        omega
  · refine World.ownsRow.kept hrow hg4 ?_
    cases hv : v.ownBlock with
    | none => exact .inl rfl
    | some j => exact .inr fun e => (h.ned j e.symm).2 hv
  · rw [h.de, List.take_add_one, hx]
    simp [due, hxt]
  · rcases ho with ho | ⟨i, hi, hil⟩
    · exact h.ned j (by rw [← ho]; exact hj)
    · rw [hi] at hj
      cases hj
      exact ⟨by omega, fun e => by have := hvl _ e; omega⟩
  · refine (((h.kp.on (Kp.of0 hg1)).on (Kp.set hg2 hbS)).on (Kp.of0 hg3)).trans (Kp.of (C := fun j => w.heap.size ≤ j) hg4 fun j hj => (h.ned j hj).1) fun i hi h2 => ?_
    omega
end
end Go.Proofs.YtblnhcnfeagjhaaGreatDoor.W

/- nearest and Soonest of a wheel. -/
namespace Go.Proofs.YtblnhcnfeagjhaaGreatDoor.W
open Go.RowKit Go.IntWalk Go.Maps Go.Shelf
set_option linter.unusedVariables false
/-- The first set that is not empty, or the far one. -/
def Fst (c : Nat → List E) (i : Nat) : Prop := i < 65 ∧ (∀ m, m < i → c m = []) ∧ (i < 64 → c i ≠ [])
set_option maxRecDepth 100000 in
set_option maxHeartbeats 2000000 in
/-- Wheel.nearest. -/
theorem nearest_any (w : World) {wb bd : Nat} {bs : Nat → Nat} {now : Int} {L : List E} {c : Nat → List E} (h : Wf w wb bd bs now L c) :
    Calls Tryz.prog 81 #[.pointer (some ⟨wb, 0, none⟩)] w fun r w' => ∃ i, r = .returned (.map (some (bs i))) ∧ Fst c i ∧ w' = w := by
  have cf := h.cn (i := 64) (by omega)
  simp only [Nat.reduceAdd] at cf
  go_enter Tryz.func81, Tryz.ntmps81
  go_wp2
  go_step3
  go_wp2
  go_step3
  go_wp2
  go_loop [3, 10] (fun v i => ∃ k : Nat, k ≤ 4 ∧ v = .map (some (bs 64)) ∧ i = .int .i64 k ∧ Hid (∀ m, m < 16 * k → c m = []))
    (fun _ i => 4 - (intOf i).toNat)
  case atStart => exact ⟨0, by omega, rfl, rfl, ⟨by omega⟩⟩
  case round =>
    obtain ⟨k, hk, rfl, rfl, hM⟩ := hrel
    by_cases hlt : k < 4
    · have hd : decide ((k : Int) < 4) = true := by simp; omega
      go_wp2_with fail
      go_loop [3, 13] (fun v i => ∃ q : Nat, q ≤ 16 ∧ v = .map (some (bs 64)) ∧ i = .int .i64 q ∧ Hid (∀ m, m < 16 * k + q → c m = []))
        (fun _ i => 16 - (intOf i).toNat)
      case atStart => exact ⟨0, by omega, rfl, rfl, hM⟩
      case round =>
        clear hM
        obtain ⟨q, hq, rfl, rfl, hM⟩ := hrel
        by_cases hlq : q < 16
        · have hdq : decide ((q : Int) < 16) = true := by simp; omega
          have cs := h.cs hlt hlq
          have hl := (h.st (16 * k + q) (by omega)).len 3
          have hi : ∃ i, i = 16 * k + q := ⟨_, rfl⟩
          by_cases he : c (16 * k + q) = []
          · have hz : (c (16 * k + q)).length = 0 := by rw [he]; rfl
            have hM2 : Hid (∀ m, m < 16 * k + (q + 1) → c m = []) := ⟨fun m hm => by
              by_cases e : m = 16 * k + q
              · rw [e]; exact he
              · exact hM.out m (by omega)⟩
            rw [hz] at hl
            clear hz he hi
            generalize bs (16 * k + q) = b at *
            go_wp2_with fail
            go_round
            case rel => exact ⟨q + 1, by omega, rfl, by go_num, hM2⟩
            case measure => simp [intOf]; omega
          · have hz : 0 < (c (16 * k + q)).length := List.length_pos_iff.2 he
            have hF : Hid (Fst c (16 * k + q)) := ⟨by omega, hM.out, fun _ => he⟩
            generalize (c (16 * k + q)).length = n at *
            have hd1 : decide ((n : Int) > 0) = true := by simp; omega
            have hd2 : decide (0 < n) = true := by simp; omega
            clear he hi
            generalize hB : bs (16 * k + q) = b at *
            replace hB : Hid _ := ⟨hB⟩
            go_wp2_with fail
            go_ret
            exact ⟨16 * k + q, by rw [hB.out]; rfl, hF.out, rfl⟩
        · have hdq : decide ((q : Int) < 16) = false := by simp; omega
          have hqe : q = 16 := by omega
          subst hqe
          go_wp2_with fail
          go_round
          case rel => exact ⟨k + 1, by omega, rfl, by go_num, hM⟩
          case measure => simp [intOf]; omega
    · have hd : decide ((k : Int) < 4) = false := by simp; omega
      have hke : k = 4 := by omega
      subst hke
      go_wp2_with fail
      go_ret
      exact ⟨64, rfl, ⟨by omega, hM.out, by omega⟩, rfl⟩
/-- The least of the first set that is not empty is the first of all. -/
theorem first_least {now : Int} {f : E} {L ss : List E} {i : Nat} {m : E} (hs : Srt (f :: L)) (hn : 0 ≤ now ∧ now < 18446744073709551616) (hab : ∀ e ∈ f :: L, now < e.at_) (hok : ∀ e ∈ f :: L, e.ok) (hF : Fst (atP now (f :: L)) i) (hm : ∀ x, x ∈ ss ↔ x ∈ atP now (f :: L) i) (hl : Least ss ss.length m) : m = f := by
  unfold Least at hl
  rw [List.take_length] at hl
  have hmL := (mem_atP.1 ((hm m).1 hl.1))
  have hf : f ∈ f :: L := by simp
  by_cases hp : pE now f = i
  · have h1 := hl.2 f ((hm f).2 (mem_atP.2 ⟨hf, hp⟩))
    rcases lt_tri m f with h | h | h
    · rcases List.mem_cons.1 hmL.1 with e | e
      · exact e
      · exact absurd h (lt_asymm (hs.head.1 m e))
    · exact h
    · exact absurd h h1
  · have h1 : i < pE now f := by
      rcases Nat.lt_trichotomy (pE now f) i with h | h | h
      · have := hF.2.1 _ h
        have h2 : f ∈ atP now (f :: L) (pE now f) := mem_atP.2 ⟨hf, rfl⟩
        rw [this] at h2
        cases h2
      · exact absurd h hp
      · exact h
    rw [← hmL.2] at h1
    have a1 := hok f hf
    have a2 := hok m hmL.1
    have b1 := hab f hf
    have b2 := hab m hmL.1
    unfold E.ok at a1 a2
    have h3 := plc_ahead (n := now.toNat) (a := m.at_.toNat) (b := f.at_.toNat) (by omega) (by omega) (by omega) (by omega) (by omega) h1
    rcases List.mem_cons.1 hmL.1 with e | e
    · exact e
    · exact absurd (Or.inl (by omega) : lt m f) (lt_asymm (hs.head.1 m e))
theorem run_field (n : ByteArray) (a : Int) (w : World) : (Instr.field 86 (.agg #[.string n, .int .u64 a]) 1).run Tryz.prog w = .ok (.int .u64 a) w := by
  have h1 := Tryz.isAgg22 w
  simp [Instr.field, Go.run_underlying Tryz.underlying86, Result.andThen, part, h1, asAgg]
/-- What Soonest tells. -/
def soonT (L : List E) : Int := match L with | [] => 0 | f :: _ => f.at_
def soonB (L : List E) : Bool := match L with | [] => false | _ :: _ => true
set_option maxRecDepth 100000 in
set_option maxHeartbeats 2000000 in
/-- Wheel.Soonest. -/
theorem soon_any (w : World) {S : Nat → Prop} {wb : Nat} {now : Int} {L : List E} (h : Wh S w wb now L) :
    Calls Tryz.prog 58 #[.pointer (some ⟨wb, 0, none⟩)] w fun r w' => r = .returned (.tuple #[.int .u64 (soonT L), .bool (soonB L)]) ∧ w.grownBy w' none := by
  have hcl := len_any w h
  cases L with
  | nil =>
    go_enter Tryz.func58, Tryz.ntmps58
    go_wp2_with (go_at_call 79; refine hcl.mono ?_; rintro e w' ⟨rfl, rfl⟩)
    go_ret2
    exact ⟨rfl, grown_refl _⟩
  | cons f L =>
    obtain ⟨bd, bs, h1, h2⟩ := h.ex
    have hcn := nearest_any w h1
    have hlen := h.len
    have hsr := h.srt
    have hnw := h.nw
    have hab := h.abv
    have hok := h.ok
    have hne : (((f :: L).length : Int) == 0) = false := by simp; omega
    generalize hn : (f :: L).length = n at *
    have hgn : (n : Int) ≠ 0 := by simpa using hne
    replace hn : Hid _ := ⟨hn⟩
    go_enter Tryz.func58, Tryz.ntmps58
    go_wp2_with (go_at_call 79; refine hcl.mono ?_; rintro e w' ⟨rfl, rfl⟩)
    refine hcn.mono ?_
    rintro r w1 ⟨i, rfl, hF, rfl⟩
    have hS := h1.st i hF.1
    have hal := atP_len now (f :: L) i
    have hpos : 0 < (atP now (f :: L) i).length := by
      rcases Nat.lt_or_ge i 64 with hi | hi
      · exact List.length_pos_iff.2 (hF.2.2 hi)
      · have hi' : i = 64 := by have := hF.1; omega
        have hp : pE now f = 64 := by
          have h3 : pE now f < 65 := plc_lt
          rcases Nat.lt_or_ge (pE now f) 64 with h4 | h4
          · have h5 := hF.2.1 (pE now f) (by omega)
            have h6 : f ∈ atP now (f :: L) (pE now f) := mem_atP.2 ⟨by simp, rfl⟩
            rw [h5] at h6
            cases h6
          · omega
        exact List.length_pos_of_mem (mem_atP.2 ⟨by simp, by rw [hp, hi']⟩ : f ∈ atP now (f :: L) i)
    replace hF : Hid _ := ⟨hF⟩
    have hal2 : Hid ((atP now (f :: L) i).length ≤ 100000) := ⟨by have := hn.out; omega⟩
    clear hal
    replace hpos : Hid _ := ⟨hpos⟩
    replace hab : Hid _ := ⟨hab⟩
    replace hok : Hid _ := ⟨hok⟩
    go_wp2_with fail
    refine (timers_any w1 hS hal2.out).mono ?_
    rintro r w2 ⟨g, cap, ss, rfl, hr, hg, hnd, hm, hgr⟩
    have hsl : Hid (ss.length = (atP now (f :: L) i).length) := ⟨len_mem hnd hS.nd hm⟩
    replace hm : Hid _ := ⟨hm⟩
    go_wp2_with fail
    refine (min_any w2 hr (by rw [hsl.out]; exact hal2.out) (by rw [hsl.out]; exact hpos.out)).mono ?_
    rintro r w3 ⟨m, rfl, hl, hg3⟩
    have hmf : m = f := first_least hsr hnw hab.out hok.out hF.out hm.out hl
    subst hmf
    have hg4 := grown_none hgr hg3
    replace hl : Hid _ := ⟨hl⟩
    have hfd := run_field m.n m.at_ w3
    go_wp2
    go_ret2
    exact ⟨rfl, hg4⟩
set_option maxRecDepth 100000 in
set_option maxHeartbeats 1000000 in
theorem soon_nil (w : World) : Calls Tryz.prog 58 #[.pointer none] w fun r w' => r = .returned (.tuple #[.int .u64 0, .bool false]) ∧ w' = w := by
  go_enter Tryz.func58, Tryz.ntmps58
  go_wp2_with (go_at_call 79; refine (len_nil _).mono ?_; rintro e w' ⟨rfl, rfl⟩)
  go_ret2
  exact ⟨rfl, rfl⟩
end Go.Proofs.YtblnhcnfeagjhaaGreatDoor.W
