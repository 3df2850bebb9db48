/- loosen: what a leap of the clock takes out of the sets. -/
import Derived.Test.YtlljfgpmjpmoiaaOpr
import Derived.WalkMore
namespace Go.Proofs.Ytlljfgpmjpmoiaa
open Go.RowKit Go.IntWalk Go.Maps Go.Shelf
set_option linter.unusedVariables false
/-- 'append(l, m...)'. -/
theorem run_append_ts (w : World) (rv : Value) (es fs : List E) (B cap' : Nat) (hB : Rw 52 w (.slice (some ⟨B, 0, none⟩) fs.length cap') fs) (hrow : Rw 52 w rv es) (hl : es.length + fs.length ≤ 1000000) (ty : TypeId) :
    ∃ a cap w', (Builtin.append_ #[36, 36] ty #[rv, .slice (some ⟨B, 0, none⟩) fs.length cap']).run Try.prog w = .ok (.slice a (es ++ fs).length cap) w' ∧ Rw 52 w' (.slice a (es ++ fs).length cap) (es ++ fs) ∧ w.grownBy w' rv.ownBlock ∧
      ((Value.slice a (es ++ fs).length cap).ownBlock = rv.ownBlock ∨ ∃ k, (Value.slice a (es ++ fs).length cap).ownBlock = some k ∧ w.heap.size ≤ k) := by
  obtain ⟨i0, hi, hz0, hz1, hz2⟩ := info_parts Try.info52
  have hone : ∀ u ∈ cellsE fs, u.oneCell' = true := fun u hu => by
    obtain ⟨e, _, he⟩ := List.mem_flatMap.1 hu
    simp only [E.cells, List.mem_cons, List.not_mem_nil, or_false] at he
    rcases he with rfl | rfl <;> rfl
  obtain ⟨v', w', hrun, h1, h2, _, h4⟩ := run_append_own_at (P := Try.prog) (w := w) 0 36 ty 52 i0 (.agg #[.string ByteArray.empty, .int .u64 0]) 2 24 Try.underlying36 hi hz0 hz1 hz2 rfl (by decide) rv es.length _ hrow ⟨B, 0, none⟩ fs.length cap' (cellsE fs) (cellsE_len fs) (fun j u hj => hB.cells (g := B) rfl j u hj) hone (by unfold maxLen; omega) (by omega) (by omega)
  have hlen : (es ++ fs).length = es.length + fs.length := by simp
  rw [← cellsE_app] at h1
  obtain ⟨a, cap, rfl⟩ : ∃ a cap, v' = .slice a (es ++ fs).length cap := by
    rw [hlen]
    rcases h1.2 with ⟨e1, h0⟩ | ⟨g, c, cur, e1, _⟩
    · exact ⟨none, 0, by rw [e1, h0]⟩
    · exact ⟨_, _, e1⟩
  refine ⟨a, cap, w', hrun, by unfold Rw; rw [hlen] at *; exact h1, h2, ?_⟩
  rcases h4 with h4 | h4
  · exact .inl h4
  · exact .inr ⟨_, h4, by simp⟩
/-- k sets have been emptied into the row v, which holds M. -/
structure Lo (S : Nat → Prop) (w wr : World) (wb bd : Nat) (bs : Nat → Nat) (now : Int) (L : List E) (c : Nat → List E) (k : Nat) (v : Value) (M : List E) : Prop where
  wf : Wf wr wb bd bs now L (fun i => if i < k then [] else c i)
  row : Rw 52 wr v M
  new : ∀ j, v.ownBlock = some j → w.heap.size ≤ j
  nd : M.Nodup
  mem : ∀ x, x ∈ M ↔ ∃ i, i < k ∧ x ∈ c i
  kp : Kp S w wr
/-- What a wheel's sets are, one beside the other. -/
structure Cn (L : List E) (c : Nat → List E) : Prop where
  sub : ∀ i x, i < 65 → x ∈ c i → x ∈ L
  dis : ∀ i j x, i < 65 → j < 65 → x ∈ c i → x ∈ c j → i = j
  ndl : L.Nodup
  len : L.length ≤ 100000
theorem sub_len {M L : List E} (hn : M.Nodup) (hs : ∀ x ∈ M, x ∈ L) : M.length ≤ L.length := hn.length_le_of_subset hs
section
variable {S : Nat → Prop} {w wr : World} {wb bd : Nat} {bs : Nat → Nat} {now : Int} {L : List E} {c : Nat → List E} {k : Nat} {v : Value} {M : List E}
theorem Lo.start (h : Wf w wb bd bs now L c) : Lo S w w wb bd bs now L c 0 (.slice none 0 0) [] := by
  refine ⟨?_, World.ownsRow_nil _ _ _ _, by simp [Value.ownBlock], by simp, fun x => by simp, Kp.refl S w⟩
  have : (fun i => if i < 0 then [] else c i) = c := by funext i; simp
  rw [this]
  exact h
/-- One more is emptied: ahead of the append. -/
theorem Lo.next (hC : Cn L c) (h : Lo S w wr wb bd bs now L c k v M) (hS : ∀ j, fpw wb bd bs j → S j) (hSl : ∀ j, S j → j < w.heap.size) (hk : k < 65) {w1 : World} {g cap : Nat} {ss : List E}
    (hr : Rw 52 w1 (.slice (some ⟨g, 0, none⟩) ss.length cap) ss) (hg : wr.heap.size ≤ g) (hn : ss.Nodup) (hm : ∀ x, x ∈ ss ↔ x ∈ c k) (hs : Sset w1 (bs k) []) (hg1 : wr.grownBy w1 (some (bs k))) :
    ∃ a ca w2, (Builtin.append_ #[36, 36] 36 #[v, .slice (some ⟨g, 0, none⟩) ss.length cap]).run Try.prog w1 = .ok (.slice a (M ++ ss).length ca) w2 ∧ Lo S w w2 wb bd bs now L c (k + 1) (.slice a (M ++ ss).length ca) (M ++ ss) := by
  have hbk : S (bs k) := hS _ (.inr (.inr ⟨k, hk, rfl⟩))
  have hbl := hSl _ hbk
  have hrow1 : Rw 52 w1 v M := World.ownsRow.kept h.row hg1 (Or.inr fun e => by have := h.new _ e; omega)
  have hdis : ∀ x, x ∈ M → x ∈ ss → False := fun x h1 h2 => by
    obtain ⟨i, hi, hx⟩ := (h.mem x).1 h1
    have := hC.dis i k x (by omega) hk hx ((hm x).1 h2)
    omega
  have hnd : (M ++ ss).Nodup := List.nodup_append.2 ⟨h.nd, hn, fun a ha b hb e => hdis a ha (e ▸ hb)⟩
  have hmem : ∀ x, x ∈ M ++ ss ↔ ∃ i, i < k + 1 ∧ x ∈ c i := fun x => by
    rw [List.mem_append, h.mem, hm]
    constructor
    · rintro (⟨i, hi, hx⟩ | hx)
      · exact ⟨i, by omega, hx⟩
      · exact ⟨k, by omega, hx⟩
    · rintro ⟨i, hi, hx⟩
      by_cases e : i = k
      · subst e; exact .inr hx
      · exact .inl ⟨i, by omega, hx⟩
  have hlen : (M ++ ss).length ≤ L.length := sub_len hnd fun x hx => by
    obtain ⟨i, hi, hx⟩ := (hmem x).1 hx
    exact hC.sub i x (by omega) hx
  have hLl := hC.len
  rw [List.length_append] at hlen
  obtain ⟨a, ca, w2, hrun, hr2, hg2, ho⟩ := run_append_ts w1 v M ss g cap hr hrow1 (by omega) 36
  refine ⟨a, ca, w2, hrun, ⟨?_, hr2, ?_, hnd, hmem, ?_⟩⟩
  · have w1f : Wf w1 wb bd bs now L (fun i => if i < k + 1 then [] else c i) := h.wf.turnSet hk hg1 hs fun j hj => by
      by_cases e : j = k
      · subst e; simp
      · by_cases e2 : j < k
        · simp [e, e2, show j < k + 1 by omega]
        · simp [e, e2, show ¬ j < k + 1 by omega]
    refine w1f.kept fun j hj => hg2.block j (w1f.fpl j hj) fun e => ?_
    have h1 := h.new j e.symm
    have h2 := hSl j (hS j hj)
    omega
  · intro j hj
    have hwr := h.kp.size
    rcases ho with ho | ⟨i, hi, hil⟩
    · exact h.new j (by rw [← ho]; exact hj)
    · rw [hi] at hj
      cases hj
      have := hg1.size
      omega
  · refine (h.kp.on (Kp.set hg1 hbk)).trans (Kp.of (C := fun j => w.heap.size ≤ j) hg2 fun j hj => h.new j hj) fun i hi h2 => ?_
    omega
end
set_option maxRecDepth 100000 in
set_option maxHeartbeats 2000000 in
/-- Wheel.loosen. -/
theorem loosen_any (w : World) {S : Nat → Prop} {wb bd : Nat} {bs : Nat → Nat} {now : Int} {L : List E} {c : Nat → List E} (h : Wf w wb bd bs now L c) (hC : Cn L c) (hS : ∀ j, fpw wb bd bs j → S j) (hSl : ∀ j, S j → j < w.heap.size) (t : Int) (ht : 0 ≤ t ∧ t < 18446744073709551616) (hlt : now < t) :
    Calls Try.prog 31 #[.pointer (some ⟨wb, 0, none⟩), .int .u64 t] w fun r w' => ∃ a cap M K, r = .returned (.slice a M.length cap) ∧ (∀ i, i < 65 → (i < K ↔ i ≤ pl now.toNat t.toNat)) ∧ K ≤ 65 ∧ Lo S w w' wb bd bs now L c K (.slice a M.length cap) M := by
  have hun := unlike_any t now w ht h.nw (by omega)
  have hnw := h.nw
  have hlv := lv_lt (a := t.toNat) (b := now.toNat) (by omega) (by omega) (by omega)
  have hfg := fg_lt t.toNat (lv t.toNat now.toNat)
  have hcf := fun w => figure_any t (lv t.toNat now.toNat) w ht hlv
  have hpl : pl now.toNat t.toNat = 16 * lv t.toNat now.toNat + fg t.toNat (lv t.toNat now.toNat) := rfl
  rw [hpl]
  have c0 := h.c0
  have hL0 := Lo.start (S := S) h
  clear hpl
  generalize fg t.toNat (lv t.toNat now.toNat) = f at *
  generalize lv t.toNat now.toNat = n at *
  replace hL0 : Hid _ := ⟨hL0⟩
  replace hS : Hid _ := ⟨hS⟩
  replace hSl : Hid _ := ⟨hSl⟩
  go_enter Try.func31, Try.ntmps31
  go_wp2
  go_step3
  go_wp2_with (go_at_call 40; refine hun.mono ?_; rintro e w' ⟨rfl, rfl⟩)
  go_step3
  go_wp2_with fail
  go_loopw [6, 15] (fun v i wr => ∃ (k : Nat) (a : Option Addr) (ca : Nat) (M : List E), k ≤ 4 ∧ v = .slice a M.length ca ∧ i = .int .i64 k ∧ Hid (16 * k ≤ 16 * n + f + 1) ∧ Hid (Lo S w' wr wb bd bs now L c (16 * k) (.slice a M.length ca) M))
    (fun _ i _ => 4 - (intOf i).toNat)
  case atStart => exact ⟨0, none, 0, [], by omega, rfl, rfl, ⟨by omega⟩, hL0⟩
  case round =>
    clear hL0
    obtain ⟨k, a, ca, M, hk, rfl, rfl, hT, hM⟩ := hrel
    by_cases hlt : k < 4
    · have hd : decide ((k : Int) < 4) = true := by simp; omega
      go_wp2_with fail
      go_loopw [6, 18] (fun v i wr => ∃ (q : Nat) (a : Option Addr) (ca : Nat) (M : List E), q ≤ 16 ∧ v = .slice a M.length ca ∧ i = .int .i64 q ∧ Hid (16 * k + q ≤ 16 * n + f + 1) ∧ Hid (Lo S w' wr wb bd bs now L c (16 * k + q) (.slice a M.length ca) M))
        (fun _ i _ => 16 - (intOf i).toNat)
      case atStart => exact ⟨0, a, ca, M, by omega, rfl, rfl, hT, hM⟩
      case round =>
        clear hM hT
        obtain ⟨q, a, ca, M, hq, rfl, rfl, hT, hM⟩ := hrel
        by_cases hlq : q < 16
        · have hdq : decide ((q : Int) < 16) = true := by simp; omega
          by_cases hbr : 16 * n + f < 16 * k + q
          · -- the clock does not come here
            have hK : Hid (∀ i, i < 65 → (i < 16 * k + q ↔ i ≤ 16 * n + f)) := ⟨fun i hi => by have := hT.out; omega⟩
            have hn4 : n < 4 := by omega
            have hd4 : decide (4 ≤ n) = false := by simp; omega
            have hd5 : decide ((n : Int) ≥ 4) = false := by simp; omega
            by_cases hkn : n < k
            · have hd1 : decide (n < k) = true := by simp; omega
              go_wp2_with fail
              rw [Exit.noGoto_ret]
              go_ret
              exact ⟨a, ca, M, 16 * k + q, rfl, hK.out, by omega, hM.out⟩
            · have hkn2 : k = n := by omega
              have hd1 : decide (n < k) = false := by simp; omega
              have hd2 : ((k : Int) == n) = true := by simp; omega
              have hd3 : decide (f < q) = true := by simp; omega
              replace hkn2 : Hid _ := ⟨hkn2⟩
              go_wp2_with (go_at_call 41; refine (hcf _).mono ?_; rintro e w' ⟨rfl, rfl⟩)
              rw [Exit.noGoto_ret]
              go_ret
              exact ⟨a, ca, M, 16 * k + q, rfl, hK.out, by omega, hM.out⟩
          · have cs := hM.out.wf.cs hlt hlq
            have hs1 := hM.out.wf.st (16 * k + q) (by omega)
            simp only [Nat.lt_irrefl, if_false] at hs1
            have hcl : Hid ((c (16 * k + q)).length ≤ 100000) := ⟨Nat.le_trans (sub_len hs1.nd fun x hx => hC.sub _ x (by omega) hx) hC.len⟩
            have hT2 : Hid (16 * k + (q + 1) ≤ 16 * n + f + 1) := ⟨by omega⟩
            generalize hB : bs (16 * k + q) = b at *
            by_cases hkn : k = n
            · have hd1 : decide (n < k) = false := by simp; omega
              have hd2 : ((k : Int) == n) = true := by simp; omega
              have hd3 : decide (f < q) = false := by simp; omega
              replace hkn : Hid _ := ⟨hkn⟩
              replace hB : Hid _ := ⟨hB⟩
              go_wp2_with (go_at_call 41; refine (hcf _).mono ?_; rintro e w' ⟨rfl, rfl⟩)
              refine (empty_any _ hs1 hcl.out).mono ?_
              rintro r w2 ⟨g, cap, ss, rfl, hr, hg, hn, hm, hs2, hg2⟩
              obtain ⟨a2, ca2, w3, hrun, hL3⟩ := hM.out.next hC hS.out hSl.out (by omega) hr hg hn hm (by rw [hB.out]; exact hs2) (by rw [hB.out]; exact hg2)
              replace hr : Hid _ := ⟨hr⟩
              replace hm : Hid _ := ⟨hm⟩
              replace hs2 : Hid _ := ⟨hs2⟩
              replace hg2 : Hid _ := ⟨hg2⟩
              replace hL3 : Hid _ := ⟨hL3⟩
              clear cs hs1
              go_wp2_with (at_builtin; refine wpList_append_run rfl _ _ 36 rfl _ _ rfl rfl hrun ?_)
              go_roundw
              case rel => exact ⟨q + 1, a2, ca2, M ++ ss, by omega, by simp, by go_num, hT2, hL3⟩
              case measure => simp [intOf]; omega
            · have hd1 : decide (n < k) = false := by simp; omega
              have hd2 : ((k : Int) == n) = false := by simp; omega
              replace hkn : Hid _ := ⟨hkn⟩
              replace hB : Hid _ := ⟨hB⟩
              go_wp2_with fail
              refine (empty_any _ hs1 hcl.out).mono ?_
              rintro r w2 ⟨g, cap, ss, rfl, hr, hg, hn, hm, hs2, hg2⟩
              obtain ⟨a2, ca2, w3, hrun, hL3⟩ := hM.out.next hC hS.out hSl.out (by omega) hr hg hn hm (by rw [hB.out]; exact hs2) (by rw [hB.out]; exact hg2)
              replace hr : Hid _ := ⟨hr⟩
              replace hm : Hid _ := ⟨hm⟩
              replace hs2 : Hid _ := ⟨hs2⟩
              replace hg2 : Hid _ := ⟨hg2⟩
              replace hL3 : Hid _ := ⟨hL3⟩
              clear cs hs1
              go_wp2_with (at_builtin; refine wpList_append_run rfl _ _ 36 rfl _ _ rfl rfl hrun ?_)
              go_roundw
              case rel => exact ⟨q + 1, a2, ca2, M ++ ss, by omega, by simp, by go_num, hT2, hL3⟩
              case measure => simp [intOf]; omega
        · have hdq : decide ((q : Int) < 16) = false := by simp; omega
          have hqe : q = 16 := by omega
          subst hqe
          go_wp2_with fail
          go_roundw
          case rel => exact ⟨k + 1, a, ca, M, by omega, rfl, by go_num, hT, hM⟩
          case measure => simp [intOf]; omega
    · have hd : decide ((k : Int) < 4) = false := by simp; omega
      have hke : k = 4 := by omega
      subst hke
      by_cases hn4 : n < 4
      · have hd4 : decide (4 ≤ n) = false := by simp; omega
        have hd5 : decide ((n : Int) ≥ 4) = false := by simp; omega
        go_wp2_with fail
        rw [Exit.noGoto_ret]
        go_ret
        exact ⟨a, ca, M, 64, rfl, fun i hi => by have := hT.out; omega, by omega, hM.out⟩
      · have hd4 : decide (4 ≤ n) = true := by simp; omega
        have hd5 : decide ((n : Int) ≥ 4) = true := by simp; omega
        have cs := hM.out.wf.cn (i := 64) (by omega)
        simp only [Nat.reduceAdd] at cs
        have hs1 := hM.out.wf.st 64 (by omega)
        simp only [Nat.reduceMul, Nat.lt_irrefl, if_false] at hs1
        have hcl : Hid ((c 64).length ≤ 100000) := ⟨Nat.le_trans (sub_len hs1.nd fun x hx => hC.sub _ x (by omega) hx) hC.len⟩
        generalize hB : bs 64 = b at *
        replace hB : Hid _ := ⟨hB⟩
        go_wp2_with fail
        refine (empty_any _ hs1 hcl.out).mono ?_
        rintro r w2 ⟨g, cap, ss, rfl, hr, hg, hn, hm, hs2, hg2⟩
        obtain ⟨a2, ca2, w3, hrun, hL3⟩ := hM.out.next hC hS.out hSl.out (by omega) hr hg hn hm (by show Sset w2 (bs 64) []; rw [hB.out]; exact hs2) (by show wr.grownBy w2 (some (bs 64)); rw [hB.out]; exact hg2)
        replace hr : Hid _ := ⟨hr⟩
        replace hm : Hid _ := ⟨hm⟩
        replace hs2 : Hid _ := ⟨hs2⟩
        replace hg2 : Hid _ := ⟨hg2⟩
        replace hL3 : Hid _ := ⟨hL3⟩
        clear cs hs1
        go_wp2_with (at_builtin; refine wpList_append_run rfl _ _ 36 rfl _ _ rfl rfl hrun ?_)
        rw [Exit.noGoto_ret]
        go_ret
        exact ⟨a2, ca2, M ++ ss, 65, by rw [List.length_append]; rfl, fun i hi => by omega, by omega, hL3.out⟩
end Go.Proofs.Ytlljfgpmjpmoiaa
