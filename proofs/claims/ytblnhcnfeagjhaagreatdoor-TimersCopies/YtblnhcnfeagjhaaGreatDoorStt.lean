/- Table.Set of a timer whose steps may be none. -/
import Derived.Test.YtblnhcnfeagjhaaGreatDoorSet
namespace Go.Proofs.YtblnhcnfeagjhaaGreatDoor
open Go.RowKit Go.IntWalk Go.Maps Go.Shelf
set_option linter.unusedVariables false
theorem Sps.kept2 {n₀ : Nat} {w w' : World} {v : Value} {xs : List Sp} (h : Sps n₀ w v xs) (hb : ∀ k, v.ownBlock = some k → k < n₀ → xs ≠ [] → w'.heap[k]? = w.heap[k]?) : Sps n₀ w' v xs := by
  rcases id h with h1 | ⟨b, off, cap, h1, h2⟩
  · exact .inl h1
  · by_cases hx : xs = []
    · subst hx
      exact .inl ⟨.inr ⟨_, cap, by simpa using h1⟩, rfl⟩
    · exact h.kept fun k hk hl => hb k hk hl hx
set_option maxRecDepth 100000 in
set_option maxHeartbeats 4000000 in
theorem set_wait2 (w : World) (hD : Dr w) {S : Nat → Prop} {tb : Nat} {now : Int} {M : List Tmr} {L1 : List W.E} {L2 : List Q.E} (h : Tab S w tb now M L1 L2) (hS : ∀ k, S k → k < w.heap.size) (x : Tmr) (hx : Sps w.heap.size w x.v x.xs) (hxa : ∀ k, x.v.ownBlock = some k → x.xs ≠ [] → ¬ S k)
    (h0 : 0 ≤ x.at_ ∧ 0 ≤ x.ev) (hr : tR x = true) (hl : M.length < 10000) (ha : now < x.at_) :
    Calls Tryz.prog 12 #[ptr tb, x.val] w fun r w' => r = .returned (.int .i64 0) ∧ (∃ v', Tab (Gw S w w') w' tb now ({ x with v := v' } :: delT x.nm M) (W.putE ⟨x.nm, x.at_⟩ (W.delN x.nm L1)) (Q.delN x.nm L2)) ∧ Kp S w w' := by
  have htr := (tR_iff x).1 hr
  have hnm : x.nm.size ≤ maxLen := by unfold maxLen; omega
  have hxl : x.xs.length ≤ 100000 := by
    have := htr.2.2.2.2
    unfold wrE at this
    split at this
    · omega
    · omega
  have hga := World.grownBy_alloc w (bT x.nm x.vr x.at_ x.ev x.v) none
  have hc1 := tright_any (w.alloc (bT x.nm x.vr x.at_ x.ev x.v)) (hD.keep hga) x ((hx.keep hga (Nat.le_refl _)).up hga.size) ⟨hr⟩
  have hB := World.alloc_heap_new w (bT x.nm x.vr x.at_ x.ev x.v)
  replace hc1 : Hid _ := ⟨hc1⟩
  replace h : Hid _ := ⟨h⟩
  replace hx : Hid _ := ⟨hx⟩
  replace hS : Hid _ := ⟨hS⟩
  obtain ⟨nm, vr, a, ev, v, xs⟩ := x
  simp only [Tmr.val] at hc1 ⊢
  simp only at hB hga hnm hxl h0 ha htr hx hxa
  go_enter Tryz.func12, Tryz.ntmps12
  go_wp2_with fail
  refine hc1.out.mono ?_
  rintro r w1 ⟨rfl, hg1⟩
  clear hc1
  have hg01 := grown_none hga hg1
  have hB1 := (hg1.block w.heap.size (by simp) (by simp)).trans hB
  have hT1 := h.out.keep hg01
  have hdr := drop_t w1 hT1 nm hnm
  obtain ⟨c0, c1, c2, c3, c4, f0⟩ := own_five hB1
  replace hdr : Hid _ := ⟨hdr⟩
  replace hg01 : Hid _ := ⟨hg01⟩
  replace hB1 : Hid _ := ⟨hB1⟩
  clear hT1 hg1
  go_wp2_with fail
  refine hdr.out.mono ?_
  rintro r w2 ⟨rfl, hT2, hK2⟩
  clear hdr c0 c1 c2 c3 c4 f0
  have hs01 := hg01.out.size
  have hs2 := hK2.size
  have hwl : w.heap.size < w1.heap.size := (Array.getElem?_eq_some_iff.1 hB1.out).1
  have hB2 := (hK2.block w.heap.size hwl (fun e => by have := hS.out _ e; omega)).trans hB1.out
  obtain ⟨c0, c1, c2, c3, c4, f0⟩ := own_five hB2
  have hK02 : Kp S w w2 := (Kp.of0 hg01.out).trans hK2 (fun _ _ h => h)
  have hx2 : Sps w2.heap.size w2 v xs := by
    have h1 := (hx.out.keep hg01.out (Nat.le_refl _))
    exact (h1.kept2 fun k hk hl hne => hK2.block k (by omega) (hxa k hk hne)).up (by omega)
  have hap := apart_any w2 ⟨nm, vr, a, ev, v, xs⟩ hx2 hxl
  simp only [Tmr.val] at hap
  replace hap : Hid _ := ⟨hap⟩
  replace hT2 : Hid _ := ⟨hT2⟩
  replace hK02 : Hid _ := ⟨hK02⟩
  clear hK2 hx2
  go_wp2_with fail
  refine hap.out.mono ?_
  rintro r w3 ⟨v', rfl, hs3, hn3, hg3⟩
  clear hap c0 c1 c2 c3 c4 f0
  have hly := lay_wait w3 (hT2.out.keep hg3) ⟨nm, vr, a, ev, v', xs⟩ hs3 (fun k hk => ⟨(hn3 k hk).2, fun e => by
      have := (hn3 k hk).1
      rcases e with e | e
      · have := hS.out k e; omega
      · omega⟩) (fun y hy => (mem_delT.1 hy).2) ⟨h0, by
      have h2 := hr
      exact h2⟩ (Nat.lt_of_le_of_lt (delT_le nm M) hl) ha
  simp only [Tmr.val] at hly
  replace hly : Hid _ := ⟨hly⟩
  replace hn3 : Hid _ := ⟨hn3⟩
  replace hg3 : Hid _ := ⟨hg3⟩
  clear hs3
  go_wp2_with fail
  refine hly.out.mono ?_
  rintro r w4 ⟨rfl, hT4, hK4⟩
  have hs3 := hg3.out.size
  have hs4 := hK4.size
  have hres : Hid (Tab (Gw S w w4) w4 tb now (⟨nm, vr, a, ev, v', xs⟩ :: delT nm M) (W.putE ⟨nm, a⟩ (W.delN nm L1)) (Q.delN nm L2) ∧ Kp S w w4) := ⟨hT4.mono fun k hk => by
    rcases hk with ((hk | hk) | hk) | hk
    · exact .inl hk
    · exact .inr ⟨by omega, by omega⟩
    · exact .inr ⟨by omega, hk.2⟩
    · have := hn3.out k hk
      exact .inr ⟨by omega, by omega⟩, (hK02.out.trans (Kp.of0 (C := S) hg3.out) (fun _ _ h => h)).trans hK4 (fun k hl hk => by
      rcases hk with hk | hk
      · exact hk
      · omega)⟩
  clear hT4 hK4 hly hn3 hg3 hT2 hK02
  go_wp2
  go_ret
  exact ⟨rfl, ⟨_, hres.out.1⟩, hres.out.2⟩
set_option maxRecDepth 100000 in
set_option maxHeartbeats 4000000 in
theorem set_due2 (w : World) (hD : Dr w) {S : Nat → Prop} {tb : Nat} {now : Int} {M : List Tmr} {L1 : List W.E} {L2 : List Q.E} (h : Tab S w tb now M L1 L2) (hS : ∀ k, S k → k < w.heap.size) (x : Tmr) (hx : Sps w.heap.size w x.v x.xs) (hxa : ∀ k, x.v.ownBlock = some k → x.xs ≠ [] → ¬ S k)
    (h0 : 0 ≤ x.at_ ∧ 0 ≤ x.ev) (hr : tR x = true) (hl : M.length < 10000) (ha : x.at_ ≤ now) :
    Calls Tryz.prog 12 #[ptr tb, x.val] w fun r w' => r = .returned (.int .i64 0) ∧ (∃ v', Tab (Gw S w w') w' tb now ({ x with v := v' } :: delT x.nm M) (W.delN x.nm L1) (Q.putE ⟨x.nm, x.at_⟩ (Q.delN x.nm L2))) ∧ Kp S w w' := by
  have htr := (tR_iff x).1 hr
  have hnm : x.nm.size ≤ maxLen := by unfold maxLen; omega
  have hxl : x.xs.length ≤ 100000 := by
    have := htr.2.2.2.2
    unfold wrE at this
    split at this
    · omega
    · omega
  have hga := World.grownBy_alloc w (bT x.nm x.vr x.at_ x.ev x.v) none
  have hc1 := tright_any (w.alloc (bT x.nm x.vr x.at_ x.ev x.v)) (hD.keep hga) x ((hx.keep hga (Nat.le_refl _)).up hga.size) ⟨hr⟩
  have hB := World.alloc_heap_new w (bT x.nm x.vr x.at_ x.ev x.v)
  replace hc1 : Hid _ := ⟨hc1⟩
  replace h : Hid _ := ⟨h⟩
  replace hx : Hid _ := ⟨hx⟩
  replace hS : Hid _ := ⟨hS⟩
  obtain ⟨nm, vr, a, ev, v, xs⟩ := x
  simp only [Tmr.val] at hc1 ⊢
  simp only at hB hga hnm hxl h0 ha htr hx hxa
  go_enter Tryz.func12, Tryz.ntmps12
  go_wp2_with fail
  refine hc1.out.mono ?_
  rintro r w1 ⟨rfl, hg1⟩
  clear hc1
  have hg01 := grown_none hga hg1
  have hB1 := (hg1.block w.heap.size (by simp) (by simp)).trans hB
  have hT1 := h.out.keep hg01
  have hdr := drop_t w1 hT1 nm hnm
  obtain ⟨c0, c1, c2, c3, c4, f0⟩ := own_five hB1
  replace hdr : Hid _ := ⟨hdr⟩
  replace hg01 : Hid _ := ⟨hg01⟩
  replace hB1 : Hid _ := ⟨hB1⟩
  clear hT1 hg1
  go_wp2_with fail
  refine hdr.out.mono ?_
  rintro r w2 ⟨rfl, hT2, hK2⟩
  clear hdr c0 c1 c2 c3 c4 f0
  have hs01 := hg01.out.size
  have hs2 := hK2.size
  have hwl : w.heap.size < w1.heap.size := (Array.getElem?_eq_some_iff.1 hB1.out).1
  have hB2 := (hK2.block w.heap.size hwl (fun e => by have := hS.out _ e; omega)).trans hB1.out
  obtain ⟨c0, c1, c2, c3, c4, f0⟩ := own_five hB2
  have hK02 : Kp S w w2 := (Kp.of0 hg01.out).trans hK2 (fun _ _ h => h)
  have hx2 : Sps w2.heap.size w2 v xs := by
    have h1 := (hx.out.keep hg01.out (Nat.le_refl _))
    exact (h1.kept2 fun k hk hl hne => hK2.block k (by omega) (hxa k hk hne)).up (by omega)
  have hap := apart_any w2 ⟨nm, vr, a, ev, v, xs⟩ hx2 hxl
  simp only [Tmr.val] at hap
  replace hap : Hid _ := ⟨hap⟩
  replace hT2 : Hid _ := ⟨hT2⟩
  replace hK02 : Hid _ := ⟨hK02⟩
  clear hK2 hx2
  go_wp2_with fail
  refine hap.out.mono ?_
  rintro r w3 ⟨v', rfl, hs3, hn3, hg3⟩
  clear hap c0 c1 c2 c3 c4 f0
  have hly := lay_due w3 (hT2.out.keep hg3) ⟨nm, vr, a, ev, v', xs⟩ hs3 (fun k hk => ⟨(hn3 k hk).2, fun e => by
      have := (hn3 k hk).1
      rcases e with e | e
      · have := hS.out k e; omega
      · omega⟩) (fun y hy => (mem_delT.1 hy).2) ⟨h0, by
      have h2 := hr
      exact h2⟩ (Nat.lt_of_le_of_lt (delT_le nm M) hl) ha
  simp only [Tmr.val] at hly
  replace hly : Hid _ := ⟨hly⟩
  replace hn3 : Hid _ := ⟨hn3⟩
  replace hg3 : Hid _ := ⟨hg3⟩
  clear hs3
  go_wp2_with fail
  refine hly.out.mono ?_
  rintro r w4 ⟨rfl, hT4, hK4⟩
  have hs3 := hg3.out.size
  have hs4 := hK4.size
  have hres : Hid (Tab (Gw S w w4) w4 tb now (⟨nm, vr, a, ev, v', xs⟩ :: delT nm M) (W.delN nm L1) (Q.putE ⟨nm, a⟩ (Q.delN nm L2)) ∧ Kp S w w4) := ⟨hT4.mono fun k hk => by
    rcases hk with ((hk | hk) | hk) | hk
    · exact .inl hk
    · exact .inr ⟨by omega, by omega⟩
    · exact .inr ⟨by omega, hk.2⟩
    · have := hn3.out k hk
      exact .inr ⟨by omega, by omega⟩, (hK02.out.trans (Kp.of0 (C := S) hg3.out) (fun _ _ h => h)).trans hK4 (fun k hl hk => by
      rcases hk with hk | hk
      · exact hk
      · omega)⟩
  clear hT4 hK4 hly hn3 hg3 hT2 hK02
  go_wp2
  go_ret
  exact ⟨rfl, ⟨_, hres.out.1⟩, hres.out.2⟩
/-- Set, whatever is laid. -/
theorem set_all (w : World) (hD : Dr w) {S : Nat → Prop} {tb : Nat} {now : Int} {M : List Tmr} {L1 : List W.E} {L2 : List Q.E} (h : Tab S w tb now M L1 L2) (hS : ∀ k, S k → k < w.heap.size) (x : Tmr) (hx : Sps w.heap.size w x.v x.xs) (hxa : ∀ k, x.v.ownBlock = some k → x.xs ≠ [] → ¬ S k)
    (h0 : 0 ≤ x.at_ ∧ 0 ≤ x.ev) (hl : M.length < 10000) :
    Calls Tryz.prog 12 #[ptr tb, x.val] w fun r w' => (∃ n, r = .returned (.int .i64 n)) ∧ (∃ M' L1' L2', Tab (Gw S w w') w' tb now M' L1' L2' ∧ M'.length ≤ M.length + 1) ∧ Kp S w w' := by
  cases hr : tR x with
  | false =>
    refine (set_bad w hD tb x hx hr).mono ?_
    rintro r w' ⟨rfl, hg⟩
    exact ⟨⟨_, rfl⟩, ⟨M, L1, L2, (h.keep hg).mono fun k hk => .inl hk, by omega⟩, Kp.of0 hg⟩
  | true =>
    have hd := delT_le x.nm M
    by_cases ha : x.at_ ≤ now
    · refine (set_due2 w hD h hS x hx hxa h0 hr hl ha).mono ?_
      rintro r w' ⟨rfl, ⟨v', hT⟩, hK⟩
      exact ⟨⟨_, rfl⟩, ⟨_, _, _, hT, by simpa using hd⟩, hK⟩
    · refine (set_wait2 w hD h hS x hx hxa h0 hr hl (by omega)).mono ?_
      rintro r w' ⟨rfl, ⟨v', hT⟩, hK⟩
      exact ⟨⟨_, rfl⟩, ⟨_, _, _, hT, by simpa using hd⟩, hK⟩
end Go.Proofs.YtblnhcnfeagjhaaGreatDoor
